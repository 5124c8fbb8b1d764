/-
  Together: IterKit, IterOwn, BackI, ReadSecS
-/
import Derived.Test.YtdhfbblameiloaaND1
import Derived.RangeFuncNested
import Derived.RangeFuncBound
import Derived.RangeFuncCalls
import Derived.RangeFuncLeaves
import Derived.OwnWalkIn
import Derived.TacticsInMore
import Derived.LoopNIn
import Derived.LoopIn
import Derived.Shelf.RegionOpen
import Derived.Test.YtdhfbblameiloaaND3
import Derived.Test.YtdhfbblameiloaaND11
import Derived.Test.YtdhfbblameiloaaND9
/-
  What a round of a loop over an iterator keeps: all that lay at the start of the call, and the two boxes that the iterator holds.
-/
namespace Go.Proofs.Ytdhfbblameiloaa
open Go.RowKit
set_option maxRecDepth 4000

/-- What a round that goes on keeps. -/
structure KpB (n₀ Bl Bv : Nat) (W W' : World) : Prop where
  below : Below n₀ W W'
  bl : W'.heap[Bl]? = W.heap[Bl]?
  bv : W'.heap[Bv]? = W.heap[Bv]?
theorem KpB.refl (n₀ Bl Bv : Nat) (W : World) : KpB n₀ Bl Bv W W := ⟨Below.refl _ _, rfl, rfl⟩
theorem KpB.trans {n₀ Bl Bv : Nat} {A B C : World} (h : KpB n₀ Bl Bv A B) (k : KpB n₀ Bl Bv B C) : KpB n₀ Bl Bv A C := ⟨h.below.trans k.below, k.bl.trans h.bl, k.bv.trans h.bv⟩
/-- Whatever leaves all that lay as it lay. -/
theorem KpB.ofBelow {n₀ Bl Bv : Nat} {W W' : World} (h : Below W.heap.size W W') (hn : n₀ ≤ W.heap.size) (hl : Bl < W.heap.size) (hv : Bv < W.heap.size) : KpB n₀ Bl Bv W W' := ⟨h.mono hn, h.block Bl hl, h.block Bv hv⟩
/-- A step that turns one block. -/
theorem KpB.ofGrown {n₀ Bl Bv : Nat} {W W' : World} {row : Option Nat} (hg : W.grownBy W' row) (hn : n₀ ≤ W.heap.size) (hl : Bl < W.heap.size) (hv : Bv < W.heap.size) (hr : ∀ k, row = some k → n₀ ≤ k ∧ k ≠ Bl ∧ k ≠ Bv) : KpB n₀ Bl Bv W W' :=
  ⟨⟨hg.os, hg.tape, hg.output, hg.size, fun k hk => hg.block k (by omega) (fun e => by have := (hr k e.symm).1; omega)⟩, hg.block Bl hl (fun e => (hr Bl e.symm).2.1 rfl), hg.block Bv hv (fun e => (hr Bv e.symm).2.2 rfl)⟩
theorem KpB.put {n₀ Bl Bv : Nat} {w : World} (hn : n₀ ≤ w.heap.size) (hl : Bl < w.heap.size) (hv : Bv < w.heap.size) (W : World) (l : Nat) (o o' : Obj) (hle : w.heap.size ≤ l) (h : W.heap[l]? = some o) (h1 : o.isCells = false) (h2 : o.isWalk = false) : KpB n₀ Bl Bv W (W.putObj l o') :=
  ⟨belowK_b hn W l o o' hle h h1 h2, World.putObj_heap_other (by omega), World.putObj_heap_other (by omega)⟩
theorem Boxed.kpl {n₀ Bl Bv : Nat} {W W' : World} {t : TypeId} {v : Value} (h : Boxed W Bl t v) (k : KpB n₀ Bl Bv W W') : Boxed W' Bl t v := k.bl.trans h
theorem Boxed.kpv {n₀ Bl Bv : Nat} {W W' : World} {t : TypeId} {v : Value} (h : Boxed W Bv t v) (k : KpB n₀ Bl Bv W W') : Boxed W' Bv t v := k.bv.trans h
theorem Boxed.below' {W W' : World} {B : Nat} {t : TypeId} {v : Value} (h : Boxed W B t v) (k : Below W.heap.size W W') : Boxed W' B t v := (k.block B h.lt).trans h
theorem grownBy_drew' (W : World) : W.grownBy W.drew none := ⟨rfl, rfl, rfl, Nat.le_refl _, fun _ _ _ => rfl⟩
theorem grownBy_below' {W W' : World} (h : Below W.heap.size W W') : W.grownBy W' none := ⟨h.os, h.tape, h.output, h.size, fun k hk _ => h.block k hk⟩
theorem AbidesFrom.step {β : Type} {B : Nat} {J : β → World → Prop} (h : AbidesFrom B J) {s : β} {W W' : World} (hs : J s W) (hg : W.grownBy W' none) : J s W' := h s W W' none hs hg (fun _ e => by cases e)
/-- 'KeepsFrom' of whatever leaves all that lay as it lay. -/
theorem KeepsFrom.ofBelow {B : Nat} {W W' : World} (h : Below W.heap.size W W') : KeepsFrom B W W' := ⟨h.size, fun k _ _ hk _ => (h.block k (Array.getElem?_eq_some_iff.1 hk).1).trans hk⟩
/-- 'KpB .. w₀ ·' abides what the loop itself turns. -/
theorem ownFrom_kpB {β : Type} {n₀ Bl Bv B' : Nat} {w₀ : World} (hn : n₀ ≤ B') (hl : Bl < B') (hv : Bv < B') (hB : B' ≤ w₀.heap.size) : OwnFrom B' (fun (_ : β) W => KpB n₀ Bl Bv w₀ W) :=
  fun _ X Y row hs hg hr => by
    have hs0 := hs.below.size
    refine ⟨hs.below.trans ⟨hg.os, hg.tape, hg.output, hg.size, fun k hk => hg.block k (by omega) (fun e => by have := (hr k e.symm).1; omega)⟩, ?_, ?_⟩
    · exact (hg.block Bl (by omega) (fun e => by have := (hr Bl e.symm).1; omega)).trans hs.bl
    · exact (hg.block Bv (by omega) (fun e => by have := (hr Bv e.symm).1; omega)).trans hs.bv

/-- The first j of the indices. -/
theorem fin_take {k j : Nat} (h : j < k) : (List.finRange k).take (j + 1) = (List.finRange k).take j ++ [⟨j, h⟩] := by
  rw [List.take_add_one, List.getElem?_eq_getElem (by simpa using h)]
  simp
theorem fin_len {k j : Nat} (h : j ≤ k) : ((List.finRange k).take j).length = j := by simp [h]
end Go.Proofs.Ytdhfbblameiloaa

/-
  A box of a round, and what the loop itself turns.
-/
namespace Go.Proofs.Ytdhfbblameiloaa
open Go.RowKit
set_option maxRecDepth 4000

theorem Boxed.ownK {W W' : World} {row : Option Nat} {B : Nat} {t : TypeId} {v : Value} (h : Boxed W B t v) (hg : W.grownBy W' row) (hr : ∀ r, row = some r → ∃ o : Obj, W.heap[r]? = some o ∧ o.isCells = false) : Boxed W' B t v := by
  obtain ⟨o, ho, hc⟩ := cells_of_cell h.cell
  exact (grownBy_keeps_cells hg hr ho hc).trans h
theorem Below.put' {n₀ : Nat} {w₀ W : World} {D : Nat} {o o' : Obj} (h : Below n₀ w₀ W) (hn : n₀ ≤ D) (hK : W.heap[D]? = some o) : Below n₀ w₀ (W.putObj D o') :=
  h.trans ((Below.refl n₀ W).grown (grownBy_putObj' W D o') (by have := (Array.getElem?_eq_some_iff.1 hK).1; omega) (fun k e => by cases e; omega))
end Go.Proofs.Ytdhfbblameiloaa

/-
  slices.Backward of a row of writes.
-/
namespace Go.Proofs.Ytdhfbblameiloaa
open Go.RowKit
set_option maxRecDepth 4000

attribute [local go_sem] Oper.semAt_some

/-- The write at place i from the end, as it is yielded. -/
abbrev encK (n : Nat) (fn : Nat → Int) (us : Nat → Value) (x : Nat) : Array Value := #[.int .i64 ((n - 1 - x : Nat) : Int), .agg #[.int .i64 (fn (n - 1 - x)), us (n - 1 - x)]]
/-- The cells of a row of writes. -/
def WCells (w : World) (a : Option Addr) (n : Nat) (fn : Nat → Int) (us : Nat → Value) : Prop := 0 < n → ∃ b off, a = some ⟨b, off, none⟩ ∧ b < w.heap.size ∧ ∀ i, i < n → w.cell? ⟨b, off + i * 2, none⟩ = some (.int .i64 (fn i)) ∧ w.cell? ⟨b, off + i * 2 + 1, none⟩ = some (us i) ∧ (us i).oneCell' = true
theorem WCells.below {w w' : World} {a : Option Addr} {n : Nat} {fn : Nat → Int} {us : Nat → Value} (h : WCells w a n fn us) (hb : Below w.heap.size w w') : WCells w' a n fn us := by
  intro hn
  obtain ⟨b, off, e, hlt, hc⟩ := h hn
  refine ⟨b, off, e, Nat.lt_of_lt_of_le hlt hb.size, fun i hi => ?_⟩
  obtain ⟨h1, h2, h3⟩ := hc i hi
  exact ⟨by rw [hb.cell (p := ⟨b, off + i * 2, none⟩) hlt]; exact h1, by rw [hb.cell (p := ⟨b, off + i * 2 + 1, none⟩) hlt]; exact h2, h3⟩
/-- A row of writes that reads, by functions of the index. -/
theorem wcells_of {w : World} {a : Option Addr} {cap : Nat} {l : List (Int × List Int)} (h : WView w a cap l) : ∃ us : Nat → Value, WCells w a l.length (fun i => (l.getD i (0, [])).1) us ∧ ∀ i (hi : i < l.length), LV w (us i) (l[i]).2 := by
  by_cases hn : 0 < l.length
  case neg => exact ⟨fun _ => undef, fun h => absurd h hn, fun i hi => absurd (Nat.lt_of_le_of_lt (Nat.zero_le _) hi) hn⟩
  obtain ⟨b, off, e, hlt, hc⟩ := h.cells hn
  have key : ∀ i (hi : i < l.length), ∃ u, w.cell? ⟨b, off + i * 2, none⟩ = some (.int .i64 (l[i]).1) ∧ w.cell? ⟨b, off + i * 2 + 1, none⟩ = some u ∧ LV w u (l[i]).2 := by
    intro i hi
    obtain ⟨us, ⟨u, rfl, hu⟩, h2⟩ := hc i l[i] (List.getElem?_eq_getElem hi)
    exact ⟨u, by simpa using h2 0 _ rfl, by simpa using h2 1 _ rfl, hu⟩
  refine ⟨fun i => (w.cell? ⟨b, off + i * 2 + 1, none⟩).getD undef, fun _ => ⟨b, off, e, hlt, fun i hi => ?_⟩, fun i hi => ?_⟩
  · obtain ⟨u, h1, h2, h3⟩ := key i hi
    refine ⟨by rw [h1]; simp [hi], by show _ = some ((w.cell? ⟨b, off + i * 2 + 1, none⟩).getD undef); rw [h2]; rfl, ?_⟩
    show ((w.cell? ⟨b, off + i * 2 + 1, none⟩).getD undef).oneCell' = true
    rw [h2]
    obtain ⟨a', c', rfl, -, -⟩ := h3.is
    rfl
  · obtain ⟨u, h1, h2, h3⟩ := key i hi
    show LV w ((w.cell? ⟨b, off + i * 2 + 1, none⟩).getD undef) _
    rw [h2]
    exact h3

set_option linter.unusedSimpArgs false in
set_option maxRecDepth 100000 in
set_option maxHeartbeats 4000000 in
theorem back1_in (NN : Nat) (hNN : 1 ≤ NN) (l B : Nat) (a : Option Addr) (n cap : Nat) (fn : Nat → Int) (us : Nat → Value) (w : World) (hp : WCells w a n fn us) (hn : n ≤ 281474976710656)
    (J Jx : List (Fin n) → World → Prop) (W : World)
    (hY : ∀ pre x W1, J pre W1 → pre.length < n → YieldAt Fence.wide (NN - 1) Try.prog l (encK n fn us x.1) W1 fun e W' =>
      (e = .returned (.bool true) ∧ J (pre ++ [x]) W' ∧ KpB w.heap.size B B W1 W') ∨ (e = .returned (.bool false) ∧ Jx (pre ++ [x]) W'))
    (hb : Below w.heap.size w W) (hl : Boxed W B 29 (.slice a n cap)) (h0 : J [] W) :
    CallsIn Fence.wide NN Try.prog 126 #[.func (.yield l) #[] #[], .pointer (some ⟨B, 0, none⟩)] W fun e W' => (∃ v, e = .returned v) ∧
      ((∃ xs, xs = List.finRange n ∧ J xs W') ∨ (∃ pre, pre <+: List.finRange n ∧ Jx pre W')) := by
  refine callsIn_of_wp Try.func126 rfl trivial ?_ rfl
  simp only [Try.ntmps126, List.size_toArray, List.length_cons, List.length_nil, Nat.reduceAdd, Nat.reduceSub, Array.replicate_succ, Array.replicate_zero, List.push_toArray, List.append_toArray, List.nil_append, List.cons_append]
  have cl := hl.cell
  have hw0 : IntKind.i64.wrap ((n : Int) - 1) = (n : Int) - 1 := by rw [IntKind.wrap_i64]; omega
  gi_wp2
  gi_loopw [3] (fun i wr => ∃ (j : Nat), j ≤ n ∧ i = .int .i64 ((n : Int) - 1 - j) ∧ J ((List.finRange n).take j) wr ∧ KpB w.heap.size B B W wr) (fun i _ => ((intOf i) + 1).toNat)
  case atStart => exact ⟨0, Nat.zero_le _, by simp, h0, KpB.refl _ _ _ _⟩
  case round =>
    obtain ⟨j, hj, rfl, hJs, hk⟩ := hrel
    by_cases hlt : j < n
    · have hbw : Below w.heap.size w wr := hb.trans hk.below
      obtain ⟨b1, o1, rfl, hb1, hd1⟩ := (hp.below hbw) (by omega)
      obtain ⟨x0, x1, xo⟩ := hd1 (n - 1 - j) (by omega)
      have cl' := (Boxed.kpl hl hk).cell
      have ei : (n : Int) - 1 - j = ((n - 1 - j : Nat) : Int) := by omega
      have hfl : ((List.finRange n).take j).length < n := by rw [fin_len hj]; exact hlt
      have HU : Hid ((List.finRange n).take (j + 1) = (List.finRange n).take j ++ [⟨j, hlt⟩]) := fin_take hlt
      obtain ⟨fn', tmps, assign, body, hy, hR⟩ := hY ((List.finRange n).take j) ⟨j, hlt⟩ wr hJs hfl
      dsimp only [encK] at hy
      have hw1 : IntKind.i64.wrap (((n - 1 - j : Nat) : Int) - 1) = ((n - 1 - j : Nat) : Int) - 1 := by rw [IntKind.wrap_i64]; omega
      have e2 : ((n - 1 - j : Nat) : Int) - 1 = (n : Int) - 1 - ((j + 1 : Nat) : Int) := by omega
      have hin : n - 1 - j < n := by omega
      rw [ei]
      obtain ⟨p, hpp⟩ : ∃ p, Hid (n - 1 - j = p) := ⟨_, rfl⟩
      rw [hpp.out] at x0 x1 xo hy hw1 e2 hin ⊢
      have HE2 : Hid ((p : Int) - 1 = (n : Int) - 1 - ((j + 1 : Nat) : Int)) := e2
      have hpz : (p : Int) < (n : Int) := by omega
      obtain ⟨z, hz⟩ : ∃ z, Hid (fn p = z) := ⟨_, rfl⟩
      obtain ⟨u, hu⟩ : ∃ u, Hid (us p = u) := ⟨_, rfl⟩
      rw [hz.out] at x0 hy
      rw [hu.out] at x1 xo hy
      clear hd1 cl hJs ei e2
      gi_wp2
      refine hR.mono ?_
      rintro e W3 (⟨rfl, hJ3, hk3⟩ | ⟨rfl, hJx3⟩)
      · clear hy hR x0 x1 cl'
        have hJ4 : Hid (J ((List.finRange n).take (j + 1)) W3) := by show J _ W3; rw [HU.out]; exact hJ3
        have HP : Hid (p + j + 1 = n) := by show _ = _; have := hpp.out; omega
        clear hJ3 hpp
        gi_wp2
        go_roundw
        case rel => exact ⟨j + 1, by omega, by rw [HE2.out], hJ4.out, hk.trans hk3⟩
        case measure => simp [intOf]; try omega
      · have hJ4 : Hid (Jx ((List.finRange n).take (j + 1)) W3) := by show Jx _ W3; rw [HU.out]; exact hJx3
        clear hy hR x0 x1 cl' hJx3
        gi_wp2
        refine bodyPost_ret (results_none rfl _ _ _) rfl ?_
        exact ⟨⟨_, rfl⟩, .inr ⟨_, List.take_prefix _ _, hJ4.out⟩⟩
    · obtain rfl : j = n := by omega
      have hJe : Hid (J (List.finRange j) wr) := by
        show J _ wr
        have e : (List.finRange j).take j = List.finRange j := List.take_of_length_le (by simp)
        rw [← e]; exact hJs
      have hz : ¬ (0 : Int) ≤ (j : Int) - 1 - j := by omega
      clear hJs
      gi_wp2
      go_end0
      first
        | exact ⟨⟨_, rfl⟩, .inl hJe.out⟩
        | exact ⟨⟨_, rfl⟩, .inl ⟨_, rfl, hJe.out⟩⟩

theorem back_stops (NN : Nat) (hNN : 1 ≤ NN) (B : Nat) (a : Option Addr) (n cap : Nat) (fn : Nat → Int) (us : Nat → Value) (w : World) (hp : WCells w a n fn us) (hn : n ≤ 281474976710656)
    (W0 : World) (hb : Below w.heap.size w W0) (hl : Boxed W0 B 29 (.slice a n cap)) :
    SeqStopsK Fence.wide NN Try.prog 126 #[.pointer (some ⟨B, 0, none⟩)] (fun x : Fin n => encK n fn us x.1) (KpB w.heap.size B B) (fun xs => xs = List.finRange n) (fun pre => pre <+: List.finRange n) n W0 :=
  fun l J Jx W hW _ _ hY h0 => back1_in NN hNN l B a n cap fn us w hp hn J Jx W hY (hb.trans (hW.mono hb.size)) (Boxed.below' hl hW) h0

set_option maxHeartbeats 1000000 in
/-- slices.Backward boxes its argument. -/
theorem backward_in (NN : Nat) (a : Option Addr) (n cap : Nat) (w : World) :
    CallsIn Fence.wide NN Try.prog 87 #[.slice a n cap] w fun e w' => e = .returned (.func (.func 126) #[] #[.pointer (some ⟨w.heap.size, 0, none⟩)]) ∧ w' = w.alloc (.cells #[.slice a n cap] 29) := by
  refine callsIn_of_wp Try.func87 rfl trivial ?_ rfl
  simp only [Try.ntmps87, List.size_toArray, List.length_cons, List.length_nil, Nat.reduceAdd, Nat.reduceSub, Array.replicate_succ, Array.replicate_zero, List.push_toArray, List.append_toArray, List.nil_append, List.cons_append]
  gi_wp2
  go_ret
  exact ⟨rfl, rfl⟩
end Go.Proofs.Ytdhfbblameiloaa

/-
  The model's ReadSec.
-/
namespace Go.Proofs.Ytdhfbblameiloaa
open Go.RowKit
set_option maxRecDepth 4000

/-- What ReadSec comes to. -/
def ReadTo (w : World) (D : PDisk) (n : Int) (e : Ending) (w' : World) : Prop := ∃ (v : Value) (ok : Bool), e = .returned (.tuple #[v, .bool ok]) ∧ (ok = true ↔ HasS D n) ∧ OB w' w.heap.size v (readB D n) ∧ Below w.heap.size w w'

set_option maxHeartbeats 8000000 in
theorem specReadSec_any (v : Value) (D : PDisk) (n : Int) (w : World) (h : KView w v D) (hf : KFine D) :
    Calls Try.prog 36 #[v, .int .i64 n] w (ReadTo w D n) := by
  obtain ⟨ib, hib, hb0, hb1, hb2⟩ := info_parts Try.info5
  obtain ⟨sa, sc, ca, cc, fa, fc, rfl, hs, hc, hfv⟩ := h.is
  clear h hfv
  have hns := hf.ns
  have hnc := hf.nc
  have HH : Hid (SView w sa sc D.secs ∧ WView w ca cc D.cache ∧ KFine D) := ⟨hs, hc, hf⟩
  clear hs hc hf
  have hB0 := box5_start w (.cells #[.slice sa D.secs.length sc, .slice ca D.cache.length cc, .int .i64 D.ops, .slice fa D.faults.length fc, .bool D.down] 32)
  have hs1 : IntKind.i64.wrap ((D.secs.length : Int) - 1) = (D.secs.length : Int) - 1 := by rw [IntKind.wrap_i64]; omega
  have hs2 : IntKind.i64.wrap ((D.cache.length : Int) - 1) = (D.cache.length : Int) - 1 := by rw [IntKind.wrap_i64]; omega
  by_cases hr : 0 ≤ n ∧ n < D.secs.length
  case neg =>
    have hV := fun W => l1In_no n 0 ((D.secs.length : Int) - 1) W (by omega)
    obtain ⟨hBw0, -⟩ := box5_below hB0
    go_enter Try.func36, Try.ntmps36
    go_wp2_with fail
    refine (hV _).mono ?_
    rintro e w1 ⟨rfl, rfl⟩
    clear hV
    go_wp2
    refine bodyPost_ret (v := .tuple #[.slice (some ⟨w.heap.size + 1, 0, none⟩) 0 0, .bool false]) (by simp [results, Try.results36, go_sem]) rfl ⟨_, false, rfl, by simpa [HasS] using hr, ?_, hBw0.alloc (by simp) _⟩
    rw [readB_none hr]
    exact ⟨_, 0, rfl, Nat.le_refl _, (fun e => by cases e), by simp, .inl rfl⟩
  have hV := fun W => l1In_yes n 0 ((D.secs.length : Int) - 1) W hr.1 (by omega)
  go_enter Try.func36, Try.ntmps36
  go_wp2_with fail
  refine (hV _).mono ?_
  rintro e w1 ⟨rfl, rfl⟩
  clear hV
  go_wp2
  go_loopg [6] D.cache.length (fun q i wr => ∃ k : Nat, k ≤ D.cache.length ∧ q = k ∧ i = .int .i64 ((k : Int) - 1) ∧ Below (w.heap.size + 1) (w.alloc (.cells #[.slice sa D.secs.length sc, .slice ca D.cache.length cc, .int .i64 D.ops, .slice fa D.faults.length fc, .bool D.down] 32)) wr ∧ Hid (lastW D.cache n D.cache.length = lastW D.cache n k))
  case atStart => exact ⟨D.cache.length, Nat.le_refl _, rfl, rfl, hB0, rfl⟩
  case round =>
    clear hB0
    obtain ⟨k, hk, hqk, rfl, hB5, HL⟩ := hrel
    obtain ⟨hB, -⟩ := box5_below hB5
    obtain ⟨y0, y1, y2, y3, y4⟩ := box5 hB5
    have hbE : Below w.heap.size w (wr.alloc (.cells #[] 5)) := hB.alloc hB.size _
    have hbE0 : Below wr.heap.size wr (wr.alloc (.cells #[] 5)) := (Below.refl _ _).alloc (Nat.le_refl _) _
    have hE := own_emptyK wr 5 1
    have hszE : wr.heap.size ≤ (wr.alloc (.cells #[] 5)).heap.size := hbE0.size
    by_cases hlt : 0 < k
    · obtain ⟨j, rfl⟩ : ∃ j, k = j + 1 := ⟨k - 1, by omega⟩
      have hjl : j < D.cache.length := by omega
      obtain ⟨b1, o1, a3, c3, esa, hb1', x0, x1, v0, vn⟩ := wview_at (wview_below HH.out.2.1 hB) hjl
      subst esa
      have hkz : (0 : Int) ≤ (j : Int) := by omega
      have hjz : (j : Int) < (D.cache.length : Int) := by omega
      have e1 : ((j + 1 : Nat) : Int) - 1 = (j : Int) := by omega
      rw [e1]
      have hw1 : IntKind.i64.wrap ((j : Int) - 1) = (j : Int) - 1 := by rw [IntKind.wrap_i64]; omega
      have hpl := HH.out.2.2.cache _ (List.getElem_mem hjl)
      by_cases hN : (D.cache[j]).1 = n
      · have HRB : Hid (readB D n = (D.cache[j]).2) := readB_hit hr (by rw [HL.out, lastW_hit hjl hN])
        rw [hN] at x0
        have v0' := v0.below hbE0
        have hnews := view_news v0'
        have hby := lv_bytes v0
        have hno : a3 = none → (D.cache[j]).2.length = 0 ∧ c3 = 0 := fun e => by have h1 := vn e; have h2 := v0.le; omega
        have hlen : (bl (D.cache[j]).2).length = (D.cache[j]).2.length * 1 := by rw [bl_len]; omega
        obtain ⟨p0, hp0⟩ := hidEx (D.cache[j]).2.length
        obtain ⟨pl, hpl'⟩ := hidEx (D.cache[j]).2
        have hp0v := hp0.out
        have hq : (n == n) = true := beq_self_eq_true _
        rw [hpl'.out] at hnews hby hlen HRB hp0v
        rw [hp0.out] at x1 hno hpl
        rw [hp0v] at hlen
        have hlb : w.heap.size < wr.heap.size := by have := hB5.size; simp at this; omega
        have y1' : (wr.alloc (.cells #[] 5)).cell? ⟨w.heap.size, 1, none⟩ = some (.slice (some ⟨b1, o1, none⟩) D.cache.length cc) := by rw [hbE0.cell (p := ⟨w.heap.size, 1, none⟩) hlb]; exact y1
        have x1' : (wr.alloc (.cells #[] 5)).cell? ⟨b1, o1 + j * 2 + 1, none⟩ = some (.slice a3 p0 c3) := by rw [hbE0.cell (p := ⟨b1, o1 + j * 2 + 1, none⟩) hb1']; exact x1
        clear v0 v0' HL
        go_wp2_with (at_builtin; refine wpList_append_opt rfl (.tmp 31) (.tmp 37) 27 rfl wr.heap.size 5 ib (.int .u8 0) 1 1 Try.underlying27 hib hb0 hb1 hb2 rfl (by decide) _ _ _ rfl hE a3 p0 c3 (bl pl) rfl hno hlen hnews (bl_one _) (by unfold maxLen; omega) (by omega) hszE ?_)
        intro v8 w8 hE8 hgr8
        try rw [Nat.zero_add, List.nil_append] at hE8
        have HO : Hid (OB w8 w.heap.size v8 pl ∧ Below w.heap.size w w8) := ⟨(ob_own_any hE8 hp0v.symm hby).mono hB.size, hbE.grown hgr8 hbE.size (fun k e => by have h1 := own_geK hE k e; have h2 := hB.size; omega)⟩
        clear hE8 hgr8 hE hnews
        go_wp2
        exact bodyPost_ret (v := .tuple #[v8, .bool true]) (by simp [results, Try.results36, go_sem]) rfl ⟨v8, true, rfl, by simpa [HasS] using hr, by rw [HRB.out]; exact HO.out.1, HO.out.2⟩
      · have HL2 : Hid (lastW D.cache n D.cache.length = lastW D.cache n j) := by
          show _ = _
          rw [HL.out, lastW_miss hjl hN]
        obtain ⟨p1, hp1⟩ := hidEx (D.cache[j]).1
        obtain ⟨p0, hp0⟩ := hidEx (D.cache[j]).2.length
        have hN' : ¬ p1 = n := by rw [← hp1.out]; exact hN
        have hq : (p1 == n) = false := beq_eq_false_iff_ne.2 hN'
        rw [hp1.out] at x0
        rw [hp0.out] at x1
        clear v0 HL hE hbE hbE0 hN hpl
        go_wp2
        go_roundg j
        case measure => omega
        case rel => exact ⟨j, by omega, rfl, by go_num, hB5, HL2⟩
    · obtain rfl : k = 0 := by omega
      have hkz : ¬ (0 : Int) ≤ ((0 : Nat) : Int) - 1 := by omega
      obtain ⟨m, hm⟩ : ∃ m : Nat, n = m := ⟨n.toNat, by omega⟩
      subst hm
      have hml : m < D.secs.length := by omega
      obtain ⟨b1, o1, a3, c3, esa, hb1', x0, v0, vn⟩ := sview_at (sview_below HH.out.1 hB) hml
      subst esa
      have hmz : (m : Int) < (D.secs.length : Int) := by omega
      have hpl := HH.out.2.2.sec _ (List.getElem_mem hml)
      have HRB : Hid (readB D (m : Int) = D.secs[m]) := readB_sec hr (by rw [HL.out]; rfl) hml
      have v0' := v0.below hbE0
      have hnews := view_news v0'
      have hby := lv_bytes v0
      have hno : a3 = none → (D.secs[m]).length = 0 ∧ c3 = 0 := fun e => by have h1 := vn e; have h2 := v0.le; omega
      have hlen : (bl D.secs[m]).length = (D.secs[m]).length * 1 := by rw [bl_len]; omega
      obtain ⟨p0, hp0⟩ := hidEx (D.secs[m]).length
      obtain ⟨pl, hpl'⟩ := hidEx D.secs[m]
      have hp0v := hp0.out
      rw [hpl'.out] at hnews hby hlen HRB hp0v
      rw [hp0.out] at x0 hno hpl
      rw [hp0v] at hlen
      have hlb : w.heap.size < wr.heap.size := by have := hB5.size; simp at this; omega
      have y0' : (wr.alloc (.cells #[] 5)).cell? ⟨w.heap.size, 0, none⟩ = some (.slice (some ⟨b1, o1, none⟩) D.secs.length sc) := by rw [hbE0.cell (p := ⟨w.heap.size, 0, none⟩) hlb]; exact y0
      have x0' : (wr.alloc (.cells #[] 5)).cell? ⟨b1, o1 + m, none⟩ = some (.slice a3 p0 c3) := by rw [hbE0.cell (p := ⟨b1, o1 + m, none⟩) hb1']; exact x0
      clear v0 v0' HL
      go_wp2_with (at_builtin; refine wpList_append_opt rfl (.tmp 39) (.tmp 44) 27 rfl wr.heap.size 5 ib (.int .u8 0) 1 1 Try.underlying27 hib hb0 hb1 hb2 rfl (by decide) _ _ _ rfl hE a3 p0 c3 (bl pl) rfl hno hlen hnews (bl_one _) (by unfold maxLen; omega) (by omega) hszE ?_)
      intro v8 w8 hE8 hgr8
      try rw [Nat.zero_add, List.nil_append] at hE8
      have HO : Hid (OB w8 w.heap.size v8 pl ∧ Below w.heap.size w w8) := ⟨(ob_own_any hE8 hp0v.symm hby).mono hB.size, hbE.grown hgr8 hbE.size (fun k e => by have h1 := own_geK hE k e; have h2 := hB.size; omega)⟩
      clear hE8 hgr8 hE hnews
      go_wp2
      exact bodyPost_ret (v := .tuple #[v8, .bool true]) (by simp [results, Try.results36, go_sem]) rfl ⟨v8, true, rfl, by simpa [HasS] using hr, by rw [HRB.out]; exact HO.out.1, HO.out.2⟩
end Go.Proofs.Ytdhfbblameiloaa

