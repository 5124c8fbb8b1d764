/-
  Together: ColsImpl, ColsIter, OwnK, PickImpl, PartHelp, PartRowCopy, MarkParts, Conv, MarkText, But, MarkVals, HeldVals
-/
import Derived.Test.YtclegljalndaearShelf
import Derived.Test.YtclegljalndaearPack1
import Derived.Test.YtclegljalndaearPack4
import Derived.Test.YtclegljalndaearPack3
import Derived.Deep.LoopGhost
import Derived.Laws.BytesArg
import Derived.Deep.RegionHeld3
/-
  The program's columnOf: a value of its own, out of a row.
-/
namespace Go.Proofs.Ytclegljalndaear
open Go.RowKit
set_option maxRecDepth 4000

theorem strClone_any (s : ByteArray) (w : World) (hs : s.size ≤ 281474976710656) :
    Calls Try.prog 91 #[.string s] w fun e w' => e = .returned (.string s) ∧ Below w.heap.size w w' := by
  go_enter Try.func91, Try.ntmps91
  go_wp2_with (go_at_call 104; refine (Try.stringslite_Clone s _ hs).mono ?_; rintro e w2 ⟨rfl, hB⟩)
  go_ret
  exact ⟨rfl, hB⟩

set_option maxHeartbeats 2000000 in
theorem columnOf_any (a2 : Option Addr) (m c2 : Nat) (fk fn : Nat → Int) (fs : Nat → ByteArray) (c : Int) (w : World) (hq : VView w a2 m c2 fk fn fs) (hm : m ≤ 281474976710656) (hs : ∀ i, i < m → (fs i).size ≤ 281474976710656) :
    Calls Try.prog 71 #[.slice a2 m c2, .int .i64 c] w fun e w' => e = .returned (.agg #[.int .i64 (if 0 ≤ c ∧ c < m then fk c.toNat else 0), .int .i64 (if 0 ≤ c ∧ c < m then fn c.toNat else 0), .string (if 0 ≤ c ∧ c < m then fs c.toNat else ⟨#[]⟩)]) ∧ Below w.heap.size w w' := by
  by_cases h0 : c < 0
  · have hc : ¬ (0 ≤ c ∧ c < m) := by omega
    rw [if_neg hc, if_neg hc, if_neg hc]
    clear hc
    go_enter Try.func71, Try.ntmps71
    go_wp2
    exact bodyPost_ret (v := .agg #[_, _, _]) (by simp [results, Try.results71, go_sem]) rfl ⟨rfl, (Below.refl _ _).alloc (Nat.le_refl _) _⟩
  · by_cases h1 : c < m
    · obtain ⟨j, rfl⟩ : ∃ j : Nat, c = j := ⟨c.toNat, by omega⟩
      have hjm : j < m := by omega
      rw [if_pos (by omega), if_pos (by omega), if_pos (by omega)]
      obtain ⟨b2, o2, rfl, hb2, hd2⟩ := hq.cells (by omega)
      obtain ⟨y0, y1, y2⟩ := hd2 j hjm
      have hsz := hs j hjm
      simp only [Int.toNat_natCast]
      obtain ⟨q0, hq0⟩ : ∃ p, fk j = p := ⟨_, rfl⟩
      obtain ⟨q1, hq1⟩ : ∃ p, fn j = p := ⟨_, rfl⟩
      obtain ⟨q2, hq2⟩ : ∃ p, fs j = p := ⟨_, rfl⟩
      rw [hq0] at y0 ⊢
      rw [hq1] at y1 ⊢
      rw [hq2] at y2 hsz ⊢
      clear hd2 hq hs hq0 hq1 hq2
      have hR := (Box.new w 0 0 ⟨#[]⟩).below ((Below.refl _ _).alloc (Nat.le_refl _) (.cells #[.int .i64 q0, .int .i64 q1, .string q2] 59))
      have hV := Box.new (w.alloc (.cells #[.int .i64 0, .int .i64 0, .string ⟨#[]⟩] 59)) q0 q1 q2
      have hb0 : Below w.heap.size w ((w.alloc (.cells #[.int .i64 0, .int .i64 0, .string ⟨#[]⟩] 59)).alloc (.cells #[.int .i64 q0, .int .i64 q1, .string q2] 59)) := ((Below.refl _ _).alloc (Nat.le_refl _) _).alloc (by simp) _
      rw [World.size_alloc] at hV
      go_enter Try.func71, Try.ntmps71
      go_wp2_with (go_at_call 91; refine (strClone_any _ _ hsz).mono ?_; rintro e w2 ⟨rfl, hB⟩; have hR2 := hR.below hB; have hV2 := hV.below hB; obtain ⟨c0, c1, c3⟩ := hR2.cells; obtain ⟨f0, f1, f2⟩ := hR2.frozen; obtain ⟨d0, d1, d2⟩ := hV2.cells; obtain ⟨e0, e1, e2⟩ := hV2.frozen)
      have hR3 := hR2.other (D := w.heap.size + 1) (i := 2) (by omega) (.string q2)
      obtain ⟨g0, g1, g2⟩ := hR3.cells
      have hgs := stored3 (.int .i64 q0) (.int .i64 q1) (.string q2) g0 g1 g2
      have hb1 : Below w.heap.size w w2 := hb0.trans (hB.mono (by simp; omega))
      exact bodyPost_ret (v := .agg #[_, _, _]) (by simp [results, Try.results71, go_sem, hgs]) rfl ⟨rfl, (((hb1.setCell (p := ⟨w.heap.size + 1, 2, none⟩) (by simp) _).setCell (p := ⟨w.heap.size, 0, none⟩) (Nat.le_refl _) _).setCell (p := ⟨w.heap.size, 1, none⟩) (Nat.le_refl _) _).setCell (p := ⟨w.heap.size, 2, none⟩) (Nat.le_refl _) _⟩
    · have hc : ¬ (0 ≤ c ∧ c < m) := by omega
      have h1z : c ≥ m := by omega
      rw [if_neg hc, if_neg hc, if_neg hc]
      clear hc
      go_enter Try.func71, Try.ntmps71
      go_wp2
      exact bodyPost_ret (v := .agg #[_, _, _]) (by simp [results, Try.results71, go_sem]) rfl ⟨rfl, (Below.refl _ _).alloc (Nat.le_refl _) _⟩
end Go.Proofs.Ytclegljalndaear

/-
  The program's valsOfColumns: of each part the value of its column.
-/
namespace Go.Proofs.Ytclegljalndaear
open Go.RowKit
set_option maxRecDepth 4000

attribute [local go_sem] Oper.semAt_some

/-- A value, as it is yielded. -/
abbrev encT (x : Int × Int × ByteArray) : Array Value := #[.agg #[.int .i64 x.1, .int .i64 x.2.1, .string x.2.2]]
/-- The values of the columns of the first j parts. -/
def colU (fc : Nat → Int) (m : Nat) (fk fn : Nat → Int) (fs : Nat → ByteArray) (j : Nat) : List (Int × Int × ByteArray) := (List.range j).map (fun i => (pickK fc m fk i, pickK fc m fn i, pickS fc m fs i))
theorem colU_succ (fc : Nat → Int) (m : Nat) (fk fn : Nat → Int) (fs : Nat → ByteArray) (j : Nat) : colU fc m fk fn fs (j + 1) = colU fc m fk fn fs j ++ [(pickK fc m fk j, pickK fc m fn j, pickS fc m fs j)] := by simp [colU, List.range_succ]
theorem colU_len (fc : Nat → Int) (m : Nat) (fk fn : Nat → Int) (fs : Nat → ByteArray) (j : Nat) : (colU fc m fk fn fs j).length = j := by simp [colU]

set_option linter.unusedSimpArgs false in
set_option maxRecDepth 100000 in
set_option maxHeartbeats 4000000 in
theorem ofCols1_in (NN : Nat) (hNN : 1 ≤ NN) (l Bl Bv : Nat) (a : Option Addr) (n cap : Nat) (fc ft : Nat → Int) (fu fd : Nat → Bool) (a2 : Option Addr) (m c2 : Nat) (fk fn : Nat → Int) (fs : Nat → ByteArray) (w : World) (hp : PView w a n cap fc ft fu fd) (hq : VView w a2 m c2 fk fn fs) (hn : n ≤ 281474976710656) (hm : m ≤ 281474976710656) (hs : ∀ i, i < m → (fs i).size ≤ 281474976710656)
    (J Jx : List (Int × Int × ByteArray) → World → Prop) (W : World) (hJ : AbidesFrom W.heap.size J)
    (hY : ∀ pre x W1, J pre W1 → pre.length < n → YieldAt Fence.wide (NN - 1) Try.prog l (encT x) W1 fun e W' =>
      (e = .returned (.bool true) ∧ J (pre ++ [x]) W' ∧ KpB w.heap.size Bl Bv W1 W') ∨ (e = .returned (.bool false) ∧ Jx (pre ++ [x]) W'))
    (hb : Below w.heap.size w W) (hl : Boxed W Bl 25 (.slice a n cap)) (hv : Boxed W Bv 32 (.slice a2 m c2)) (h0 : J [] W) :
    CallsIn Fence.wide NN Try.prog 70 #[.func (.yield l) #[] #[], .pointer (some ⟨Bl, 0, none⟩), .pointer (some ⟨Bv, 0, none⟩)] W fun e W' => (∃ v, e = .returned v) ∧
      ((∃ xs, xs = colU fc m fk fn fs n ∧ J xs W') ∨ (∃ pre, True ∧ Jx pre W')) := by
  refine callsIn_of_wp Try.func70 rfl trivial ?_ rfl
  simp only [Try.ntmps70, List.size_toArray, List.length_cons, List.length_nil, Nat.reduceAdd, Nat.reduceSub, Array.replicate_succ, Array.replicate_zero, List.push_toArray, List.append_toArray, List.nil_append, List.cons_append]
  have cl := hl.cell
  gi_wp2
  gi_loopw [8] (fun i wr => ∃ (j : Nat), j ≤ n ∧ i = .int .i64 j ∧ J (colU fc m fk fn fs j) wr ∧ KpB w.heap.size Bl Bv W wr) (fun i _ => n - (intOf i).toNat)
  case atStart => exact ⟨0, Nat.zero_le _, rfl, h0, KpB.refl _ _ _ _⟩
  case round =>
    obtain ⟨j, hj, rfl, hJs, hk⟩ := hrel
    by_cases hlt : j < n
    · have hbw : Below w.heap.size w wr := hb.trans hk.below
      obtain ⟨b1, o1, rfl, hb1, hd1⟩ := (hp.below hbw).cells (by omega)
      obtain ⟨x0, x1, x2, x3⟩ := hd1 j (by omega)
      have bv' := Boxed.kpv hv hk
      have bl' := Boxed.kpl hl hk
      have hjz : (j : Int) < (n : Int) := by omega
      have hws := hbw.size
      have cv' := bv'.cell
      have cv1 := ((bv'.alloc (.cells #[.int .i64 (fc j), .int .i64 (ft j), .bool (fu j), .bool (fd j)] 51))).cell
      have hba : Below wr.heap.size wr (wr.alloc (.cells #[.int .i64 (fc j), .int .i64 (ft j), .bool (fu j), .bool (fd j)] 51)) := (Below.refl _ _).alloc (Nat.le_refl _) _
      have hbb := hbw.trans (hba.mono hws)
      have hC : Calls Try.prog 71 #[.slice a2 m c2, .int .i64 (fc j)] (wr.alloc (.cells #[.int .i64 (fc j), .int .i64 (ft j), .bool (fu j), .bool (fd j)] 51)) fun e w' => e = .returned (.agg #[.int .i64 (pickK fc m fk j), .int .i64 (pickK fc m fn j), .string (pickS fc m fs j)]) ∧ Below (wr.alloc (.cells #[.int .i64 (fc j), .int .i64 (ft j), .bool (fu j), .bool (fd j)] 51)).heap.size (wr.alloc (.cells #[.int .i64 (fc j), .int .i64 (ft j), .bool (fu j), .bool (fd j)] 51)) w' := columnOf_any a2 m c2 fk fn fs (fc j) _ (hq.below hbb) hm hs
      have hUl := colU_len fc m fk fn fs j
      have hU : colU fc m fk fn fs (j + 1) = colU fc m fk fn fs j ++ [(pickK fc m fk j, pickK fc m fn j, pickS fc m fs j)] := colU_succ fc m fk fn fs j
      obtain ⟨q0, hq0⟩ : ∃ q, pickK fc m fk j = q := ⟨_, rfl⟩
      obtain ⟨q1, hq1⟩ : ∃ q, pickK fc m fn j = q := ⟨_, rfl⟩
      obtain ⟨q2, hq2⟩ : ∃ q, pickS fc m fs j = q := ⟨_, rfl⟩
      obtain ⟨U, hUU⟩ : ∃ U, colU fc m fk fn fs j = U := ⟨_, rfl⟩
      rw [hq0, hq1, hq2] at hC hU
      rw [hUU] at hU hUl hJs
      have HU : Hid (colU fc m fk fn fs (j + 1) = U ++ [(q0, q1, q2)]) := hU
      clear hd1 cl hU hUU hq0 hq1 hq2
      gi_wp2_with (refine ⟨trivial, ?_⟩; gi_at_call 71; refine (callsIn_wide.2 hC).mono ?_; rintro e w2 ⟨rfl, hB2⟩; have hB3 : Below wr.heap.size wr w2 := hba.trans (hB2.mono hba.size); obtain ⟨fn', tmps, assign, body, hy, hR⟩ := hY U (q0, q1, q2) w2 (AbidesFrom.step hJ hJs (grownBy_below' hB3)) (by omega); dsimp only [encT] at hy)
      refine hR.mono ?_
      rintro e W3 (⟨rfl, hJ3, hk3⟩ | ⟨rfl, hJx3⟩)
      · clear hy hR hC cv1 cv' hba hbb x0 x1 x2 x3
        gi_wp2
        go_roundw
        case rel => exact ⟨j + 1, by omega, by go_num, by rw [HU.out]; exact hJ3, hk.trans ((KpB.ofBelow hB3 hws bl'.lt bv'.lt).trans hk3)⟩
        case measure => simp [intOf]; omega
      · clear hy hR hC cv1 cv' hba hbb x0 x1 x2 x3
        gi_wp2
        refine bodyPost_ret (results_none rfl _ _ _) rfl ?_
        exact ⟨⟨_, rfl⟩, .inr ⟨_, trivial, hJx3⟩⟩
    · have hjz : ¬ (j : Int) < (n : Int) := by omega
      obtain rfl : j = n := by omega
      gi_wp2
      go_end0
      first
        | exact ⟨⟨_, rfl⟩, .inl hJs⟩
        | exact ⟨⟨_, rfl⟩, .inl ⟨_, rfl, hJs⟩⟩

theorem ofCols_stops (NN : Nat) (hNN : 1 ≤ NN) (Bl Bv : Nat) (a : Option Addr) (n cap : Nat) (fc ft : Nat → Int) (fu fd : Nat → Bool) (a2 : Option Addr) (m c2 : Nat) (fk fn : Nat → Int) (fs : Nat → ByteArray) (w : World) (hp : PView w a n cap fc ft fu fd) (hq : VView w a2 m c2 fk fn fs) (hn : n ≤ 281474976710656) (hm : m ≤ 281474976710656) (hs : ∀ i, i < m → (fs i).size ≤ 281474976710656)
    (W0 : World) (hb : Below w.heap.size w W0) (hl : Boxed W0 Bl 25 (.slice a n cap)) (hv : Boxed W0 Bv 32 (.slice a2 m c2)) :
    SeqStopsK Fence.wide NN Try.prog 70 #[.pointer (some ⟨Bl, 0, none⟩), .pointer (some ⟨Bv, 0, none⟩)] encT (KpB w.heap.size Bl Bv) (fun xs => xs = colU fc m fk fn fs n) (fun _ => True) n W0 :=
  fun l J Jx W hW hJ _ hY h0 => ofCols1_in NN hNN l Bl Bv a n cap fc ft fu fd a2 m c2 fk fn fs w hp hq hn hm hs J Jx W hJ hY (hb.trans (hW.mono hb.size)) (Boxed.below' hl hW) (Boxed.below' hv hW) h0

set_option maxHeartbeats 1000000 in
/-- valsOfColumns boxes its two arguments. -/
theorem valsOfColumns_in (NN : Nat) (a : Option Addr) (n cap : Nat) (a2 : Option Addr) (m c2 : Nat) (w : World) :
    CallsIn Fence.wide NN Try.prog 55 #[.slice a n cap, .slice a2 m c2] w fun e w' => e = .returned (.func (.func 70) #[] #[.pointer (some ⟨w.heap.size, 0, none⟩), .pointer (some ⟨w.heap.size + 1, 0, none⟩)]) ∧ w' = (w.alloc (.cells #[.slice a n cap] 25)).alloc (.cells #[.slice a2 m c2] 32) := by
  refine callsIn_of_wp Try.func55 rfl trivial ?_ rfl
  simp only [Try.ntmps55, List.size_toArray, List.length_cons, List.length_nil, Nat.reduceAdd, Nat.reduceSub, Array.replicate_succ, Array.replicate_zero, List.push_toArray, List.append_toArray, List.nil_append, List.cons_append]
  gi_wp2
  go_ret
  exact ⟨rfl, rfl⟩
end Go.Proofs.Ytclegljalndaear

/-
  Rows of the call's own, and what the loop over an iterator itself turns.
-/
namespace Go.Proofs.Ytclegljalndaear
open Go.RowKit
set_option maxRecDepth 4000

theorem own_ge {W : World} {base : Nat} {e : TypeId} {size : Nat} {v : Value} {k : Nat} {xs : List Value} (h : W.ownsRow base e size v k xs) : ∀ j, v.ownBlock = some j → base ≤ j := by
  intro j hj
  rcases h.2 with ⟨rfl, _⟩ | ⟨g, cap, cur, rfl, hb, _⟩
  · simp [Value.ownBlock] at hj
  · obtain rfl : g = j := by simpa [Value.ownBlock] using hj
    exact hb
theorem own_ownK {W W' : World} {row : Option Nat} {base : Nat} {e : TypeId} {size : Nat} {v : Value} {k : Nat} {xs : List Value} (h : W.ownsRow base e size v k xs) (hg : W.grownBy W' row) (hr : ∀ r, row = some r → ∃ o : Obj, W.heap[r]? = some o ∧ o.isCells = false) : W'.ownsRow base e size v k xs := by
  refine h.kept hg ?_
  rcases h.2 with ⟨rfl, _⟩ | ⟨g, cap, cur, rfl, _, hgb, _⟩
  · exact .inl rfl
  · refine .inr fun e' => ?_
    obtain ⟨o, ho, hc⟩ := hr g (by simpa [Value.ownBlock] using e'.symm)
    rw [hgb] at ho; cases ho; cases hc
end Go.Proofs.Ytclegljalndaear

/-
  The program's Pick: of each part the value of its column, in a row of its own.
-/
namespace Go.Proofs.Ytclegljalndaear
open Go.RowKit
set_option maxRecDepth 4000

attribute [local go_sem] Oper.semAt_some

/-- The cells of the values that have come. -/
def rowT (pre : List (Int × Int × ByteArray)) : List Value := pre.flatMap (fun x => [.int .i64 x.1, .int .i64 x.2.1, .string x.2.2])
theorem rowT_snoc (pre : List (Int × Int × ByteArray)) (x : Int × Int × ByteArray) : rowT (pre ++ [x]) = rowT pre ++ [.int .i64 x.1, .int .i64 x.2.1, .string x.2.2] := by simp [rowT]
theorem rowT_U (fc : Nat → Int) (m : Nat) (fk fn : Nat → Int) (fs : Nat → ByteArray) : ∀ r, rowT (colU fc m fk fn fs r) = rowC (pickK fc m fk) (pickK fc m fn) (pickS fc m fs) r
  | 0 => rfl
  | r + 1 => by rw [colU_succ, rowT_snoc, rowT_U fc m fk fn fs r, rowC]

set_option linter.unusedSimpArgs false in
set_option maxRecDepth 100000 in
set_option maxHeartbeats 4000000 in
/-- What is yielded is put behind a row of the call's own. -/
theorem appendCols_in (a : Option Addr) (n cap : Nat) (fc ft : Nat → Int) (fu fd : Nat → Bool) (a2 : Option Addr) (m c2 : Nat) (fk fn : Nat → Int) (fs : Nat → ByteArray) (w : World) (hp : PView w a n cap fc ft fu fd) (hq : VView w a2 m c2 fk fn fs) (hn : n ≤ 1048576) (hm : m ≤ 281474976710656) (hs : ∀ i, i < m → (fs i).size ≤ 281474976710656)
    (w2 : World) (Bl : Nat) (g0 : Nat) (hb : Below w.heap.size w w2) (bL : Boxed w2 Bl 25 (.slice a n cap)) (bV : Boxed w2 (Bl + 1) 32 (.slice a2 m c2)) (hO2 : w2.ownsRow w.heap.size 59 3 (.slice (some ⟨g0, 0, none⟩) 0 0) 0 []) :
    CallsIn Fence.wide 7 Try.prog 54 #[.slice (some ⟨g0, 0, none⟩) 0 0, .func (.func 70) #[] #[.pointer (some ⟨Bl, 0, none⟩), .pointer (some ⟨Bl + 1, 0, none⟩)]] w2 fun e w' => ∃ v, e = .returned v ∧ v ≠ .slice none 0 0 ∧ w'.ownsRow w.heap.size 59 3 v n (rowC (pickK fc m fk) (pickK fc m fn) (pickS fc m fs) n) ∧ Below w.heap.size w w' := by
  obtain ⟨i0, hi, hz0, hz1, hz2⟩ := infoVal3
  refine callsIn_of_wp_marks Try.func54 rfl trivial ?_ rfl
  simp only [Try.ntmps54, List.size_toArray, List.length_cons, List.length_nil, Nat.reduceAdd, Nat.reduceSub, Array.replicate_succ, Array.replicate_zero, List.push_toArray, List.append_toArray, List.nil_append, List.cons_append]
  gi_wp2
  have hb5 : Below w2.heap.size w2 (w2.alloc (.cells #[.slice (some ⟨g0, 0, none⟩) 0 0] 32)) := (Below.refl _ _).alloc (Nat.le_refl _) _
  have hO3 := own_below3 hO2 hb5
  have hB0 := hb.trans (hb5.mono hb.size)
  have bS := Boxed.new w2 32 (.slice (some ⟨g0, 0, none⟩) 0 0)
  have bL0 := Boxed.below' bL hb5
  have bV0 := Boxed.below' bV hb5
  have hbl := bL.lt
  have hbv := bV.lt
  have hsz : (w2.alloc (.cells #[.slice (some ⟨g0, 0, none⟩) 0 0] 32)).heap.size = w2.heap.size + 1 := by simp
  obtain ⟨W0, hW0⟩ : ∃ W0, w2.alloc (.cells #[.slice (some ⟨g0, 0, none⟩) 0 0] 32) = W0 := ⟨_, rfl⟩
  rw [hW0] at hO3 hB0 bS bL0 bV0 hsz ⊢
  have hwA := hb.size
  clear hW0 hO2 hb5 hb bL bV
  obtain ⟨A, hA⟩ : ∃ A, w2.heap.size = A := ⟨_, rfl⟩
  rw [hA] at bS hsz hwA hbl hbv ⊢
  clear hA
  refine wpIn_rangeFunc_ownH rfl (by decide) (gf := 70) (lb := #[.pointer (some ⟨Bl, 0, none⟩), .pointer (some ⟨Bl + 1, 0, none⟩)]) rfl trivial (enters_of Try.func70 (by kernel_rfl) rfl)
    (ofCols_stops (7 - 1) (by decide) Bl (Bl + 1) a n cap fc ft fu fd a2 m c2 fk fn fs w hp hq (by omega) hm hs W0 hB0 bL0 bV0) (fun h k => KpB.trans h k) (KpB.put (by omega) (by omega) (by omega)) (Below.refl _ _) (fun _ => rfl)
    (fun pre W => (∃ v, Boxed W A 32 v ∧ v ≠ .slice none 0 0 ∧ W.ownsRow w.heap.size 59 3 v pre.length (rowT pre)) ∧ KpB w.heap.size Bl (Bl + 1) W0 W)
    (fun c pre W => False)
    (OwnFrom.and (fun s X Y row hs hg hr => by obtain ⟨v, h1, h2, h3⟩ := hs; exact ⟨v, Boxed.ownK h1 hg (fun r e => (hr r e).2), h2, own_ownK h3 hg (fun r e => (hr r e).2)⟩) (ownFrom_kpB (by omega) (by omega) (by omega) (Nat.le_refl _)))
    (fun c s X Y row hs hg hr => hs)
    ⟨⟨_, bS, by simp, hO3⟩, KpB.refl _ _ _ _⟩
    (fun x a' W => ∃ Bq, Box W Bq x.1 x.2.1 x.2.2 ∧ a' = { tmps := #[.slice (some ⟨g0, 0, none⟩) 0 0, .func (.func 70) #[] #[.pointer (some ⟨Bl, 0, none⟩), .pointer (some ⟨Bl + 1, 0, none⟩)], .pointer (some ⟨A, 0, none⟩), undef, .slice none 0 0, .pointer (some ⟨Bq, 0, none⟩), .func (.func 70) #[] #[.pointer (some ⟨Bl, 0, none⟩), .pointer (some ⟨Bl + 1, 0, none⟩)], .agg #[.int .i64 x.1, .int .i64 x.2.1, .string x.2.2], undef, undef, undef, undef, undef], defers := [] })
    (fun x a' _ X Y row hs hg hr => by obtain ⟨Bq, h1, h3⟩ := hs; exact ⟨Bq, h1.ownK hg (fun r e => (hr r e).2), h3⟩)
    ?assign ?body ?done ?stop
  case assign =>
    rintro l pre x W K ⟨⟨v, bV1, hne, hO⟩, hk⟩ hK
    gi_wp2
    have hb1 : Below W.heap.size W (W.alloc (.cells #[.int .i64 x.1, .int .i64 x.2.1, .string x.2.2] 59)) := (Below.refl _ _).alloc (Nat.le_refl _) _
    have hs1 := hk.below.size
    have hkk := KpB.ofBelow (n₀ := w.heap.size) (Bl := Bl) (Bv := Bl + 1) hb1 (by omega) (by omega) (by omega)
    exact hK _ _ (KeepsFrom.ofBelow hb1) hkk ⟨⟨v, Boxed.below' bV1 hb1, hne, own_below3 hO hb1⟩, hk.trans hkk⟩ ⟨W.heap.size, Box.new W _ _ _, rfl⟩
  case body =>
    rintro l pre x a' W hl ⟨r, hr⟩ ⟨⟨v, bV1, hne, hO⟩, hk⟩ ⟨Bq, hQ, rfl⟩ hlt
    obtain ⟨q0, q1, q2⟩ := hQ.cells
    have hs1 := hk.below.size
    have cV := bV1.cell
    have HNE : Hid (v ≠ .slice none 0 0) := hne
    clear hr hne
    gi_wp2_with (gi_at_builtin; refine wpListIn_append_own _ rfl _ _ 32 rfl w.heap.size 59 i0 (.agg #[.int .i64 0, .int .i64 0, .string ⟨#[]⟩]) 3 32 Try.underlying32 hi hz0 hz1 hz2 rfl (by decide) v _ _ rfl (own_below3 hO ((Below.refl _ _).alloc (Nat.le_refl _) _)) ⟨W.heap.size, 0, none⟩ 1 1 [.int .i64 x.1, .int .i64 x.2.1, .string x.2.2] rfl rfl (cells_one W x.1 x.2.1 x.2.2) (one_cells _ _ _) (by unfold maxLen; omega) (by omega) (by simp; omega) ?_; intro v' w1 hown' hgrow hnil; obtain ⟨g', cap', rfl⟩ := ownsRow_succ hown'; obtain ⟨hv1, hv2, hr2, hk2, hb2⟩ := Boxed.appended bV1 (by decide) hO (by omega) (by omega) hown' hgrow; have hc1 := hv1.cell; have hf1 := hv1.frozen)
    have bL1 := Boxed.kpl bL0 hk
    have bB1 := Boxed.kpv bV0 hk
    have hsg := hgrow.size
    rw [World.size_alloc] at hsg
    have hkk : KpB w.heap.size Bl (Bl + 1) W (w1.setCell ⟨A, 0, none⟩ (.slice (some ⟨g', 0, none⟩) (pre.length + 1) cap')) := by
      refine ((KpB.ofBelow ((Below.refl _ _).alloc (Nat.le_refl _) _) (by omega) (by omega) (by omega)).trans (KpB.ofGrown hgrow (by rw [World.size_alloc]; omega) (by rw [World.size_alloc]; omega) (by rw [World.size_alloc]; omega) (fun k e => ⟨own_ge hO k e, fun h => ?_, fun h => ?_⟩))).trans (KpB.ofGrown (grownBy_setCell' w1 A _) (by omega) (by omega) (by omega) (fun k e => by cases e; omega))
      · subst h; exact bL1.not_row (by decide) hO e.symm
      · subst h; exact bB1.not_row (by decide) hO e.symm
    refine ⟨hk2.from _, hkk, ⟨_, hv2, by simp, ?_⟩, hk.trans hkk⟩
    rw [rowT_snoc, List.length_append]
    exact hr2
  case done =>
    rintro D ys W hD rfl ⟨⟨v, bV1, hne, hO⟩, hk⟩ hK
    have hk0 := hB0.trans hk.below
    rw [rowT_U, colU_len] at hO
    have cV := bV1.cell
    obtain ⟨g, cg, rfl⟩ : ∃ g cg, v = .slice (some ⟨g, 0, none⟩) n cg := by
      rcases hO.2 with ⟨e, _⟩ | ⟨g, cg, _, e, _⟩
      · exact absurd e hne
      · exact ⟨g, cg, e⟩
    gi_wp2
    refine ⟨by simp, .inl ⟨_, _, rfl, run_takeDeferred hK, ?_⟩⟩
    exact ⟨_, results_tmp rfl _ _ _, _, rfl, by simp, own_ownK hO (grownBy_putObj' _ D _) (fun r e => by cases e; exact ⟨_, hK, rfl⟩), Below.put' hk0 (by omega) hK⟩
  case stop =>
    rintro D c pre W hD hpre h hK
    exact h.elim

set_option maxHeartbeats 4000000 in
theorem implPick_any (a : Option Addr) (n cap : Nat) (fc ft : Nat → Int) (fu fd : Nat → Bool) (a2 : Option Addr) (m c2 : Nat) (fk fn : Nat → Int) (fs : Nat → ByteArray) (w : World) (hp : PView w a n cap fc ft fu fd) (hq : VView w a2 m c2 fk fn fs) (hn : n ≤ 1048576) (hm : m ≤ 281474976710656) (hs : ∀ i, i < m → (fs i).size ≤ 281474976710656) :
    Calls Try.prog 33 #[.slice a n cap, .slice a2 m c2] w fun e w' => ∃ v, e = .returned v ∧ v ≠ .slice none 0 0 ∧ w'.ownsRow w.heap.size 59 3 v n (rowC (pickK fc m fk) (pickK fc m fn) (pickS fc m fs) n) ∧ Below w.heap.size w w' := by
  have hO := World.ownsRow_lit (base := w.heap.size) (e := 59) (size := 3) w #[] 0 (Nat.le_refl _) (Nat.zero_le _) rfl
  have hb1 : Below (w.alloc (.cells #[] 59)).heap.size (w.alloc (.cells #[] 59)) (((w.alloc (.cells #[] 59)).alloc (.cells #[.slice a n cap] 25)).alloc (.cells #[.slice a2 m c2] 32)) := ((Below.refl _ _).alloc (Nat.le_refl _) _).alloc (by simp) _
  have hO2 := own_below3 hO hb1
  have hb2 : Below w.heap.size w (((w.alloc (.cells #[] 59)).alloc (.cells #[.slice a n cap] 25)).alloc (.cells #[.slice a2 m c2] 32)) := ((Below.refl _ _).alloc (Nat.le_refl _) _).trans (hb1.mono (by simp))
  have bL := (Boxed.new (w.alloc (.cells #[] 59)) 25 (.slice a n cap)).alloc (.cells #[.slice a2 m c2] 32)
  have bV := Boxed.new ((w.alloc (.cells #[] 59)).alloc (.cells #[.slice a n cap] 25)) 32 (.slice a2 m c2)
  simp only [World.size_alloc] at bL bV
  have hC := callsIn_wide.1 (appendCols_in a n cap fc ft fu fd a2 m c2 fk fn fs w hp hq hn hm hs _ (w.heap.size + 1) w.heap.size hb2 bL bV hO2)
  have hV := callsIn_wide.1 (valsOfColumns_in 7 a n cap a2 m c2 (w.alloc (.cells #[] 59)))
  simp only [World.size_alloc] at hV
  clear hO hO2 hb1 hb2 bL bV hp hq
  go_enter Try.func33, Try.ntmps33
  go_wp2_with (first | (go_at_call 55; refine hV.mono ?_; rintro e w2 ⟨rfl, rfl⟩) | (go_at_call 54; refine hC.mono ?_; rintro e w3 ⟨v, rfl, hne, hO, hB⟩))
  go_ret
  exact ⟨v, rfl, hne, hO, hB⟩
end Go.Proofs.Ytclegljalndaear

/-
  What the law's own helper over parts comes to.
-/
namespace Go.Proofs.Ytclegljalndaear
open Go.RowKit
set_option maxRecDepth 4000

set_option maxHeartbeats 1000000 in
theorem toPart_any (c t : Int) (nul d : Bool) (w : World) :
    Calls Try.prog 35 #[.agg #[.int .i64 c, .int .i64 t, .bool nul, .bool d]] w fun e w' => e = .returned (.agg #[.int .i64 c, .int .i64 t, .bool nul, .bool d]) ∧ Below w.heap.size w w' := by
  go_enter Try.func35, Try.ntmps35
  go_wp2
  refine bodyPost_ret (v := .agg #[.int .i64 c, .int .i64 t, .bool nul, .bool d]) (by simp [results, Try.results35, go_sem]) rfl ⟨rfl, ?_⟩
  repeat (first | exact Below.refl _ _ | refine Below.alloc ?_ (by simp <;> omega) _ | refine Below.drew ?_)
end Go.Proofs.Ytclegljalndaear

/-
  A list of parts: how much it holds as the law counts it, and its copy in a new row.
-/
namespace Go.Proofs.Ytclegljalndaear
open Go.RowKit
set_option maxRecDepth 4000

set_option maxHeartbeats 1000000 in
theorem szPartS_any (a : Option Addr) (n cap : Nat) (left : Int) (w : World) (hn : n ≤ maxLen) (h0 : 0 ≤ left) (hl : left ≤ 1048576) :
    Calls Try.prog 9 #[.slice a n cap, .int .i64 left] w fun e w' => ∃ L : Int, e = .returned (.int .i64 L) ∧ w = w' ∧ (L = -1 ∨ (0 ≤ L ∧ L = left - n)) := by
  have hn' : (n : Int) ≤ 9223372036854775807 := by unfold maxLen at hn; omega
  by_cases hb : left - (n : Int) < 0
  · go_enter Try.func9, Try.ntmps9
    go_wp2
    go_ret
    exact ⟨_, rfl, rfl, .inl rfl⟩
  · go_enter Try.func9, Try.ntmps9
    go_wp2
    go_ret
    exact ⟨_, rfl, rfl, .inr ⟨by omega, rfl⟩⟩

def cellP (fc ft : Nat → Int) (fu fd : Nat → Bool) (j : Nat) : Value := if j % 4 = 0 then .int .i64 (fc (j / 4)) else if j % 4 = 1 then .int .i64 (ft (j / 4)) else if j % 4 = 2 then .bool (fu (j / 4)) else .bool (fd (j / 4))
def zeroP (j : Nat) : Value := if j % 4 = 0 then .int .i64 0 else if j % 4 = 1 then .int .i64 0 else .bool false

theorem Try.infoPart : (Try.prog.info? 51).map (fun i => (i.zero, i.size, i.bytes)) = some (some (.agg #[.int .i64 0, .int .i64 0, .bool false, .bool false]), 4, 24) := by kernel_rfl

theorem make_parts (n : Nat) (h : n ≤ 1048576) (w : World) : (Instr.makeSlice 25 (.int .i64 (n : Int)) (.int .i64 (n : Int))).run Try.prog w = .ok (.slice (some ⟨w.heap.size, 0, none⟩) n n) (w.alloc (.cells (madeCells #[.int .i64 0, .int .i64 0, .bool false, .bool false] (n * 4)) 51)) := by
  obtain ⟨i, hi, hzz⟩ := Option.map_eq_some_iff.1 Try.infoPart
  simp only [Prod.mk.injEq] at hzz
  obtain ⟨hz, hs, hb⟩ := hzz
  have hr := run_make (P := Try.prog) w 25 51 i _ Try.underlying25 hi hz .i64 .i64 n n (by omega) (Int.le_refl _) (by rw [hb]; omega) (by omega)
  simp only [Int.toNat_natCast, hs] at hr
  exact hr

/-- k of the n parts are copied into the new row. -/
structure CopiedP (w wr : World) (n : Nat) (fc ft : Nat → Int) (fu fd : Nat → Bool) (k : Nat) : Prop where
  below : Below w.heap.size w wr
  size : w.heap.size < wr.heap.size
  row : wr.rowIs w.heap.size 51 (n * 4) (fun j => if j < k * 4 then cellP fc ft fu fd j else zeroP j)

theorem copiedP_start (w : World) (n : Nat) (fc ft : Nat → Int) (fu fd : Nat → Bool) : CopiedP w (w.alloc (.cells (madeCells #[.int .i64 0, .int .i64 0, .bool false, .bool false] (n * 4)) 51)) n fc ft fu fd 0 := by
  have hr := World.rowIs_alloc w (madeCells #[.int .i64 0, .int .i64 0, .bool false, .bool false] (n * 4)) 51 zeroP (fun i hi => by
    rw [size_madeCells] at hi
    simp [madeCells, hi, zeroP]
    have h3 : i % 4 = 0 ∨ i % 4 = 1 ∨ i % 4 = 2 ∨ i % 4 = 3 := by omega
    rcases h3 with h | h | h | h <;> simp [h])
  rw [size_madeCells] at hr
  exact ⟨(Below.refl _ _).alloc (Nat.le_refl _) _, by simp, hr.congr (fun i _ => by simp)⟩

theorem rowIs_belowP {w w' : World} {b : Nat} {t : TypeId} {m : Nat} {f : Nat → Value} (h : w.rowIs b t m f) (hb : Below w.heap.size w w') (hlt : b < w.heap.size) : w'.rowIs b t m f := by
  obtain ⟨c, h1, h2, h3⟩ := h
  exact ⟨c, by rw [hb.block b hlt]; exact h1, h2, h3⟩

theorem CopiedP.step {w wr w2 : World} {n : Nat} {fc ft : Nat → Int} {fu fd : Nat → Bool} {k : Nat} (h : CopiedP w wr n fc ft fu fd k) (hb : Below wr.heap.size wr w2) : CopiedP w w2 n fc ft fu fd k :=
  ⟨h.below.trans (hb.mono h.below.size), Nat.lt_of_lt_of_le h.size hb.size, rowIs_belowP h.row hb h.size⟩

theorem CopiedP.put {w wr : World} {n : Nat} {fc ft : Nat → Int} {fu fd : Nat → Bool} {k : Nat} (h : CopiedP w wr n fc ft fu fd k) :
    CopiedP w ((((wr.setCell ⟨w.heap.size, k * 4, none⟩ (.int .i64 (fc k))).setCell ⟨w.heap.size, k * 4 + 1, none⟩ (.int .i64 (ft k))).setCell ⟨w.heap.size, k * 4 + 2, none⟩ (.bool (fu k))).setCell ⟨w.heap.size, k * 4 + 3, none⟩ (.bool (fd k))) n fc ft fu fd (k + 1) := by
  refine ⟨(((h.below.setCell (Nat.le_refl _) _).setCell (Nat.le_refl _) _).setCell (Nat.le_refl _) _).setCell (Nat.le_refl _) _, by simpa using h.size, (((((h.row.set _ _).set _ _).set _ _).set _ _).congr (fun i _ => ?_))⟩
  by_cases e3 : i = k * 4 + 3
  · subst e3
    have : (k * 4 + 3) % 4 = 3 := by omega
    have d : (k * 4 + 3) / 4 = k := by omega
    simp [cellP, this, d, show k * 4 + 3 < (k + 1) * 4 by omega]
  by_cases e2 : i = k * 4 + 2
  · subst e2
    have : (k * 4 + 2) % 4 = 2 := by omega
    have d : (k * 4 + 2) / 4 = k := by omega
    simp [cellP, this, d, show k * 4 + 2 < (k + 1) * 4 by omega]
  by_cases e1 : i = k * 4 + 1
  · subst e1
    have : (k * 4 + 1) % 4 = 1 := by omega
    have d : (k * 4 + 1) / 4 = k := by omega
    simp [cellP, this, d, show k * 4 + 1 < (k + 1) * 4 by omega]
  by_cases e0 : i = k * 4
  · subst e0
    have : (k * 4) % 4 = 0 := by omega
    have d : (k * 4) / 4 = k := by omega
    simp [cellP, this, d, show k * 4 < (k + 1) * 4 by omega]
  · simp only [e0, e1, e2, e3, if_false]
    by_cases hlt : i < k * 4
    · rw [if_pos hlt, if_pos (by omega)]
    · rw [if_neg hlt, if_neg (by omega)]

theorem CopiedP.view {w wr : World} {n : Nat} {fc ft : Nat → Int} {fu fd : Nat → Bool} (h : CopiedP w wr n fc ft fu fd n) : PView wr (some ⟨w.heap.size, 0, none⟩) n n fc ft fu fd := by
  refine ⟨Nat.le_refl _, fun _ => ⟨_, 0, rfl, h.size, fun i hi => ?_⟩⟩
  have c0 := h.row.cell (i := i * 4) (by omega)
  have c1 := h.row.cell (i := i * 4 + 1) (by omega)
  have c2 := h.row.cell (i := i * 4 + 2) (by omega)
  have c3 := h.row.cell (i := i * 4 + 3) (by omega)
  simp only [show i * 4 < n * 4 by omega, show i * 4 + 1 < n * 4 by omega, show i * 4 + 2 < n * 4 by omega, show i * 4 + 3 < n * 4 by omega, if_true, cellP] at c0 c1 c2 c3
  have m0 : (i * 4) % 4 = 0 := by omega
  have m1 : (i * 4 + 1) % 4 = 1 := by omega
  have m2 : (i * 4 + 2) % 4 = 2 := by omega
  have m3 : (i * 4 + 3) % 4 = 3 := by omega
  have d0 : (i * 4) / 4 = i := by omega
  have d1 : (i * 4 + 1) / 4 = i := by omega
  have d2 : (i * 4 + 2) / 4 = i := by omega
  have d3 : (i * 4 + 3) / 4 = i := by omega
  simp only [m0, m1, m2, m3, d0, d1, d2, d3] at c0 c1 c2 c3
  rw [Nat.zero_add]
  exact ⟨by simpa using c0, by simpa using c1, by simpa using c2, by simpa using c3⟩

set_option maxHeartbeats 2000000 in
theorem toPartS_any (a : Option Addr) (n cap : Nat) (fc ft : Nat → Int) (fu fd : Nat → Bool) (w : World) (h : PView w a n cap fc ft fu fd) (hn : n ≤ 1048576) :
    Calls Try.prog 11 #[.slice a n cap] w fun e w' => e = .returned (.slice (some ⟨w.heap.size, 0, none⟩) n n) ∧ CopiedP w w' n fc ft fu fd n := by
  have hmk := fun W => make_parts n hn W
  go_enter Try.func11, Try.ntmps11
  go_wp2
  clear hmk
  go_loopg [4] n (fun q i wr => ∃ k : Nat, k ≤ n ∧ q = n - k ∧ i = .int .i64 k ∧ CopiedP w wr n fc ft fu fd k)
  case atStart => exact ⟨0, Nat.zero_le _, rfl, rfl, copiedP_start w n fc ft fu fd⟩
  case round =>
    obtain ⟨k, hk, rfl, rfl, hC⟩ := hrel
    by_cases hlt : k < n
    · obtain ⟨b1, o1, rfl, hb1, hc1⟩ := (h.below hC.below).cells (by omega)
      obtain ⟨x0, x1, x2, x3⟩ := hc1 k hlt
      have hkz : (k : Int) < (n : Int) := by omega
      have hV := fun W => toPart_any (fc k) (ft k) (fu k) (fd k) W
      go_wp2_with fail
      refine (hV _).mono ?_
      rintro e w2 ⟨rfl, hB2⟩
      have hC2 := hC.step hB2
      have hS : Hid _ := hC2.put
      have z0 := hC2.row.cell (i := k * 4) (by omega)
      have z1 := hC2.row.cell (i := k * 4 + 1) (by omega)
      have z2 := hC2.row.cell (i := k * 4 + 2) (by omega)
      have z3 := hC2.row.cell (i := k * 4 + 3) (by omega)
      have f0 := hC2.row.frozen (k * 4)
      have f1 := hC2.row.frozen (k * 4 + 1)
      have f2 := hC2.row.frozen (k * 4 + 2)
      have f3 := hC2.row.frozen (k * 4 + 3)
      clear hc1 hC hC2 hB2 hV x0 x1 x2 x3 h
      go_wp2
      go_roundg (n - (k + 1))
      case measure => omega
      case rel => exact ⟨k + 1, by omega, rfl, by go_num, hS.out⟩
    · have hkn : k = n := by omega
      have hkz : ¬ (k : Int) < (n : Int) := by omega
      rw [hkn] at hC
      have hS : Hid (CopiedP w wr n fc ft fu fd n) := hC
      clear hC
      go_wp2
      go_ret
      exact ⟨rfl, hS.out⟩
end Go.Proofs.Ytclegljalndaear

/-
  What the law's own helper markPartS comes to: it writes into a row of parts of the call's own, and nowhere else.
-/
namespace Go.Proofs.Ytclegljalndaear
open Go.RowKit
set_option maxRecDepth 4000

set_option maxHeartbeats 2000000 in
theorem markPartS_any (b n cap : Nat) (f : Nat → Value) (k : Int) (w : World) (hr : w.rowIs b 51 (n * 4) f) (hk : 0 ≤ k) (hk1 : k + 4 * n ≤ 4611686018427387904) :
    Calls Try.prog 22 #[.slice (some ⟨b, 0, none⟩) n cap, .int .i64 k] w fun e w' => e = .returned (.int .i64 (k + 4 * n)) ∧ Only b w w' := by
  go_enter Try.func22, Try.ntmps22
  go_wp2
  go_loopg [1, 5] n (fun g s i wr => ∃ j : Nat, j ≤ n ∧ g = n - j ∧ s = .int .i64 (k + 4 * j) ∧ i = .int .i64 j ∧ Only b w wr ∧ ∃ f', wr.rowIs b 51 (n * 4) f')
  case atStart => exact ⟨0, Nat.zero_le _, rfl, by simp, rfl, Only.refl _ _, f, hr⟩
  case round =>
    obtain ⟨j, hj, rfl, rfl, rfl, hO, f', hr'⟩ := hrel
    clear hr
    by_cases hlt : j < n
    · have hjz : (j : Int) < (n : Int) := by omega
      have z0 := hr'.cell (i := j * 4) (by omega)
      have z1 := hr'.cell (i := j * 4 + 1) (by omega)
      have z2 := hr'.cell (i := j * 4 + 2) (by omega)
      have z3 := hr'.cell (i := j * 4 + 3) (by omega)
      have f0 := hr'.frozen (j * 4)
      have f1 := hr'.frozen (j * 4 + 1)
      have f2 := hr'.frozen (j * 4 + 2)
      have f3 := hr'.frozen (j * 4 + 3)
      have hS : Hid (∀ u0 u1 u2 u3 : Value, Only b w ((((wr.setCell ⟨b, j * 4, none⟩ u0).setCell ⟨b, j * 4 + 1, none⟩ u1).setCell ⟨b, j * 4 + 2, none⟩ u2).setCell ⟨b, j * 4 + 3, none⟩ u3) ∧ ∃ f', ((((wr.setCell ⟨b, j * 4, none⟩ u0).setCell ⟨b, j * 4 + 1, none⟩ u1).setCell ⟨b, j * 4 + 2, none⟩ u2).setCell ⟨b, j * 4 + 3, none⟩ u3).rowIs b 51 (n * 4) f') := fun u0 u1 u2 u3 => ⟨(((hO.setCell _).setCell _).setCell _).setCell _, _, (((hr'.set _ _).set _ _).set _ _).set _ _⟩
      clear hr' hO
      go_wp2
      go_roundg (n - (j + 1))
      case measure => omega
      case rel => exact ⟨j + 1, by omega, rfl, by go_num, by go_num, (hS.out _ _ _ _).1, (hS.out _ _ _ _).2⟩
    · obtain rfl : j = n := by omega
      have hjz : ¬ (j : Int) < (j : Int) := by omega
      clear hr'
      go_wp2
      go_ret
      exact ⟨rfl, hO⟩
end Go.Proofs.Ytclegljalndaear

/-
  Bytes as a string: what 'string(b)' comes to at a slice of bytes that reads.
-/
namespace Go.Proofs.Ytclegljalndaear
open Go.RowKit
set_option maxRecDepth 4000

theorem conv_view {w : World} {b off n cap : Nat} {f : Nat → Int} (hv : View w (some ⟨b, off, none⟩) n cap f) :
    (convert 36 9 (.slice (some ⟨b, off, none⟩) n cap)).run Try.prog w = .ok (.string (strOfNums (lof n f))) w := by
  refine run_convert_bytes_arg w 36 5 Try.underlying36 Try.underlying5 b off n cap (lof n f) (lof_len n f) ?_ 9 Try.underlying9
  intro i hi
  obtain ⟨b', off', e, _, hc⟩ := hv.cells (by omega)
  simp only [Option.some.injEq, Addr.mk.injEq, and_true] at e
  obtain ⟨rfl, rfl⟩ := e
  rw [hc i hi, lof_get n f i hi]

theorem strOfNums_inj {xs ys : List Int} (hx : ∀ y ∈ xs, 0 ≤ y ∧ y ≤ 255) (hy : ∀ y ∈ ys, 0 ≤ y ∧ y ≤ 255) (h : strOfNums xs = strOfNums ys) : xs = ys := by
  have h1 : xs.map (fun n => UInt8.ofNat n.toNat) = ys.map (fun n => UInt8.ofNat n.toNat) := by
    rw [← strOfNums_data, ← strOfNums_data, h]
  have key : ∀ a b : Int, 0 ≤ a ∧ a ≤ 255 → 0 ≤ b ∧ b ≤ 255 → UInt8.ofNat a.toNat = UInt8.ofNat b.toNat → a = b := by
    intro a b ha hb e
    have := congrArg UInt8.toNat e
    simp at this
    omega
  clear h
  induction xs generalizing ys with
  | nil => cases ys with
    | nil => rfl
    | cons y ys => simp at h1
  | cons x xs ih => cases ys with
    | nil => simp at h1
    | cons y ys =>
      simp only [List.map_cons, List.cons.injEq] at h1
      rw [key x y (hx x (by simp)) (hy y (by simp)) h1.1, ih (fun z hz => hx z (by simp [hz])) (fun z hz => hy z (by simp [hz])) h1.2]

end Go.Proofs.Ytclegljalndaear

/-
  What the law's own helper markText comes to: a text that hangs on the count alone.
-/
namespace Go.Proofs.Ytclegljalndaear
open Go.RowKit
set_option maxRecDepth 4000

theorem Row.litOne (w : World) (t : TypeId) (h : Int) : Row t (w.alloc (.cells #[.int .u8 h] t)) w.heap.size 1 (fun _ => h) :=
  Row.ofIs (World.rowIs_alloc w #[.int .u8 h] t (fun _ => .int .u8 h) (fun j hj => by match j, hj with | 0, _ => rfl))

/-- The digits of a number ahead of a text. -/
def digT (k : Nat) (acc : ByteArray) : ByteArray := if _h : k = 0 then acc else digT (k / 10) (strOfNums [48 + ((k % 10 : Nat) : Int)] ++ acc)
  termination_by k
  decreasing_by omega
def markT (k : Int) : ByteArray := if k ≤ 0 then ⟨#[109, 48]⟩ else (⟨#[109]⟩ : ByteArray) ++ digT k.toNat ⟨#[]⟩

set_option maxHeartbeats 1000000 in
theorem markText_any (k : Int) (w : World) (hk1 : k ≤ 4611686018427387904) :
    Calls Try.prog 46 #[.int .i64 k] w fun e w' => e = .returned (.string (markT k)) ∧ Below w.heap.size w w' := by
  by_cases h0 : k ≤ 0
  · have e : markT k = ⟨#[109, 48]⟩ := by unfold markT; rw [if_pos h0]
    rw [e]
    go_enter Try.func46, Try.ntmps46
    go_wp2
    go_ret
    exact ⟨rfl, Below.refl _ _⟩
  obtain ⟨m, rfl⟩ : ∃ m : Nat, k = m := ⟨k.toNat, by omega⟩
  have HM : Hid (markT (m : Int) = (⟨#[109]⟩ : ByteArray) ++ digT m ⟨#[]⟩) := by show _ = _; unfold markT; rw [if_neg h0]; rfl
  go_enter Try.func46, Try.ntmps46
  go_wp2
  go_loopg [0, 3] m (fun q kv s wr => ∃ (j : Nat) (acc : ByteArray), j ≤ m ∧ j = q ∧ kv = .int .i64 j ∧ s = .string acc ∧ digT j acc = digT m ⟨#[]⟩ ∧ acc.size + j ≤ m ∧ Below w.heap.size w wr)
  case atStart => exact ⟨m, _, Nat.le_refl _, rfl, rfl, rfl, rfl, by show 0 + m ≤ m; omega, Below.refl _ _⟩
  case round =>
    obtain ⟨j, acc, hj, hq, rfl, rfl, hd, hsz, hB⟩ := hrel
    subst hq
    have HD : Hid (digT j acc = digT m ⟨#[]⟩) := hd
    clear hd
    by_cases hz : j = 0
    · subst hz
      have HF : Hid (digT m ⟨#[]⟩ = acc) := by show _ = _; rw [← HD.out]; unfold digT; simp
      have hs1 : (⟨#[109]⟩ : ByteArray).size = 1 := rfl
      have hs2 : ¬ (1 + acc.size > 9223372036854775807) := by omega
      go_wp2
      go_ret
      exact ⟨by rw [HM.out, HF.out]; rfl, hB⟩
    · have hjz : (0 : Int) < (j : Int) := by omega
      obtain ⟨r, hr⟩ : ∃ r : Nat, Hid (j % 10 = r) := ⟨_, rfl⟩
      obtain ⟨d, hd⟩ : ∃ d : Nat, Hid (j / 10 = d) := ⟨_, rfl⟩
      have hr9 : r ≤ 9 := by have := hr.out; omega
      have hdj : d < j := by have := hd.out; omega
      have HN : Hid (digT d (strOfNums [48 + (r : Int)] ++ acc) = digT m ⟨#[]⟩) := by
        show _ = _
        rw [← HD.out]
        conv => rhs; unfold digT
        rw [dif_neg hz, hr.out, hd.out]
      have h1 : Int.tmod (j : Int) 10 = (r : Int) := by rw [← hr.out]; rfl
      have h2 : Int.tdiv (j : Int) 10 = (d : Int) := by rw [← hd.out]; rfl
      have h3 : IntKind.u8.wrap (48 + (r : Int)) = 48 + (r : Int) := by rw [u8_wrap]; omega
      have hcv := conv_view ((Row.litOne wr 5 (48 + (r : Int))).view (cap := 1) (Nat.le_refl _) (fun _ _ => ⟨by omega, by omega⟩))
      rw [show lof 1 (fun _ => 48 + (r : Int)) = [48 + (r : Int)] by simp [lof]] at hcv
      have hB2 : Below w.heap.size w (wr.alloc (.cells #[.int .u8 (48 + (r : Int))] 5)) := hB.alloc hB.size _
      have hs1 : (strOfNums [48 + (r : Int)]).size = 1 := by simp [strOfNums, ByteArray.size]
      have hs2 : ¬ (1 + acc.size > 9223372036854775807) := by omega
      have HZ : Hid ((strOfNums [48 + (r : Int)] ++ acc).size + d ≤ m) := by show _ ≤ _; rw [ByteArray.size_append, hs1]; omega
      clear HD
      go_wp2
      go_roundg d
      case measure => omega
      case rel => exact ⟨d, _, by omega, rfl, by go_num, rfl, HN.out, HZ.out, hB2⟩
end Go.Proofs.Ytclegljalndaear

/-
  What turns but one block: how it is carried.
-/
namespace Go.Proofs.Ytclegljalndaear
open Go.RowKit
set_option maxRecDepth 4000

/-- Of what was there block g alone may have turned. -/
structure But (g : Nat) (w w' : World) : Prop where
  os : w'.os = w.os
  tape : w'.tape = w.tape
  output : w'.output = w.output
  size : w.heap.size ≤ w'.heap.size
  block : ∀ k, k < w.heap.size → k ≠ g → w'.heap[k]? = w.heap[k]?

theorem But.refl (g : Nat) (w : World) : But g w w := ⟨rfl, rfl, rfl, Nat.le_refl _, fun _ _ _ => rfl⟩
theorem But.trans {g : Nat} {a b c : World} (h : But g a b) (k : But g b c) : But g a c :=
  ⟨k.os.trans h.os, k.tape.trans h.tape, k.output.trans h.output, Nat.le_trans h.size k.size, fun i hi hg => (k.block i (Nat.lt_of_lt_of_le hi h.size) hg).trans (h.block i hi hg)⟩
theorem But.ofOnly {g : Nat} {w w' : World} (h : Only g w w') : But g w w' := ⟨h.os, h.tape, h.output, by rw [h.size]; exact Nat.le_refl _, fun k _ hk => h.block k hk⟩
theorem But.ofBelow {g : Nat} {w w' : World} (h : Below w.heap.size w w') : But g w w' := ⟨h.os, h.tape, h.output, h.size, fun k hk _ => h.block k hk⟩
theorem But.below {g B : Nat} {w w' : World} (h : But g w w') (hB : B ≤ g) (hs : B ≤ w.heap.size) : Below B w w' := ⟨h.os, h.tape, h.output, h.size, fun k hk => h.block k (by omega) (by omega)⟩
theorem But.row {t : TypeId} {g b n : Nat} {f : Nat → Int} {w w' : World} (h : But g w w') (hr : Row t w b n f) (hne : b ≠ g) : Row t w' b n f := hr.of_block (h.block b hr.lt hne)
theorem But.view {g : Nat} {ao : Option Addr} {n cap : Nat} {f : Nat → Int} {w w' : World} (h : But g w w') (hv : View w ao n cap f) (hne : ∀ a, ao = some a → 0 < n → a.block ≠ g) : View w' ao n cap f := by
  refine ⟨hv.le, hv.byte, fun hn => ?_⟩
  obtain ⟨b', off, e, hlt, hc⟩ := hv.cells hn
  refine ⟨b', off, e, Nat.lt_of_lt_of_le hlt h.size, fun i hi => ?_⟩
  rw [World.cell?_of_block (w := w) (h.block b' hlt (hne _ e hn))]
  exact hc i hi
theorem Only.grown {g : Nat} {w w' : World} (h : Only g w w') : w.grownBy w' (some g) :=
  ⟨h.os, h.tape, h.output, by rw [h.size]; exact Nat.le_refl _, fun k _ hk => h.block k (fun e => hk (by rw [e]))⟩
end Go.Proofs.Ytclegljalndaear

/-
  What the law's own helpers markValS and heldValS come to: the one writes counts into a row of values of the call's own, the other finds them there.
-/
namespace Go.Proofs.Ytclegljalndaear
open Go.RowKit
set_option maxRecDepth 4000

/-- Block b is a row of values of the call's own, none frozen; its first cells are F 0, F 1 .. (three a value). -/
def RowV (w : World) (b n : Nat) (F : Nat → Value) : Prop :=
  ∃ c : Array Value, w.heap[b]? = some (.cells c 59 (0, 0)) ∧ n * 3 ≤ c.size ∧ ∀ i, i < n * 3 → c[i]? = some (F i)
namespace RowV
variable {w w' : World} {b n : Nat} {F G : Nat → Value}
theorem cell (h : RowV w b n F) {i : Nat} (hi : i < n * 3) : w.cell? ⟨b, i, none⟩ = some (F i) := by
  obtain ⟨c, hb, _, hc⟩ := h
  simp [World.cell?, hb, hc i hi]
theorem frozen (h : RowV w b n F) (i : Nat) : w.frozen? ⟨b, i, none⟩ = false := by
  obtain ⟨c, hb, _, _⟩ := h
  simp [World.frozen?, hb]
theorem lt (h : RowV w b n F) : b < w.heap.size := by
  obtain ⟨c, hb, _, _⟩ := h
  exact (Array.getElem?_eq_some_iff.1 hb).1
theorem of_block (h : RowV w b n F) (e : w'.heap[b]? = w.heap[b]?) : RowV w' b n F := by
  obtain ⟨c, hb, r⟩ := h
  exact ⟨c, e.trans hb, r⟩
theorem congr (h : RowV w b n F) (e : ∀ i, i < n * 3 → F i = G i) : RowV w b n G := by
  obtain ⟨c, h1, h2, h3⟩ := h
  exact ⟨c, h1, h2, fun i hi => by rw [h3 i hi, e i hi]⟩
theorem set (h : RowV w b n F) (i : Nat) (u : Value) : RowV (w.setCell ⟨b, i, none⟩ u) b n (fun j => if j = i then u else F j) := by
  obtain ⟨c, hb, hs, hc⟩ := h
  refine ⟨c.setIfInBounds i u, ?_, by simpa using hs, fun j hj => ?_⟩
  · simp [World.setCell, Array.getElem?_modify, hb]
  · rw [Array.getElem?_setIfInBounds]
    by_cases e : j = i
    · subst e
      have : j < c.size := by omega
      simp [this]
    · rw [if_neg (fun h => e h.symm)]
      show c[j]? = some (if j = i then u else F j)
      rw [if_neg e]
      exact hc j hj
/-- A row of the call's own that is no nil slice. -/
theorem ofOwn {base : Nat} {v : Value} {xs : List Value} (h : w.ownsRow base 59 3 v n xs) (hne : v ≠ .slice none 0 0) : ∃ b c, v = .slice (some ⟨b, 0, none⟩) n c ∧ base ≤ b ∧ n ≤ c ∧ RowV w b n (fun i => xs.getD i .nilFunc) := by
  obtain ⟨hl, h⟩ := h
  rcases h with ⟨h0, _⟩ | ⟨g, c, cur, rfl, hb, hg, hnc, hcm, hcs, ht⟩
  · exact absurd h0 hne
  · refine ⟨g, c, rfl, hb, hnc, cur, hg, by rw [hcs]; omega, fun i hi => ?_⟩
    have hx : xs[i]? = some (xs.getD i .nilFunc) := by
      have : i < xs.length := by omega
      simp [this]
    rw [← ht, List.getElem?_take, if_pos hi] at hx
    rw [← ht]
    simpa using hx
end RowV

/-- What is written into a cell. -/
def markV (k : Int) (i : Nat) : Value := if i % 3 = 2 then .string (markT (k + i)) else .int .i64 (k + i)

structure MarkedV (w wr : World) (b n : Nat) (F : Nat → Value) (k : Int) (j : Nat) : Prop where
  but : But b w wr
  row : RowV wr b n (fun i => if i < j * 3 then markV k i else F i)
theorem MarkedV.put {w wr : World} {b n : Nat} {F : Nat → Value} {k : Int} {j : Nat} (h : MarkedV w wr b n F k j) {wr2 : World} (hb : Below wr.heap.size ((wr.setCell ⟨b, j * 3, none⟩ (.int .i64 (k + 3 * j))).setCell ⟨b, j * 3 + 1, none⟩ (.int .i64 (k + 3 * j + 1))) wr2) :
    MarkedV w (wr2.setCell ⟨b, j * 3 + 2, none⟩ (.string (markT (k + 3 * j + 1 + 1)))) b n F k (j + 1) := by
  have hs : ∀ (W : World) (a : Addr) (u : Value), (W.setCell a u).heap.size = W.heap.size := fun W a u => by simp
  have o1 : Only b wr ((wr.setCell ⟨b, j * 3, none⟩ (.int .i64 (k + 3 * j))).setCell ⟨b, j * 3 + 1, none⟩ (.int .i64 (k + 3 * j + 1))) := ((Only.refl _ _).setCell _).setCell _
  have hlt := h.row.lt
  have hbut2 : But b wr wr2 := (But.ofOnly o1).trans (But.ofBelow (by rw [hs, hs]; exact hb))
  have hr2 : RowV wr2 b n _ := ((h.row.set (j * 3) (.int .i64 (k + 3 * j))).set (j * 3 + 1) (.int .i64 (k + 3 * j + 1))).of_block (hb.block b hlt)
  refine ⟨(h.but.trans hbut2).trans (But.ofOnly ((Only.refl _ _).setCell _)), (hr2.set (j * 3 + 2) _).congr (fun i _ => ?_)⟩
  by_cases e2 : i = j * 3 + 2
  · subst e2
    rw [if_pos rfl, if_pos (by omega)]
    unfold markV
    rw [if_pos (by omega)]
    congr 2
    push_cast
    omega
  by_cases e1 : i = j * 3 + 1
  · subst e1
    rw [if_neg (by omega), if_pos rfl, if_pos (by omega)]
    unfold markV
    rw [if_neg (by omega)]
    congr 1
    push_cast
    omega
  by_cases e0 : i = j * 3
  · subst e0
    rw [if_neg (by omega), if_neg (by omega), if_pos rfl, if_pos (by omega)]
    unfold markV
    rw [if_neg (by omega)]
    congr 1
    push_cast
    omega
  · rw [if_neg e2, if_neg e1, if_neg e0]
    by_cases hlt : i < j * 3
    · rw [if_pos hlt, if_pos (by omega)]
    · rw [if_neg hlt, if_neg (by omega)]

set_option maxHeartbeats 2000000 in
theorem markValS_any (b n cap : Nat) (F : Nat → Value) (k : Int) (w : World) (hr : RowV w b n F) (hk : 0 ≤ k) (hk1 : k + 3 * n ≤ 4611686018427387904) :
    Calls Try.prog 23 #[.slice (some ⟨b, 0, none⟩) n cap, .int .i64 k] w fun e w' => e = .returned (.int .i64 (k + 3 * n)) ∧ RowV w' b n (markV k) ∧ But b w w' := by
  go_enter Try.func23, Try.ntmps23
  go_wp2
  go_loopg [1, 5] n (fun g s i wr => ∃ j : Nat, j ≤ n ∧ g = n - j ∧ s = .int .i64 (k + 3 * j) ∧ i = .int .i64 j ∧ MarkedV w wr b n F k j)
  case atStart => exact ⟨0, Nat.zero_le _, rfl, by simp, rfl, But.refl _ _, hr.congr (fun i _ => by simp)⟩
  case round =>
    obtain ⟨j, hj, rfl, rfl, rfl, hM⟩ := hrel
    clear hr
    by_cases hlt : j < n
    · have hjz : (j : Int) < (n : Int) := by omega
      have z0 := hM.row.cell (i := j * 3) (by omega)
      have z1 := hM.row.cell (i := j * 3 + 1) (by omega)
      have f0 := hM.row.frozen (j * 3)
      have f1 := hM.row.frozen (j * 3 + 1)
      have hbl := hM.row.lt
      have hr2 := (hM.row.set (j * 3) (.int .i64 (k + 3 * j))).set (j * 3 + 1) (.int .i64 (k + 3 * j + 1))
      go_wp2_with fail
      refine (markText_any _ _ (by omega)).mono ?_
      rintro e w2 ⟨rfl, hb⟩
      have hb' : Below wr.heap.size ((wr.setCell ⟨b, j * 3, none⟩ (.int .i64 (k + 3 * j))).setCell ⟨b, j * 3 + 1, none⟩ (.int .i64 (k + 3 * j + 1))) w2 := by
        have e : ((wr.setCell ⟨b, j * 3, none⟩ (.int .i64 (k + 3 * j))).setCell ⟨b, j * 3 + 1, none⟩ (.int .i64 (k + 3 * j + 1))).heap.size = wr.heap.size := by simp
        rw [e] at hb
        exact hb
      have hr3 := hr2.of_block (hb'.block b hbl)
      have z2 := hr3.cell (i := j * 3 + 2) (by omega)
      have f2 := hr3.frozen (j * 3 + 2)
      have hS : Hid (MarkedV w (w2.setCell ⟨b, j * 3 + 2, none⟩ (.string (markT (k + 3 * j + 1 + 1)))) b n F k (j + 1)) := hM.put hb'
      clear hM hb hb' hr2 hr3 z0 z1 f0 f1
      go_wp2
      go_roundg (n - (j + 1))
      case measure => omega
      case rel => exact ⟨j + 1, by omega, rfl, by go_num, by go_num, hS.out⟩
    · obtain rfl : j = n := by omega
      have hF : Hid (RowV wr b j (markV k)) := hM.row.congr (fun i hi => by rw [if_pos hi])
      have hO := hM.but
      clear hM
      go_wp2
      go_ret
      exact ⟨rfl, hF.out, hO⟩

/-- A row that was marked reads so. -/
theorem RowV.marked {w : World} {b n c : Nat} {k : Int} (h : RowV w b n (markV k)) (hc : n ≤ c) : VView w (some ⟨b, 0, none⟩) n c (fun i => k + 3 * i) (fun i => k + 3 * i + 1) (fun i => markT (k + 3 * i + 1 + 1)) := by
  refine ⟨hc, fun _ => ⟨b, 0, rfl, h.lt, fun i hi => ?_⟩⟩
  have c0 := h.cell (i := i * 3) (by omega)
  have c1 := h.cell (i := i * 3 + 1) (by omega)
  have c2 := h.cell (i := i * 3 + 2) (by omega)
  unfold markV at c0 c1 c2
  rw [if_neg (by omega)] at c0 c1
  rw [if_pos (by omega)] at c2
  simp only [Nat.zero_add]
  refine ⟨?_, ?_, ?_⟩
  · rw [c0]; congr 2; push_cast; omega
  · rw [c1]; congr 2; push_cast; omega
  · rw [c2]; congr 3; push_cast; omega
end Go.Proofs.Ytclegljalndaear

/-
  What the law's own helper heldValS comes to on a row that was marked.
-/
namespace Go.Proofs.Ytclegljalndaear
open Go.RowKit
set_option maxRecDepth 4000

theorem neStr_run (s : ByteArray) (W : World) : (binOp .neq 9 (.string s) (.string s)).run Try.prog W = .ok (.bool false) W := by
  simp [go_sem, binOp, Op.stringOp]

set_option linter.unusedSimpArgs false in
set_option maxHeartbeats 2000000 in
theorem heldValS_any (ao : Option Addr) (n cap : Nat) (k : Int) (w : World) (hv : VView w ao n cap (fun i => k + 3 * i) (fun i => k + 3 * i + 1) (fun i => markT (k + 3 * i + 1 + 1))) (hk : 0 ≤ k) (hk1 : k + 3 * n ≤ 4611686018427387904) :
    Calls Try.prog 29 #[.slice ao n cap, .int .i64 k] w fun e w' => e = .returned (.int .i64 (k + 3 * n)) ∧ Below w.heap.size w w' := by
  go_enter Try.func29, Try.ntmps29
  go_wp2
  go_loopg [1, 5] n (fun g s i wr => ∃ j : Nat, j ≤ n ∧ g = n - j ∧ s = .int .i64 (k + 3 * j) ∧ i = .int .i64 j ∧ Below w.heap.size w wr)
  case atStart => exact ⟨0, Nat.zero_le _, rfl, by simp, rfl, Below.refl _ _⟩
  case round =>
    obtain ⟨j, hj, rfl, rfl, rfl, hB⟩ := hrel
    by_cases hlt : j < n
    · obtain ⟨b, off, rfl, hb, hc⟩ := (hv.below hB).cells (by omega)
      have hjz : (j : Int) < (n : Int) := by omega
      obtain ⟨x0, x1, x2⟩ := hc j hlt
      have hT := fun W => markText_any (k + 3 * j + 1 + 1) W (by omega)
      obtain ⟨s, hs⟩ : ∃ s, Hid (markT (k + 3 * j + 1 + 1) = s) := ⟨_, rfl⟩
      rw [hs.out] at x2 hT
      have q0 : ((k + 3 * (j : Int)) != (k + 3 * (j : Int))) = false := by simp
      have q1 : ((k + 3 * (j : Int) + 1) != (k + 3 * (j : Int) + 1)) = false := by simp
      have q2 := neStr_run s
      clear hc hv
      go_wp2_with fail
      refine wp_region_held_drew (S := fun W => W.cell? ⟨b, off + j * 3 + 2, none⟩ = some (.string s)) (by kernel_rfl) (x2) (fun hHeld => ?_)
      refine' wpAnyH_take (i := 0) (v := _) rfl (by kernel_rfl) (by kernel_rfl) (by kernel_rfl) (fun _ _ _ h => h) (Or.inl ⟨by kernel_rfl, ?ha0⟩) (by assumption) ?ra0
      case ha0 => intro W hW; go_simp; all_goals with_reducible rfl
      change wpAnyH _ _ _ _ _ _ _ (Act.put _ (some 30) _) _
      simp only [Act.put, List.setIfInBounds_toArray, List.set_cons_zero, List.set_cons_succ]
      refine' wpAnyH_take (i := 1) (v := _) rfl (by kernel_rfl) (by kernel_rfl) (by kernel_rfl) (fun _ _ _ h => h) (Or.inl ⟨by kernel_rfl, ?ha1⟩) (by assumption) ?ra1
      case ha1 => intro W hW; go_simp; all_goals with_reducible rfl
      change wpAnyH _ _ _ _ _ _ _ (Act.put _ (some 31) _) _
      simp only [Act.put, List.setIfInBounds_toArray, List.set_cons_zero, List.set_cons_succ]
      refine' wpAnyH_take (i := 2) (v := _) rfl (by kernel_rfl) (by kernel_rfl) (by kernel_rfl) (fun _ _ _ h => h) (Or.inl ⟨by kernel_rfl, ?ha2⟩) (by assumption) ?ra2
      case ha2 => intro W hW; go_simp; all_goals with_reducible rfl
      change wpAnyH _ _ _ _ _ _ _ (Act.put _ (some 32) _) _
      simp only [Act.put, List.setIfInBounds_toArray, List.set_cons_zero, List.set_cons_succ]
      refine' wpAnyH_take (i := 3) (v := _) rfl (by kernel_rfl) (by kernel_rfl) (by kernel_rfl) (fun _ _ _ h => h) (Or.inl ⟨by kernel_rfl, ?ha3⟩) (by assumption) ?ra3
      case ha3 => intro W hW; go_simp; all_goals with_reducible rfl
      change wpAnyH _ _ _ _ _ _ _ (Act.put _ (some 33) _) _
      simp only [Act.put, List.setIfInBounds_toArray, List.set_cons_zero, List.set_cons_succ]
      refine' wpAnyH_take (i := 4) (v := _) rfl (by kernel_rfl) (by kernel_rfl) (by kernel_rfl) (fun _ _ _ h => h) (Or.inl ⟨by kernel_rfl, ?ha4⟩) (by assumption) ?ra4
      case ha4 => intro W hW; go_simp; all_goals with_reducible rfl
      change wpAnyH _ _ _ _ _ _ _ (Act.put _ (some 34) _) _
      simp only [Act.put, List.setIfInBounds_toArray, List.set_cons_zero, List.set_cons_succ]
      refine' wpAnyH_take (i := 5) (v := _) rfl (by kernel_rfl) (by kernel_rfl) (by kernel_rfl) (fun _ _ _ h => h) (Or.inl ⟨by kernel_rfl, ?ha5⟩) (by assumption) ?ra5
      case ha5 => intro W hW; go_simp; all_goals with_reducible rfl
      change wpAnyH _ _ _ _ _ _ _ (Act.put _ (some 35) _) _
      simp only [Act.put, List.setIfInBounds_toArray, List.set_cons_zero, List.set_cons_succ]
      refine wpAnyH_ready (rs := [6]) (by kernel_rfl) (by simp) ?_
      refine AllReadyH.cons rfl (fun KK hK => ?_) AllReadyH.nil
      go_simp
      refine (hT _).mono ?_
      rintro e w2 ⟨rfl, hB2⟩
      go_wp2_with fail
      refine hK.out _ _ (by rw [hB2.cell hb]; exact x2) (fun hHeld => ?_)
      clear hK KK
      try simp only [Act.put, List.setIfInBounds_toArray, List.set_cons_zero, List.set_cons_succ]
      refine' wpAnyH_take (i := 7) (v := _) rfl (by kernel_rfl) (by kernel_rfl) (by kernel_rfl) (fun _ _ _ h => h) (Or.inl ⟨by kernel_rfl, ?ha7⟩) (by assumption) ?ra7
      case ha7 => intro W hW; go_simp; all_goals with_reducible rfl
      change wpAnyH _ _ _ _ _ _ _ (Act.put _ (some 37) _) _
      simp only [Act.put, List.setIfInBounds_toArray, List.set_cons_zero, List.set_cons_succ]
      refine wpAnyH_done (by kernel_rfl) ?_ _
      have hB3 : Hid (Below w.heap.size w w2) := hB.trans (Below.trans (Below.drew (Below.refl _ _)) (hB2.mono (by have := hB.size; exact this)))
      clear hHeld x0 x1 x2 hT
      go_wp2
      go_roundg (n - (j + 1))
      case measure => omega
      case rel => exact ⟨j + 1, by omega, rfl, by go_num, by go_num, hB3.out⟩
    · obtain rfl : j = n := by omega
      go_wp2
      go_ret
      exact ⟨rfl, hB⟩
end Go.Proofs.Ytclegljalndaear

