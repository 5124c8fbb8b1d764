/-
  Together: IterKit, IterOwn, OwnK, StrIter, TwicePlain, TwiceImpl, PartsImpl9, AllPartsImpl, WrongPlain, WrongImpl, AsImpl
-/
import Derived.Test.YtfjlmkphncigladGreatDoorPack1
import Derived.RangeFuncNested
import Derived.RangeFuncBound
import Derived.RangeFuncCalls
import Derived.RangeFuncLeaves
import Derived.OwnWalkIn
import Derived.TacticsInMore
import Derived.LoopNIn
import Derived.LoopIn
import Derived.Shelf.RegionOpen
import Derived.Test.YtfjlmkphncigladGreatDoorPack4
import Derived.Lib.SlicesCompact
import Derived.Test.YtfjlmkphncigladGreatDoorShelf
import Derived.Sort.EncStr
import Derived.Sort.Grow
import Derived.Deep.LoopGhost
import Derived.Deep.RegionHeld3
import Derived.Test.YtfjlmkphncigladGreatDoorProg
import Derived.LaidEql
import Derived.Stop.Asserts
import Derived.RowKitTokens
/-
  What a round of a loop over an iterator keeps: all that lay at the start of the call, and the two boxes that the iterator holds.
-/
namespace Go.Proofs.YtfjlmkphncigladGreatDoor
open Go.RowKit
set_option maxRecDepth 4000

/-- What a round that goes on keeps. -/
structure KpB (n₀ Bl Bv : Nat) (W W' : World) : Prop where
  below : Below n₀ W W'
  bl : W'.heap[Bl]? = W.heap[Bl]?
  bv : W'.heap[Bv]? = W.heap[Bv]?
theorem KpB.refl (n₀ Bl Bv : Nat) (W : World) : KpB n₀ Bl Bv W W := ⟨Below.refl _ _, rfl, rfl⟩
theorem KpB.trans {n₀ Bl Bv : Nat} {A B C : World} (h : KpB n₀ Bl Bv A B) (k : KpB n₀ Bl Bv B C) : KpB n₀ Bl Bv A C := ⟨h.below.trans k.below, k.bl.trans h.bl, k.bv.trans h.bv⟩
/-- Whatever leaves all that lay as it lay. -/
theorem KpB.ofBelow {n₀ Bl Bv : Nat} {W W' : World} (h : Below W.heap.size W W') (hn : n₀ ≤ W.heap.size) (hl : Bl < W.heap.size) (hv : Bv < W.heap.size) : KpB n₀ Bl Bv W W' := ⟨h.mono hn, h.block Bl hl, h.block Bv hv⟩
/-- A step that turns one block. -/
theorem KpB.ofGrown {n₀ Bl Bv : Nat} {W W' : World} {row : Option Nat} (hg : W.grownBy W' row) (hn : n₀ ≤ W.heap.size) (hl : Bl < W.heap.size) (hv : Bv < W.heap.size) (hr : ∀ k, row = some k → n₀ ≤ k ∧ k ≠ Bl ∧ k ≠ Bv) : KpB n₀ Bl Bv W W' :=
  ⟨⟨hg.os, hg.tape, hg.output, hg.size, fun k hk => hg.block k (by omega) (fun e => by have := (hr k e.symm).1; omega)⟩, hg.block Bl hl (fun e => (hr Bl e.symm).2.1 rfl), hg.block Bv hv (fun e => (hr Bv e.symm).2.2 rfl)⟩
theorem KpB.put {n₀ Bl Bv : Nat} {w : World} (hn : n₀ ≤ w.heap.size) (hl : Bl < w.heap.size) (hv : Bv < w.heap.size) (W : World) (l : Nat) (o o' : Obj) (hle : w.heap.size ≤ l) (h : W.heap[l]? = some o) (h1 : o.isCells = false) (h2 : o.isWalk = false) : KpB n₀ Bl Bv W (W.putObj l o') :=
  ⟨belowK_b hn W l o o' hle h h1 h2, World.putObj_heap_other (by omega), World.putObj_heap_other (by omega)⟩
theorem Boxed.kpl {n₀ Bl Bv : Nat} {W W' : World} {t : TypeId} {v : Value} (h : Boxed W Bl t v) (k : KpB n₀ Bl Bv W W') : Boxed W' Bl t v := k.bl.trans h
theorem Boxed.kpv {n₀ Bl Bv : Nat} {W W' : World} {t : TypeId} {v : Value} (h : Boxed W Bv t v) (k : KpB n₀ Bl Bv W W') : Boxed W' Bv t v := k.bv.trans h
theorem Boxed.below' {W W' : World} {B : Nat} {t : TypeId} {v : Value} (h : Boxed W B t v) (k : Below W.heap.size W W') : Boxed W' B t v := (k.block B h.lt).trans h
theorem grownBy_drew' (W : World) : W.grownBy W.drew none := ⟨rfl, rfl, rfl, Nat.le_refl _, fun _ _ _ => rfl⟩
theorem grownBy_below' {W W' : World} (h : Below W.heap.size W W') : W.grownBy W' none := ⟨h.os, h.tape, h.output, h.size, fun k hk _ => h.block k hk⟩
theorem AbidesFrom.step {β : Type} {B : Nat} {J : β → World → Prop} (h : AbidesFrom B J) {s : β} {W W' : World} (hs : J s W) (hg : W.grownBy W' none) : J s W' := h s W W' none hs hg (fun _ e => by cases e)
/-- 'KeepsFrom' of whatever leaves all that lay as it lay. -/
theorem KeepsFrom.ofBelow {B : Nat} {W W' : World} (h : Below W.heap.size W W') : KeepsFrom B W W' := ⟨h.size, fun k _ _ hk _ => (h.block k (Array.getElem?_eq_some_iff.1 hk).1).trans hk⟩
/-- 'KpB .. w₀ ·' abides what the loop itself turns. -/
theorem ownFrom_kpB {β : Type} {n₀ Bl Bv B' : Nat} {w₀ : World} (hn : n₀ ≤ B') (hl : Bl < B') (hv : Bv < B') (hB : B' ≤ w₀.heap.size) : OwnFrom B' (fun (_ : β) W => KpB n₀ Bl Bv w₀ W) :=
  fun _ X Y row hs hg hr => by
    have hs0 := hs.below.size
    refine ⟨hs.below.trans ⟨hg.os, hg.tape, hg.output, hg.size, fun k hk => hg.block k (by omega) (fun e => by have := (hr k e.symm).1; omega)⟩, ?_, ?_⟩
    · exact (hg.block Bl (by omega) (fun e => by have := (hr Bl e.symm).1; omega)).trans hs.bl
    · exact (hg.block Bv (by omega) (fun e => by have := (hr Bv e.symm).1; omega)).trans hs.bv

/-- The first j of the indices. -/
theorem fin_take {k j : Nat} (h : j < k) : (List.finRange k).take (j + 1) = (List.finRange k).take j ++ [⟨j, h⟩] := by
  rw [List.take_add_one, List.getElem?_eq_getElem (by simpa using h)]
  simp
theorem fin_len {k j : Nat} (h : j ≤ k) : ((List.finRange k).take j).length = j := by simp [h]
end Go.Proofs.YtfjlmkphncigladGreatDoor

/-
  A box of a round, and what the loop itself turns.
-/
namespace Go.Proofs.YtfjlmkphncigladGreatDoor
open Go.RowKit
set_option maxRecDepth 4000

theorem Boxed.ownK {W W' : World} {row : Option Nat} {B : Nat} {t : TypeId} {v : Value} (h : Boxed W B t v) (hg : W.grownBy W' row) (hr : ∀ r, row = some r → ∃ o : Obj, W.heap[r]? = some o ∧ o.isCells = false) : Boxed W' B t v := by
  obtain ⟨o, ho, hc⟩ := cells_of_cell h.cell
  exact (grownBy_keeps_cells hg hr ho hc).trans h
theorem Below.put' {n₀ : Nat} {w₀ W : World} {D : Nat} {o o' : Obj} (h : Below n₀ w₀ W) (hn : n₀ ≤ D) (hK : W.heap[D]? = some o) : Below n₀ w₀ (W.putObj D o') :=
  h.trans ((Below.refl n₀ W).grown (grownBy_putObj' W D o') (by have := (Array.getElem?_eq_some_iff.1 hK).1; omega) (fun k e => by cases e; omega))
end Go.Proofs.YtfjlmkphncigladGreatDoor

/-
  Rows of the call's own, and what the loop over an iterator itself turns.
-/
namespace Go.Proofs.YtfjlmkphncigladGreatDoor
open Go.RowKit
set_option maxRecDepth 4000

theorem own_ge {W : World} {base : Nat} {e : TypeId} {size : Nat} {v : Value} {k : Nat} {xs : List Value} (h : W.ownsRow base e size v k xs) : ∀ j, v.ownBlock = some j → base ≤ j := by
  intro j hj
  rcases h.2 with ⟨rfl, _⟩ | ⟨g, cap, cur, rfl, hb, _⟩
  · simp [Value.ownBlock] at hj
  · obtain rfl : g = j := by simpa [Value.ownBlock] using hj
    exact hb
theorem own_ownK {W W' : World} {row : Option Nat} {base : Nat} {e : TypeId} {size : Nat} {v : Value} {k : Nat} {xs : List Value} (h : W.ownsRow base e size v k xs) (hg : W.grownBy W' row) (hr : ∀ r, row = some r → ∃ o : Obj, W.heap[r]? = some o ∧ o.isCells = false) : W'.ownsRow base e size v k xs := by
  refine h.kept hg ?_
  rcases h.2 with ⟨rfl, _⟩ | ⟨g, cap, cur, rfl, _, hgb, _⟩
  · exact .inl rfl
  · refine .inr fun e' => ?_
    obtain ⟨o, ho, hc⟩ := hr g (by simpa [Value.ownBlock] using e'.symm)
    rw [hgb] at ho; cases ho; cases hc
end Go.Proofs.YtfjlmkphncigladGreatDoor

/-
  slices.Values of a row of texts, and what slices.AppendSeq makes of it.
-/
namespace Go.Proofs.YtfjlmkphncigladGreatDoor
open Go.RowKit
set_option maxRecDepth 4000

attribute [local go_sem] Oper.semAt_some

/-- A text, as it is yielded. -/
abbrev encY (x : ByteArray) : Array Value := #[.string x]
/-- The first j texts. -/
def strU (f : Nat → ByteArray) (j : Nat) : List ByteArray := (List.range j).map f
theorem strU_succ (f : Nat → ByteArray) (j : Nat) : strU f (j + 1) = strU f j ++ [f j] := by simp [strU, List.range_succ]
theorem strU_len (f : Nat → ByteArray) (j : Nat) : (strU f j).length = j := by simp [strU]
theorem rowG_strU (f : Nat → ByteArray) : ∀ n, rowG (encS f) n = (strU f n).map Value.string
  | 0 => rfl
  | n + 1 => by rw [rowG, rowG_strU f n, strU_succ, List.map_append]; rfl

set_option linter.unusedSimpArgs false in
set_option maxRecDepth 100000 in
set_option maxHeartbeats 4000000 in
theorem values1_in (NN : Nat) (hNN : 1 ≤ NN) (l B : Nat) (a : Option Addr) (n cap : Nat) (f : Nat → ByteArray) (w : World) (hp : SView w a n cap f) (hn : n ≤ 281474976710656)
    (J Jx : List ByteArray → World → Prop) (W : World)
    (hY : ∀ pre x W1, J pre W1 → pre.length < n → YieldAt Fence.wide (NN - 1) Tryz.prog l (encY x) W1 fun e W' =>
      (e = .returned (.bool true) ∧ J (pre ++ [x]) W' ∧ KpB w.heap.size B B W1 W') ∨ (e = .returned (.bool false) ∧ Jx (pre ++ [x]) W'))
    (hb : Below w.heap.size w W) (hl : Boxed W B 74 (.slice a n cap)) (h0 : J [] W) :
    CallsIn Fence.wide NN Tryz.prog 81 #[.func (.yield l) #[] #[], .pointer (some ⟨B, 0, none⟩)] W fun e W' => (∃ v, e = .returned v) ∧
      ((∃ xs, xs = strU f n ∧ J xs W') ∨ (∃ pre, True ∧ Jx pre W')) := by
  refine callsIn_of_wp Tryz.func81 rfl trivial ?_ rfl
  simp only [Tryz.ntmps81, List.size_toArray, List.length_cons, List.length_nil, Nat.reduceAdd, Nat.reduceSub, Array.replicate_succ, Array.replicate_zero, List.push_toArray, List.append_toArray, List.nil_append, List.cons_append]
  have cl := hl.cell
  gi_wp2
  gi_loopw [7] (fun i wr => ∃ (j : Nat), j ≤ n ∧ i = .int .i64 j ∧ J (strU f j) wr ∧ KpB w.heap.size B B W wr) (fun i _ => n - (intOf i).toNat)
  case atStart => exact ⟨0, Nat.zero_le _, rfl, h0, KpB.refl _ _ _ _⟩
  case round =>
    obtain ⟨j, hj, rfl, hJs, hk⟩ := hrel
    by_cases hlt : j < n
    · have hbw : Below w.heap.size w wr := hb.trans hk.below
      obtain ⟨b1, o1, rfl, hb1, hd1⟩ := (hp.below hbw).cells (by omega)
      have x0 := hd1 j hlt
      have hjz : (j : Int) < (n : Int) := by omega
      have hUl := strU_len f j
      obtain ⟨fn', tmps, assign, body, hy, hR⟩ := hY (strU f j) (f j) wr hJs (by omega)
      dsimp only [encY] at hy
      have HU : Hid (strU f (j + 1) = strU f j ++ [f j]) := strU_succ f j
      obtain ⟨s0, hs0⟩ : ∃ s, f j = s := ⟨_, rfl⟩
      rw [hs0] at x0 hy hR HU
      clear hd1 cl hs0 hJs
      gi_wp2
      refine hR.mono ?_
      rintro e W3 (⟨rfl, hJ3, hk3⟩ | ⟨rfl, hJx3⟩)
      · clear hy hR x0
        gi_wp2
        go_roundw
        case rel => exact ⟨j + 1, by omega, by go_num, by rw [HU.out]; exact hJ3, hk.trans hk3⟩
        case measure => simp [intOf]; omega
      · clear hy hR x0
        gi_wp2
        refine bodyPost_ret (results_none rfl _ _ _) rfl ?_
        exact ⟨⟨_, rfl⟩, .inr ⟨_, trivial, hJx3⟩⟩
    · have hjz : ¬ (j : Int) < (n : Int) := by omega
      obtain rfl : j = n := by omega
      gi_wp2
      go_end0
      first
        | exact ⟨⟨_, rfl⟩, .inl hJs⟩
        | exact ⟨⟨_, rfl⟩, .inl ⟨_, rfl, hJs⟩⟩

theorem values_stops (NN : Nat) (hNN : 1 ≤ NN) (B : Nat) (a : Option Addr) (n cap : Nat) (f : Nat → ByteArray) (w : World) (hp : SView w a n cap f) (hn : n ≤ 281474976710656)
    (W0 : World) (hb : Below w.heap.size w W0) (hl : Boxed W0 B 74 (.slice a n cap)) :
    SeqStopsK Fence.wide NN Tryz.prog 81 #[.pointer (some ⟨B, 0, none⟩)] encY (KpB w.heap.size B B) (fun xs => xs = strU f n) (fun _ => True) n W0 :=
  fun l J Jx W hW _ _ hY h0 => values1_in NN hNN l B a n cap f w hp hn J Jx W hY (hb.trans (hW.mono hb.size)) (Boxed.below' hl hW) h0

set_option maxHeartbeats 1000000 in
/-- slices.Values boxes its argument. -/
theorem values_in (NN : Nat) (a : Option Addr) (n cap : Nat) (w : World) :
    CallsIn Fence.wide NN Tryz.prog 71 #[.slice a n cap] w fun e w' => e = .returned (.func (.func 81) #[] #[.pointer (some ⟨w.heap.size, 0, none⟩)]) ∧ w' = w.alloc (.cells #[.slice a n cap] 74) := by
  refine callsIn_of_wp Tryz.func71 rfl trivial ?_ rfl
  simp only [Tryz.ntmps71, List.size_toArray, List.length_cons, List.length_nil, Nat.reduceAdd, Nat.reduceSub, Array.replicate_succ, Array.replicate_zero, List.push_toArray, List.append_toArray, List.nil_append, List.cons_append]
  gi_wp2
  go_ret
  exact ⟨rfl, rfl⟩

theorem cells_oneS (W : World) (s : ByteArray) : ∀ j u, [Value.string s][j]? = some u → (W.alloc (.cells #[.string s] 9)).cell? ((⟨W.heap.size, 0, none⟩ : Addr).add j) = some u := by
  intro j u hj
  match j, hj with
  | 0, hj => simp at hj; subst hj; simp [Addr.add]

set_option linter.unusedSimpArgs false in
set_option maxRecDepth 100000 in
set_option maxHeartbeats 4000000 in
/-- What is yielded is put behind a row of the call's own. -/
theorem appendStr_in (a : Option Addr) (n cap : Nat) (f : Nat → ByteArray) (w : World) (hp : SView w a n cap f) (hn : n ≤ 4194304)
    (w2 : World) (B : Nat) (hb : Below w.heap.size w w2) (bL : Boxed w2 B 74 (.slice a n cap)) :
    CallsIn Fence.wide 7 Tryz.prog 91 #[.slice none 0 0, .func (.func 81) #[] #[.pointer (some ⟨B, 0, none⟩)]] w2 fun e w' => ∃ v, e = .returned v ∧ w'.ownsRow w.heap.size 9 1 v n (rowG (encS f) n) ∧ Below w.heap.size w w' := by
  obtain ⟨i0, hi, hz0, hz1, hz2⟩ := infoStr
  refine callsIn_of_wp_marks Tryz.func91 rfl trivial ?_ rfl
  simp only [Tryz.ntmps91, List.size_toArray, List.length_cons, List.length_nil, Nat.reduceAdd, Nat.reduceSub, Array.replicate_succ, Array.replicate_zero, List.push_toArray, List.append_toArray, List.nil_append, List.cons_append]
  gi_wp2
  have hb5 : Below w2.heap.size w2 (w2.alloc (.cells #[.slice none 0 0] 74)) := (Below.refl _ _).alloc (Nat.le_refl _) _
  have hB0 := hb.trans (hb5.mono hb.size)
  have bS := Boxed.new w2 74 (.slice none 0 0)
  have bL0 := Boxed.below' bL hb5
  have hbl := bL.lt
  have hsz : (w2.alloc (.cells #[.slice none 0 0] 74)).heap.size = w2.heap.size + 1 := by simp
  obtain ⟨W0, hW0⟩ : ∃ W0, w2.alloc (.cells #[.slice none 0 0] 74) = W0 := ⟨_, rfl⟩
  rw [hW0] at hB0 bS bL0 hsz ⊢
  have hwA := hb.size
  have hO3 : W0.ownsRow w.heap.size 9 1 (.slice none 0 0) 0 [] := ⟨rfl, .inl ⟨rfl, rfl⟩⟩
  clear hW0 hb5 hb bL
  obtain ⟨A, hA⟩ : ∃ A, w2.heap.size = A := ⟨_, rfl⟩
  rw [hA] at bS hsz hwA hbl ⊢
  clear hA
  refine wpIn_rangeFunc_ownH rfl (by decide) (gf := 81) (lb := #[.pointer (some ⟨B, 0, none⟩)]) rfl trivial (enters_of Tryz.func81 (by kernel_rfl) rfl)
    (values_stops (7 - 1) (by decide) B a n cap f w hp (by omega) W0 hB0 bL0) (fun h k => KpB.trans h k) (KpB.put (by omega) (by omega) (by omega)) (Below.refl _ _) (fun _ => rfl)
    (fun pre W => (∃ v, Boxed W A 74 v ∧ W.ownsRow w.heap.size 9 1 v pre.length (pre.map Value.string)) ∧ KpB w.heap.size B B W0 W)
    (fun c pre W => False)
    (OwnFrom.and (fun s X Y row hs hg hr => by obtain ⟨v, h1, h3⟩ := hs; exact ⟨v, Boxed.ownK h1 hg (fun r e => (hr r e).2), own_ownK h3 hg (fun r e => (hr r e).2)⟩) (ownFrom_kpB (by omega) (by omega) (by omega) (Nat.le_refl _)))
    (fun c s X Y row hs hg hr => hs)
    ⟨⟨_, bS, hO3⟩, KpB.refl _ _ _ _⟩
    (fun x a' W => a' = { tmps := #[.slice none 0 0, .func (.func 81) #[] #[.pointer (some ⟨B, 0, none⟩)], .pointer (some ⟨A, 0, none⟩), undef, .slice none 0 0, .string x, .func (.func 81) #[] #[.pointer (some ⟨B, 0, none⟩)], .string x, undef, undef, undef, undef, undef], defers := [] })
    (fun x a' _ X Y row hs hg hr => hs)
    ?assign ?body ?done ?stop
  case assign =>
    rintro l pre x W K ⟨⟨v, bV1, hO⟩, hk⟩ hK
    gi_wp2
    exact hK _ _ (KeepsFrom.ofBelow (Below.refl _ _)) (KpB.refl _ _ _ _) ⟨⟨v, bV1, hO⟩, hk⟩ rfl
  case body =>
    rintro l pre x a' W hl ⟨r, hr⟩ ⟨⟨v, bV1, hO⟩, hk⟩ rfl hlt
    have hs1 := hk.below.size
    have cV := bV1.cell
    clear hr
    gi_wp2_with (gi_at_builtin; refine wpListIn_append_own _ rfl _ _ 74 rfl w.heap.size 9 i0 (.string ⟨#[]⟩) 1 16 Tryz.underlying74 hi hz0 hz1 hz2 rfl (by decide) v _ _ rfl (own_belowG hO ((Below.refl _ _).alloc (Nat.le_refl _) _)) ⟨W.heap.size, 0, none⟩ 1 1 [.string x] rfl rfl (cells_oneS W x) (by intro u hu; simp at hu; subst hu; rfl) (by unfold maxLen; omega) (by omega) (by simp; omega) ?_; intro v' w1 hown' hgrow hnil; obtain ⟨g', cap', rfl⟩ := ownsRow_succ hown'; obtain ⟨hv1, hv2, hr2, hk2, hb2⟩ := Boxed.appended bV1 (by decide) hO (by omega) (by omega) hown' hgrow; have hc1 := hv1.cell; have hf1 := hv1.frozen)
    have bL1 := Boxed.kpl bL0 hk
    have hsg := hgrow.size
    rw [World.size_alloc] at hsg
    have hkk : KpB w.heap.size B B W (w1.setCell ⟨A, 0, none⟩ (.slice (some ⟨g', 0, none⟩) (pre.length + 1) cap')) := by
      refine ((KpB.ofBelow ((Below.refl _ _).alloc (Nat.le_refl _) _) (by omega) (by omega) (by omega)).trans (KpB.ofGrown hgrow (by rw [World.size_alloc]; omega) (by rw [World.size_alloc]; omega) (by rw [World.size_alloc]; omega) (fun k e => ⟨own_ge hO k e, fun h => ?_, fun h => ?_⟩))).trans (KpB.ofGrown (grownBy_setCell' w1 A _) (by omega) (by omega) (by omega) (fun k e => by cases e; omega))
      · subst h; exact bL1.not_row (by decide) hO e.symm
      · subst h; exact bL1.not_row (by decide) hO e.symm
    refine ⟨hk2.from _, hkk, ⟨_, hv2, ?_⟩, hk.trans hkk⟩
    rw [List.map_append, List.length_append]
    exact hr2
  case done =>
    rintro D ys W hD rfl ⟨⟨v, bV1, hO⟩, hk⟩ hK
    have hk0 := hB0.trans hk.below
    rw [← rowG_strU, strU_len] at hO
    have cV := bV1.cell
    obtain ⟨ga, cg, rfl⟩ : ∃ ga cg, v = .slice ga n cg := by
      rcases hO.2 with ⟨e, h0⟩ | ⟨g, cg, _, e, _⟩
      · subst h0; exact ⟨_, _, e⟩
      · exact ⟨_, _, e⟩
    gi_wp2
    refine ⟨by simp, .inl ⟨_, _, rfl, run_takeDeferred hK, ?_⟩⟩
    exact ⟨_, results_tmp rfl _ _ _, _, rfl, own_ownK hO (grownBy_putObj' _ D _) (fun r e => by cases e; exact ⟨_, hK, rfl⟩), Below.put' hk0 (by omega) hK⟩
  case stop =>
    rintro D c pre W hD hpre h hK
    exact h.elim
end Go.Proofs.YtfjlmkphncigladGreatDoor

/-
  Names that are sorted and compacted are fewer just if one stands twice.
-/
namespace Go.Proofs.YtfjlmkphncigladGreatDoor
open Go.RowKit
set_option maxRecDepth 4000

theorem le_sorted (zs : List (List UInt8)) : (zs.mergeSort fun x y => decide (x ≤ y)).Pairwise (fun a b => a ≤ b) := by
  have h := List.pairwise_mergeSort (le := fun x y : List UInt8 => decide (x ≤ y))
    (fun a b c h k => decide_eq_true (List.le_trans (of_decide_eq_true h) (of_decide_eq_true k)))
    (fun a b => by rcases List.le_total a b with h | h <;> simp [h]) zs
  exact h.imp (fun h => of_decide_eq_true h)

/-- Of a sorted list one is dropped just if one stands twice. -/
theorem compact_short (ss : List (List UInt8)) (hs : ss.Pairwise (fun a b => a ≤ b)) : (Lib.compact ss).length < ss.length ↔ ¬ ss.Nodup := by
  have hl : (Lib.compact ss).length < ss.length ↔ ∃ j, j < ss.length ∧ Lib.keeps ss.toArray j = false := by
    unfold Lib.compact Lib.compactUpTo
    rw [List.length_map]
    have h := List.length_filter_lt_length_iff_exists (p := Lib.keeps ss.toArray) (l := List.range ss.length)
    rw [List.length_range] at h
    rw [h]
    simp
  rw [hl]
  have hp := List.pairwise_iff_getElem.1 hs
  constructor
  · rintro ⟨j, hj, hk⟩ hn
    have h0 : ¬ (j = 0 ∨ ss.toArray[j]! ≠ ss.toArray[j - 1]!) := by simpa [Lib.keeps] using hk
    have hj0 : 0 < j := by omega
    have he : ss.toArray[j]! = ss.toArray[j - 1]! := Classical.byContradiction fun h => h0 (.inr h)
    have e1 : ss.toArray[j]! = ss[j] := by simp [hj]
    have e2 : ss.toArray[j - 1]! = ss[j - 1] := by simp [show j - 1 < ss.length by omega]
    rw [e1, e2] at he
    have := (List.pairwise_iff_getElem.1 hn) (j - 1) j (by omega) hj (by omega)
    exact this he.symm
  · intro hn
    apply Classical.byContradiction
    intro hno
    apply hn
    have hadj : ∀ j (h1 : j < ss.length) (h0 : 0 < j), ss[j]'h1 ≠ ss[j - 1]'(by omega) := by
      intro j h1 h0 he
      refine hno ⟨j, h1, ?_⟩
      have e1 : ss.toArray[j]! = ss[j] := by simp [h1]
      have e2 : ss.toArray[j - 1]! = ss[j - 1] := by simp [show j - 1 < ss.length by omega]
      exact Lib.keeps_neg h0 (by rw [e1, e2, he])
    refine List.pairwise_iff_getElem.2 fun i j hi hj hij he => ?_
    have h1 : ss[i] ≤ ss[j - 1] := by
      by_cases e : i = j - 1
      · subst e; exact List.le_refl _
      · exact hp i (j - 1) hi (by omega) (by omega)
    have h2 : ss[j - 1] ≤ ss[j] := hp (j - 1) j (by omega) hj (by omega)
    rw [← he] at h2
    have h3 := List.le_antisymm h2 h1
    refine hadj j hj (by omega) ?_
    rw [← he, h3]

theorem twice_short (zs : List (List UInt8)) : (Lib.compact (zs.mergeSort fun x y => decide (x ≤ y))).length < zs.length ↔ ¬ zs.Nodup := by
  have h := compact_short _ (le_sorted zs)
  have hp := List.mergeSort_perm zs (fun x y => decide (x ≤ y))
  rw [hp.length_eq] at h
  rw [h, hp.nodup_iff]
end Go.Proofs.YtfjlmkphncigladGreatDoor

/-
  The program's hasTwice: whether a text stands twice in a row.
-/
namespace Go.Proofs.YtfjlmkphncigladGreatDoor
open Go.RowKit Go.Sort

/-- The texts as lists of bytes. -/
def ssOf (f : Nat → ByteArray) (n : Nat) : List (List UInt8) := (strU f n).map (fun s => s.data.toList)
theorem ssOf_len (f : Nat → ByteArray) (n : Nat) : (ssOf f n).length = n := by simp [ssOf, strU_len]
theorem ssOf_get (f : Nat → ByteArray) (n j : Nat) (h : j < n) : (ssOf f n).toArray[j]! = (f j).data.toList := by
  have : (ssOf f n)[j]? = some (f j).data.toList := by simp [ssOf, strU, h]
  simp [this]
theorem str_of (s : ByteArray) : Value.string ⟨s.data.toList.toArray⟩ = .string s := by simp
/-- A row of the call's own holds its texts. -/
theorem holds_own {W : World} {base g n c : Nat} {f : Nat → ByteArray} (h : W.ownsRow base 9 1 (.slice (some ⟨g, 0, none⟩) n c) n (rowG (encS f) n)) : Holds encStr W g 0 (ssOf f n).toArray ∧ g < W.heap.size ∧ base ≤ g ∧ n ≤ c := by
  rcases h.2 with ⟨e, _⟩ | ⟨g', c', cur, e, hb, hg, hn, hm, hs, ht⟩
  · cases e
  cases e
  refine ⟨fun j hj => ?_, (Array.getElem?_eq_some_iff.1 hg).1, hb, hn⟩
  have hj' : j < n := by simpa [ssOf_len] using hj
  rw [ssOf_get f n j hj', Nat.zero_add]
  refine ⟨?_, by simp [World.frozen?, hg]⟩
  have h1 := rowG_get (enc := encS f) (c := 1) (fun _ => rfl) n j 0 hj' (by decide)
  rw [Nat.mul_one, Nat.add_zero, ← ht, List.getElem?_take, if_pos (by omega)] at h1
  simp only [World.cell?, hg]
  show cur[j]? = some (encStr (f j).data.toList)
  rw [show encStr (f j).data.toList = .string (f j) from str_of _]
  simpa [encS] using h1
theorem below_put {α : Type} [Inhabited α] {enc : α → Value} {w : World} {blk off n B : Nat} {d : Array α} {os : Array Obj} (h1 : B ≤ blk) (h2 : B ≤ w.heap.size) : Below B w (grow (putRow enc (Sort.ahead w n) blk off d) os) := by
  refine ⟨rfl, rfl, rfl, by simp, fun k hk => ?_⟩
  rw [heap_grow_old _ _ (by simp; omega)]
  simp only [putRow, mapBlock, Sort.ahead]
  rw [Array.getElem?_modify, if_neg (by omega)]

set_option maxHeartbeats 1000000 in
/-- slices.Sorted of the values of a row of texts: a row of the call's own, in order. -/
theorem sortedStr_any (a : Option Addr) (n cap : Nat) (f : Nat → ByteArray) (w : World) (hp : SView w a n cap f) (hn : n ≤ 4194304) (h0 : 0 < n)
    (w2 : World) (B : Nat) (hb : Below w.heap.size w w2) (bL : Boxed w2 B 74 (.slice a n cap)) :
    Calls Tryz.prog 70 #[.func (.func 81) #[] #[.pointer (some ⟨B, 0, none⟩)]] w2 fun e w' => ∃ g c, e = .returned (.slice (some ⟨g, 0, none⟩) n c) ∧ Holds encStr w' g 0 ((ssOf f n).mergeSort fun x y => decide (x ≤ y)).toArray ∧ w.heap.size ≤ g ∧ g < w'.heap.size ∧ n ≤ c ∧ Below w.heap.size w w' := by
  have hC := callsIn_wide.1 (appendStr_in a n cap f w hp hn w2 B hb bL)
  clear bL hp
  obtain ⟨k, rfl⟩ : ∃ k, n = k + 1 := ⟨n - 1, by omega⟩
  obtain ⟨M, hM⟩ : ∃ M, Hid (((ssOf f (k + 1)).mergeSort fun x y => decide (x ≤ y)).toArray = M) := ⟨_, rfl⟩
  rw [hM.out]
  go_enter Tryz.func70, Tryz.ntmps70
  go_wp2_with (first | (go_at_call 91; refine hC.mono ?_; rintro e w3 ⟨v, rfl, hO, hB⟩) | (go_at_call 79; go_in))
  obtain ⟨g, c, rfl⟩ := ownsRow_succ hO
  obtain ⟨hH, hg, hbg, hkc⟩ := holds_own hO
  have hS := Tryz.slices_Sort_string g 0 c (ssOf f (k + 1)) w3 hH hg (by rw [ssOf_len]; omega)
  rw [ssOf_len] at hS
  have hml : ((ssOf f (k + 1)).mergeSort fun x y => decide (x ≤ y)).length = k + 1 := by rw [(List.mergeSort_perm _ _).length_eq, ssOf_len]
  have HP : Hid (∀ m os, Holds encStr (grow (putRow encStr (Sort.ahead w3 m) g 0 ((ssOf f (k + 1)).mergeSort fun x y => decide (x ≤ y)).toArray) os) g 0 ((ssOf f (k + 1)).mergeSort fun x y => decide (x ≤ y)).toArray ∧ g < (grow (putRow encStr (Sort.ahead w3 m) g 0 ((ssOf f (k + 1)).mergeSort fun x y => decide (x ≤ y)).toArray) os).heap.size ∧ RowKit.Below w.heap.size w (grow (putRow encStr (Sort.ahead w3 m) g 0 ((ssOf f (k + 1)).mergeSort fun x y => decide (x ≤ y)).toArray) os)) := by
    intro m os
    refine ⟨holds_grow _ _ _ _ _ _ (by simpa using hg) (holds_putRow encStr (Sort.ahead w3 m) g 0 (ssOf f (k + 1)).toArray _ hH (by simp [hml, ssOf_len])), by simp; omega, hB.trans (below_put hbg hB.size)⟩
  have HX : Hid (w.heap.size ≤ g ∧ k + 1 ≤ c) := ⟨hbg, hkc⟩
  rw [hM.out] at HP hS
  clear hC hO hH hg hbg hkc hB hb hml
  refine hS.mono ?_
  rintro e w4 ⟨rfl, m, os, rfl⟩
  have HR := HP.out m os
  obtain ⟨W4, hW4⟩ : ∃ W4, Hid (grow (putRow encStr (Sort.ahead w3 m) g 0 M) os = W4) := ⟨_, rfl⟩
  rw [hW4.out] at HR ⊢
  have HR' : Hid (Holds encStr W4 g 0 M ∧ g < W4.heap.size ∧ RowKit.Below w.heap.size w W4) := HR
  clear HR HP hS
  go_wp2
  go_ret
  exact ⟨_, _, rfl, HR'.out.1, HX.out.1, HR'.out.2.1, HX.out.2, HR'.out.2.2⟩

set_option maxHeartbeats 1000000 in
theorem hasTwice_any (a : Option Addr) (n cap : Nat) (f : Nat → ByteArray) (w : World) (hp : SView w a n cap f) (hn : n ≤ 4194304) :
    Calls Tryz.prog 51 #[.slice a n cap] w fun e w' => e = .returned (.bool (decide (¬ (ssOf f n).Nodup))) ∧ RowKit.Below w.heap.size w w' := by
  have hV := callsIn_wide.1 (values_in 7 a n cap w)
  have hb1 : RowKit.Below w.heap.size w (w.alloc (.cells #[.slice a n cap] 74)) := (RowKit.Below.refl _ _).alloc (Nat.le_refl _) _
  have bL := Boxed.new w 74 (.slice a n cap)
  have HT := twice_short (ssOf f n)
  obtain ⟨z, hz⟩ : ∃ z, Hid (decide (¬ (ssOf f n).Nodup) = z) := ⟨_, rfl⟩
  rw [hz.out]
  by_cases h0 : 0 < n
  · have hS := sortedStr_any a n cap f w hp hn h0 _ w.heap.size hb1 bL
    have hml : ((ssOf f n).mergeSort fun x y => decide (x ≤ y)).length = n := by rw [(List.mergeSort_perm _ _).length_eq, ssOf_len]
    rw [ssOf_len] at HT
    obtain ⟨M, hM⟩ : ∃ M, Hid (((ssOf f n).mergeSort fun x y => decide (x ≤ y)) = M) := ⟨_, rfl⟩
    rw [hM.out] at hS HT hml
    have HZ : Hid (z = decide ((Lib.compact M).length < n)) := by
      show _ = _
      rw [← hz.out]
      exact decide_eq_decide.2 HT.symm
    have hcl : (Lib.compact M).length ≤ n := by
      have := List.length_filter_le (Lib.keeps M.toArray) (List.range M.length)
      rw [List.length_range] at this
      unfold Lib.compact Lib.compactUpTo
      rw [List.length_map]; omega
    clear hz hM HT bL hb1
    go_enter Tryz.func51, Tryz.ntmps51
    go_wp2_with (first | (go_at_call 71; refine hV.mono ?_; rintro e w2 ⟨rfl, rfl⟩) | (go_at_call 70; refine hS.mono ?_; rintro e w3 ⟨g, c, rfl, hH, hbg, hg, hkc, hB⟩))
    have hC := Tryz.slices_Compact_string g 0 c M w3 hH (by omega) (by omega)
    rw [hml] at hC
    have HB : Hid (∀ q d, RowKit.Below w.heap.size w (putRow encStr (Sort.ahead w3 q) g 0 d)) := fun q d => by
      have := below_put (enc := encStr) (w := w3) (blk := g) (off := 0) (n := q) (d := d) (os := #[]) hbg hB.size
      rw [grow_empty] at this
      exact hB.trans this
    generalize (Lib.compact M).length = L at *
    clear hS hV hH hbg hg hkc hB hml
    refine hC.mono ?_
    rintro e w4 ⟨rfl, q, rfl⟩
    have HB' : Hid (RowKit.Below w.heap.size w (putRow encStr (Sort.ahead w3 q) g 0 (Lib.compact M ++ List.replicate (n - L) ([] : List UInt8)).toArray)) := HB.out _ _
    obtain ⟨W4, hW4⟩ : ∃ W4, Hid (putRow encStr (Sort.ahead w3 q) g 0 (Lib.compact M ++ List.replicate (n - L) ([] : List UInt8)).toArray = W4) := ⟨_, rfl⟩
    rw [hW4.out] at HB' ⊢
    clear hC HB
    go_wp2
    go_ret
    exact ⟨by rw [HZ.out]; rfl, HB'.out⟩
  · obtain rfl : n = 0 := by omega
    have hC := callsIn_wide.1 (appendStr_in a 0 cap f w hp (by omega) _ w.heap.size hb1 bL)
    have HZ : Hid (z = false) := by
      show _ = _
      rw [← hz.out]
      exact decide_eq_false (by simp [ssOf, strU])
    have hN := fun p c W => Tryz.slices_Sort_string_none p c W
    have hE := fun p c W => Tryz.slices_Compact_string_empty p c W
    clear HT hz bL hb1 hp
    go_enter Tryz.func51, Tryz.ntmps51
    go_wp2_with (first | (go_at_call 71; refine hV.mono ?_; rintro e w2 ⟨rfl, rfl⟩) | (go_at_call 70; go_in) | (go_at_call 91; refine hC.mono ?_; rintro e w3 ⟨v, rfl, hO, hB⟩; obtain ⟨va, vc, rfl, -, -⟩ := sview_of_own hO) | (go_at_call 79; go_in) | (go_at_call 80; refine (hN _ _ _).mono ?_; rintro e w4 ⟨rfl, rfl⟩) | (go_at_call 72; refine (hE _ _ _).mono ?_; rintro e w5 ⟨rfl, rfl⟩))
    go_ret
    exact ⟨by rw [HZ.out]; rfl, hB⟩
end Go.Proofs.YtfjlmkphncigladGreatDoor

/-
  The program's partsOk, allPartsOk, mayLackKey.
-/
namespace Go.Proofs.YtfjlmkphncigladGreatDoor
open Go.RowKit
set_option maxRecDepth 4000

def encN (f : Nat → Int) (i : Nat) : List Value := [.int .i64 (f i)]
theorem infoInt9 : ∃ i, Tryz.prog.info? 3 = some i ∧ i.zero = some (.int .i64 0) ∧ i.size = 1 ∧ i.bytes = 8 := by
  have h : (Tryz.prog.info? 3).map (fun i => (i.zero, i.size, i.bytes)) = some (some (.int .i64 0), 1, 8) := by kernel_rfl
  obtain ⟨i, hi, hz⟩ := Option.map_eq_some_iff.1 h
  simp only [Prod.mk.injEq] at hz
  exact ⟨i, hi, hz.1, hz.2.1, hz.2.2⟩
theorem containsInt9 (g k c : Nat) (f : Nat → Int) (x : Int) (W : World) (base : Nat) (hO : W.ownsRow base 3 1 (.slice (some ⟨g, 0, none⟩) k c) k (rowG (encN f) k)) (hk : k ≤ 1048576) :
    Calls Tryz.prog 82 #[.slice (some ⟨g, 0, none⟩) k c, .int .i64 x] W fun e w' => e = .returned (.bool (decide (∃ i, i < k ∧ f i = x))) ∧ w' = W := by
  obtain ⟨a, c', e, hkc, h1⟩ := own_cells (c := 1) (fun _ => rfl) hO
  cases e
  rcases Nat.eq_zero_or_pos k with rfl | h0
  · refine (Tryz.slices_Contains_int_empty (some ⟨g, 0, none⟩) c x W).mono ?_
    rintro e w' ⟨rfl, rfl⟩
    refine ⟨?_, rfl⟩
    rw [decide_eq_false (by rintro ⟨i, hi, _⟩; omega)]
  · obtain ⟨g', ea, -, -, hg, hc⟩ := h1 h0
    cases ea
    have hC := Tryz.slices_Contains_int g 0 k c ((List.range k).map f) x W (by simp) (by omega) (fun j hj => by
      have hj' : j < k := by simpa using hj
      have := hc j 0 _ hj' rfl
      have e : ((List.range k).map f).getD j 0 = f j := by simp [List.getD, hj']
      rw [e]
      simpa using this)
    refine hC.mono ?_
    rintro e w' ⟨rfl, rfl⟩
    refine ⟨?_, rfl⟩
    congr 2
    rw [List.take_of_length_le (by simp), Bool.eq_iff_iff, List.contains_iff_mem, decide_eq_true_iff]
    simp

set_option maxHeartbeats 4000000 in
theorem partsOk_any (ac : Option Addr) (nc cc : Nat) (a : Option Addr) (n cap : Nat) (f : Nat → PBy) (w : World) (h : BView w a n cap f) (hn : n ≤ 1048576) :
    Calls Tryz.prog 73 #[.slice ac nc cc, .slice a n cap] w fun e w' => e = .returned (.bool (partsF nc n f)) ∧ Below w.heap.size w w' := by
  obtain ⟨i0, hi, hz0, hz1, hz2⟩ := infoInt9
  have HPF : Hid (partsF nc n f = true ↔ ((∀ i, i < n → 0 ≤ (f i).col ∧ (f i).col < nc ∧ (0 < i → (f 0).col ≠ (f i).col)) ∧ 1 ≤ n ∧ n ≤ 2)) := by show _ ↔ _; unfold partsF; exact decide_eq_true_iff
  have HNO : Hid (¬ (partsF nc n f = true) → partsF nc n f = false) := fun h => by cases e : partsF nc n f with | true => exact absurd e h | false => rfl
  obtain ⟨z, hz⟩ : ∃ z, Hid (partsF nc n f = z) := ⟨_, rfl⟩
  rw [hz.out] at HPF HNO ⊢
  clear hz
  by_cases hr : 1 ≤ n ∧ n ≤ 2
  · have e1 : ((n : Int) == 0) = false := by simp; omega
    have e2 : ¬ ((n : Int) > 2) := by omega
    have hbE : Below w.heap.size w (w.alloc (.cells #[] 3)) := (Below.refl _ _).alloc (Nat.le_refl _) _
    have hO0 : (w.alloc (.cells #[] 3)).ownsRow w.heap.size 3 1 (.slice (some ⟨w.heap.size, 0, none⟩) 0 0) 0 (rowG (encN (fun i => (f i).col)) 0) := by
      have := World.ownsRow_lit (base := w.heap.size) (e := 3) (size := 1) w #[] 0 (Nat.le_refl _) (Nat.zero_le _) rfl
      simpa [rowG] using this
    go_enter Tryz.func73, Tryz.ntmps73
    go_wp2
    go_loopg [19, 5] n (fun q i s wr => ∃ k : Nat, k ≤ n ∧ q = n - k ∧ i = .int .i64 k ∧ (∃ g c, s = .slice (some ⟨g, 0, none⟩) k c) ∧ wr.ownsRow w.heap.size 3 1 s k (rowG (encN (fun i => (f i).col)) k) ∧ Below w.heap.size w wr ∧ Hid (∀ i, i < k → 0 ≤ (f i).col ∧ (f i).col < nc ∧ (0 < i → (f 0).col ≠ (f i).col)))
    case atStart => exact ⟨0, Nat.zero_le _, rfl, rfl, ⟨_, _, rfl⟩, hO0, hbE, fun j hj => absurd hj (Nat.not_lt_zero _)⟩
    case round =>
      clear hO0 hbE e1 e2
      obtain ⟨k, hk, rfl, rfl, ⟨sa, sc, rfl⟩, hO, hB, HA⟩ := hrel
      by_cases hlt : k < n
      · have hkz : (k : Int) < (n : Int) := by omega
        obtain ⟨b1, o1, rfl, hb1, hcs⟩ := (h.below hB).cells (by omega)
        obtain ⟨x0, x1⟩ := hcs k hlt
        have hsz := hB.size
        have HN : Hid (rowG (encN (fun i => (f i).col)) (k + 1) = rowG (encN (fun i => (f i).col)) k ++ [.int .i64 (f k).col]) := rfl
        have HB : Hid (Below w.heap.size w wr) := hB
        have HNX : Hid ((0 ≤ (f k).col ∧ (f k).col < nc ∧ (0 < k → (f 0).col ≠ (f k).col)) → ∀ i, i < k + 1 → 0 ≤ (f i).col ∧ (f i).col < nc ∧ (0 < i → (f 0).col ≠ (f i).col)) := by
          intro h i hi
          by_cases e : i < k
          · exact HA.out i e
          · obtain rfl : i = k := by omega
            exact h
        have HBAD : Hid (¬ (0 ≤ (f k).col ∧ (f k).col < nc ∧ (0 < k → (f 0).col ≠ (f k).col)) → z = false) := fun h => HNO.out (fun hz => h ((HPF.out.1 hz).1 k hlt))
        have HCT : Hid ((∃ i, i < k ∧ (f i).col = (f k).col) ↔ (0 < k ∧ (f 0).col = (f k).col)) := by
          constructor
          · rintro ⟨i, hi, e⟩
            obtain rfl : i = 0 := by omega
            exact ⟨hi, e⟩
          · rintro ⟨h0, e⟩; exact ⟨0, h0, e⟩
        obtain ⟨R, hR⟩ : ∃ x, Hid (rowG (encN (fun i => (f i).col)) k = x) := ⟨_, rfl⟩
        have hb2 : ∀ t0 t1, Below wr.heap.size wr (wr.alloc (.cells #[t0, t1] 51)) := fun t0 t1 => (Below.refl _ _).alloc (Nat.le_refl _) _
        have hC := fun t0 t1 x => containsInt9 sa k sc (fun i => (f i).col) x (wr.alloc (.cells #[t0, t1] 51)) w.heap.size (own_belowG hO (hb2 t0 t1)) (by omega)
        obtain ⟨s0, hs0⟩ : ∃ x, Hid ((f k).col = x) := ⟨_, rfl⟩
        obtain ⟨s1, hs1⟩ : ∃ x, Hid ((f k).desc = x) := ⟨_, rfl⟩
        rw [hs0.out] at x0 HN HNX HBAD HCT
        rw [hs1.out] at x1
        rw [hR.out] at HN hO
        have hC1 := hC (.int .i64 s0) (.bool s1) s0
        obtain ⟨o, ho⟩ : ∃ o, Hid (decide (∃ i, i < k ∧ (f i).col = s0) = o) := ⟨_, rfl⟩
        rw [ho.out] at hC1
        have HO : Hid (o = true ↔ (0 < k ∧ (f 0).col = s0)) := by show _ ↔ _; rw [← ho.out, decide_eq_true_iff]; exact HCT.out
        have HBA : Hid (Below w.heap.size w (wr.alloc (.cells #[.int .i64 s0, .bool s1] 51))) := HB.out.trans ((hb2 _ _).mono hsz)
        clear hcs h hB hC ho HCT HPF
        by_cases q1 : s0 < 0
        · have HF : Hid (z = false) := HBAD.out (fun h => by omega)
          clear HBAD HNX hC1 HNO HN hO HO hb2 HA
          go_wp2
          go_ret
          exact ⟨by rw [HF.out]; rfl, HBA.out⟩
        by_cases q2 : s0 ≥ (nc : Int)
        · have HF : Hid (z = false) := HBAD.out (fun h => by omega)
          clear HBAD HNX hC1 HNO HN hO HO hb2 HA
          go_wp2
          go_ret
          exact ⟨by rw [HF.out]; rfl, HBA.out⟩
        cases o with
        | true =>
          have HF : Hid (z = false) := HBAD.out (fun h => h.2.2 (HO.out.1 rfl).1 (HO.out.1 rfl).2)
          clear HBAD HNX HNO HN hO HO hb2 HA
          go_wp2_with fail
          refine hC1.mono ?_
          rintro e w2 ⟨rfl, rfl⟩
          clear hC1
          go_wp2
          go_ret
          exact ⟨by rw [HF.out]; rfl, HBA.out⟩
        | false =>
          have HN2 : Hid (∀ i, i < k + 1 → 0 ≤ (f i).col ∧ (f i).col < nc ∧ (0 < i → (f 0).col ≠ (f i).col)) := HNX.out ⟨by omega, by omega, fun h0 e => by have := HO.out.2 ⟨h0, e⟩; cases this⟩
          have hb3 : Below wr.heap.size wr ((wr.alloc (.cells #[.int .i64 s0, .bool s1] 51)).alloc (.cells #[.int .i64 s0] 3)) := (hb2 _ _).alloc (by simp) _
          have hO2 := own_belowG hO hb3
          have hcl : ∀ j u, [Value.int .i64 s0][j]? = some u → ((wr.alloc (.cells #[.int .i64 s0, .bool s1] 51)).alloc (.cells #[.int .i64 s0] 3)).cell? ((⟨wr.heap.size + 1, 0, none⟩ : Addr).add j) = some u := by
            intro j u hj
            match j, hj with
            | 0, hj => simp at hj; subst hj; simp [Addr.add]
          have HBB : Hid (Below wr.heap.size wr ((wr.alloc (.cells #[.int .i64 s0, .bool s1] 51)).alloc (.cells #[.int .i64 s0] 3))) := hb3
          have HOW := own_ge9 hO
          clear HBAD HNX HNO HO hb2 HA HBA hb3
          go_wp2_with fail
          refine hC1.mono ?_
          rintro e w2 ⟨rfl, rfl⟩
          clear hC1
          go_wp2_with (at_builtin; refine wpList_append_own _ rfl (.tmp 39) (.tmp 42) 103 rfl w.heap.size 3 i0 (.int .i64 0) 1 8 Tryz.underlying103 hi hz0 hz1 hz2 rfl (by decide) _ _ _ rfl hO2 ⟨wr.heap.size + 1, 0, none⟩ 1 1 [.int .i64 s0] rfl rfl hcl (by intro u hu; simp at hu; subst hu; rfl) (by unfold maxLen; omega) (by omega) (by simp; omega) ?_)
          intro v5 w2 hown5 hgr hnil
          obtain ⟨g', cap', rfl⟩ := own_succ9 hown5
          have HR : Hid (w2.ownsRow w.heap.size 3 1 (.slice (some ⟨g', 0, none⟩) (k + 1) cap') (k + 1) (rowG (encN (fun i => (f i).col)) (k + 1)) ∧ Below w.heap.size w w2) := by
            refine ⟨?_, ?_⟩
            · rw [HN.out]; exact hown5
            · exact (HB.out.trans (HBB.out.mono hsz)).grown hgr (by simp; omega) HOW
          clear hown5 hgr hnil hO hO2 hcl HOW
          go_wp2
          go_roundg (n - (k + 1))
          case measure => omega
          case rel => exact ⟨k + 1, by omega, rfl, by go_num, ⟨_, _, rfl⟩, HR.out.1, HR.out.2, HN2⟩
      · have hkz : ¬ (k : Int) < (n : Int) := by omega
        obtain rfl : k = n := by omega
        have HF : Hid (z = true) := HPF.out.2 ⟨HA.out, hr⟩
        clear h HA hO
        go_wp2
        go_ret
        exact ⟨by rw [HF.out]; rfl, hB⟩
  · have HF : Hid (z = false) := HNO.out (fun h => hr (HPF.out.1 h).2)
    clear HPF HNO h
    by_cases h0 : n = 0
    · subst h0
      go_enter Tryz.func73, Tryz.ntmps73
      go_wp2
      go_ret
      exact ⟨by rw [HF.out]; rfl, Below.refl _ _⟩
    · have e1 : ((n : Int) == 0) = false := by simp; omega
      have e2 : (n : Int) > 2 := by omega
      go_enter Tryz.func73, Tryz.ntmps73
      go_wp2
      go_ret
      exact ⟨by rw [HF.out]; rfl, Below.refl _ _⟩
end Go.Proofs.YtfjlmkphncigladGreatDoor

/-
  The program's allPartsOk, mayLackKey.
-/
namespace Go.Proofs.YtfjlmkphncigladGreatDoor
open Go.RowKit
set_option maxRecDepth 4000

set_option maxHeartbeats 2000000 in
theorem allPartsOk_any (v : Value) (D : PDef) (w : World) (h : DView w v D) (hf : DFine D) :
    Calls Tryz.prog 52 #[v] w fun e w' => e = .returned (.bool (allPartsF D)) ∧ Below w.heap.size w w' := by
  have hni := hf.ni
  have hnp := hf.np
  have HIX : Hid (∀ i, i < D.ni → (D.idx i).n ≤ 1048576) := fun i hi => (hf.idx i hi).2
  obtain ⟨ac, cc, ap, cp, ai, ci, rfl, hcv, hpv, hiv⟩ := h.is
  clear h hf hcv
  have HO : Hid (allPartsF D = true ↔ ((∀ i, i < D.ni → partsF D.nc (D.idx i).n (D.idx i).part = true) ∧ partsF D.nc D.np D.pri = true)) := by show _ ↔ _; unfold allPartsF; exact decide_eq_true_iff
  have HNO : Hid (¬ (allPartsF D = true) → allPartsF D = false) := fun h => by cases e : allPartsF D with | true => exact absurd e h | false => rfl
  obtain ⟨z, hz⟩ : ∃ z, Hid (allPartsF D = z) := ⟨_, rfl⟩
  rw [hz.out] at HO HNO ⊢
  clear hz
  have hB0 := box4_start w (.cells #[.string D.name, .slice ac D.nc cc, .slice ap D.np cp, .slice ai D.ni ci] 28)
  go_enter Tryz.func52, Tryz.ntmps52
  go_wp2
  go_loopg [8] D.ni (fun q i wr => ∃ k : Nat, k ≤ D.ni ∧ q = D.ni - k ∧ i = .int .i64 k ∧ Below (w.heap.size + 1) (w.alloc (.cells #[.string D.name, .slice ac D.nc cc, .slice ap D.np cp, .slice ai D.ni ci] 28)) wr ∧ Hid (∀ i, i < k → partsF D.nc (D.idx i).n (D.idx i).part = true))
  case atStart => exact ⟨0, Nat.zero_le _, rfl, rfl, hB0, fun j hj => absurd hj (Nat.not_lt_zero _)⟩
  case round =>
    clear hB0
    obtain ⟨k, hk, rfl, rfl, hB, HA⟩ := hrel
    obtain ⟨x0, x1, x2, x3⟩ := box4 hB
    obtain ⟨hBw, hsz⟩ := box4_below hB
    have hA2 : w.heap.size < wr.heap.size := by omega
    clear hsz
    by_cases hlt : k < D.ni
    · have hkz : (k : Int) < (D.ni : Int) := by omega
      obtain ⟨b1, o1, e1, hb1, hcs⟩ := (hiv.below hBw).cells (by omega)
      obtain ⟨y0, y1, a3, c3, y2, hv3⟩ := hcs k hlt
      have hP := fun W (hb : Below wr.heap.size wr W) => partsOk_any ac D.nc cc a3 (D.idx k).n c3 (D.idx k).part W (hv3.below hb) (HIX.out k hlt)
      have HNX : Hid (partsF D.nc (D.idx k).n (D.idx k).part = true → ∀ i, i < k + 1 → partsF D.nc (D.idx i).n (D.idx i).part = true) := by
        intro h i hi
        by_cases e : i < k
        · exact HA.out i e
        · obtain rfl : i = k := by omega
          exact h
      have HBAD : Hid (partsF D.nc (D.idx k).n (D.idx k).part = false → z = false) := fun h => HNO.out (fun hz => by have := (HO.out.1 hz).1 k hlt; rw [h] at this; cases this)
      obtain ⟨o, ho⟩ : ∃ o, Hid (partsF D.nc (D.idx k).n (D.idx k).part = o) := ⟨_, rfl⟩
      rw [ho.out] at HNX HBAD
      simp only [ho.out] at hP
      obtain ⟨s0, hs0⟩ : ∃ x, Hid ((D.idx k).name = x) := ⟨_, rfl⟩
      obtain ⟨s1, hs1⟩ : ∃ x, Hid ((D.idx k).uniq = x) := ⟨_, rfl⟩
      obtain ⟨s2, hs2⟩ : ∃ x, Hid ((D.idx k).n = x) := ⟨_, rfl⟩
      rw [hs0.out] at y0
      rw [hs1.out] at y1
      rw [hs2.out] at y2
      simp only [hs2.out] at hP
      have HB : Hid (Below (w.heap.size + 1) (w.alloc (.cells #[.string D.name, .slice ac D.nc cc, .slice ap D.np cp, .slice ai D.ni ci] 28)) wr) := hB
      have hbA : Below wr.heap.size wr (wr.alloc (.cells #[.string s0, .bool s1, .slice a3 s2 c3] 60)) := (Below.refl _ _).alloc (Nat.le_refl _) _
      have hS := hP _ hbA
      have HBA : Hid (Below wr.heap.size wr (wr.alloc (.cells #[.string s0, .bool s1, .slice a3 s2 c3] 60))) := hbA
      have HBw : Hid (Below w.heap.size w wr) := hBw
      have HSZ := hBw.size
      subst e1
      clear hcs hiv hpv hB hBw HA HO HNO hP hbA hv3
      go_wp2_with fail
      refine hS.mono ?_
      rintro e w2 ⟨rfl, hb2⟩
      have hb3 : Below wr.heap.size wr w2 := HBA.out.trans (hb2.mono HBA.out.size)
      cases o with
      | true =>
        have HN : Hid (∀ i, i < k + 1 → partsF D.nc (D.idx i).n (D.idx i).part = true) := HNX.out rfl
        have HR : Hid (Below (w.heap.size + 1) (w.alloc (.cells #[.string D.name, .slice ac D.nc cc, .slice ap D.np cp, .slice (some ⟨b1, o1, none⟩) D.ni ci] 28)) w2) := box4_on HB.out hb3
        clear hb2 hb3 hS HNX HBAD
        go_wp2
        go_roundg (D.ni - (k + 1))
        case measure => omega
        case rel => exact ⟨k + 1, by omega, rfl, by go_num, HR.out, HN⟩
      | false =>
        have HF : Hid (z = false) := HBAD.out rfl
        have HR : Hid (Below w.heap.size w w2) := HBw.out.trans (hb3.mono HSZ)
        clear hb2 hb3 hS HNX HBAD
        go_wp2
        go_ret
        exact ⟨by rw [HF.out]; rfl, HR.out⟩
    · have hkz : ¬ (k : Int) < (D.ni : Int) := by omega
      obtain rfl : k = D.ni := by omega
      have hS := partsOk_any ac D.nc cc ap D.np cp D.pri wr (hpv.below hBw) hnp
      have HF : Hid (z = partsF D.nc D.np D.pri) := by
        show _ = _
        cases e : partsF D.nc D.np D.pri with
        | true => exact HO.out.2 ⟨HA.out, e⟩
        | false => exact HNO.out (fun h => by have := (HO.out.1 h).2; rw [e] at this; cases this)
      obtain ⟨o, ho⟩ : ∃ o, Hid (partsF D.nc D.np D.pri = o) := ⟨_, rfl⟩
      rw [ho.out] at HF hS
      have HSZ := hBw.size
      have HBw : Hid (Below w.heap.size w wr) := hBw
      clear hiv hpv HA HO HNO hB hBw
      go_wp2_with fail
      refine hS.mono ?_
      rintro e w2 ⟨rfl, hb2⟩
      have HR : Hid (Below w.heap.size w w2) := HBw.out.trans (hb2.mono HSZ)
      clear hS hb2
      go_wp2
      go_ret
      exact ⟨by rw [HF.out]; rfl, HR.out⟩

set_option maxHeartbeats 2000000 in
theorem mayLackKey_any (v : Value) (D : PDef) (w : World) (h : DView w v D) (hf : DFine D) (hpf : partsF D.nc D.np D.pri = true) :
    Calls Tryz.prog 53 #[v] w fun e w' => e = .returned (.bool (nullF D)) ∧ Below w.heap.size w w' := by
  have hnp := hf.np
  have hnc := hf.nc
  have HPR : Hid (∀ i, i < D.np → 0 ≤ (D.pri i).col ∧ (D.pri i).col < D.nc) := fun i hi => partsF_in hpf hi
  obtain ⟨ac, cc, ap, cp, ai, ci, rfl, hcv, hpv, hiv⟩ := h.is
  clear h hf hiv hpf
  have HO : Hid (nullF D = true ↔ (∃ i, i < D.np ∧ (D.col (D.pri i).col.toNat).null = true)) := by show _ ↔ _; unfold nullF; exact decide_eq_true_iff
  have HNO : Hid (¬ (nullF D = true) → nullF D = false) := fun h => by cases e : nullF D with | true => exact absurd e h | false => rfl
  obtain ⟨z, hz⟩ : ∃ z, Hid (nullF D = z) := ⟨_, rfl⟩
  rw [hz.out] at HO HNO ⊢
  clear hz
  have hB0 := box4_start w (.cells #[.string D.name, .slice ac D.nc cc, .slice ap D.np cp, .slice ai D.ni ci] 28)
  go_enter Tryz.func53, Tryz.ntmps53
  go_wp2
  go_loopg [8] D.np (fun q i wr => ∃ k : Nat, k ≤ D.np ∧ q = D.np - k ∧ i = .int .i64 k ∧ Below (w.heap.size + 1) (w.alloc (.cells #[.string D.name, .slice ac D.nc cc, .slice ap D.np cp, .slice ai D.ni ci] 28)) wr ∧ Hid (∀ i, i < k → (D.col (D.pri i).col.toNat).null = false))
  case atStart => exact ⟨0, Nat.zero_le _, rfl, rfl, hB0, fun j hj => absurd hj (Nat.not_lt_zero _)⟩
  case round =>
    clear hB0
    obtain ⟨k, hk, rfl, rfl, hB, HA⟩ := hrel
    obtain ⟨x0, x1, x2, x3⟩ := box4 hB
    obtain ⟨hBw, hsz⟩ := box4_below hB
    have hA2 : w.heap.size < wr.heap.size := by omega
    clear hsz
    have HBw : Hid (Below w.heap.size w wr) := hBw
    by_cases hlt : k < D.np
    · have hkz : (k : Int) < (D.np : Int) := by omega
      obtain ⟨q0, q1⟩ := HPR.out k hlt
      obtain ⟨m, hm⟩ := Int.eq_ofNat_of_zero_le q0
      obtain ⟨b2, o2, e2, hb2, hcs⟩ := (hpv.below hBw).cells (by omega)
      obtain ⟨y0, y1⟩ := hcs k hlt
      rw [hm] at y0 q1
      obtain ⟨b1, o1, e1, hb1, hcc⟩ := (hcv.below hBw).cells (by omega)
      obtain ⟨-, -, y2⟩ := hcc m (by omega)
      have HNX : Hid ((D.col (D.pri k).col.toNat).null = (D.col m).null) := by show _ = _; rw [hm]; rfl
      have HB : Hid (Below (w.heap.size + 1) (w.alloc (.cells #[.string D.name, .slice ac D.nc cc, .slice ap D.np cp, .slice ai D.ni ci] 28)) wr) := hB
      obtain ⟨s1, hs1⟩ : ∃ x, Hid ((D.pri k).desc = x) := ⟨_, rfl⟩
      rw [hs1.out] at y1
      have HBA : Hid (Below wr.heap.size wr (wr.alloc (.cells #[.int .i64 (m : Int), .bool s1] 51))) := (Below.refl _ _).alloc (Nat.le_refl _) _
      have hmz : (m : Int) < (D.nc : Int) := q1
      have HSZ := hBw.size
      have y2' : (wr.alloc (.cells #[.int .i64 (m : Int), .bool s1] 51)).cell? ⟨b1, o1 + m * 3 + 2, none⟩ = some (.bool (D.col m).null) := by rw [World.cell?_alloc_lt _ _ _ hb1]; exact y2
      obtain ⟨o, ho⟩ : ∃ o, Hid ((D.col m).null = o) := ⟨_, rfl⟩
      rw [ho.out] at y2' HNX
      subst e1 e2
      clear hcs hcc hcv hpv hB hBw HPR hm q0 y2 q1
      cases o with
      | true =>
        have HF : Hid (z = true) := HO.out.2 ⟨k, hlt, HNX.out⟩
        clear HA HNX HO HNO
        go_wp2
        go_ret
        exact ⟨by rw [HF.out]; rfl, HBw.out.trans (HBA.out.mono HSZ)⟩
      | false =>
        have HN : Hid (∀ i, i < k + 1 → (D.col (D.pri i).col.toNat).null = false) := by
          intro i hi
          by_cases hj' : i < k
          · exact HA.out i hj'
          · obtain rfl : i = k := by omega
            exact HNX.out
        clear HA HNX HO HNO
        go_wp2
        go_roundg (D.np - (k + 1))
        case measure => omega
        case rel => exact ⟨k + 1, by omega, rfl, by go_num, box4_on HB.out HBA.out, HN⟩
    · have hkz : ¬ (k : Int) < (D.np : Int) := by omega
      obtain rfl : k = D.np := by omega
      have HF : Hid (z = false) := HNO.out (fun h => by obtain ⟨i, hi, e⟩ := HO.out.1 h; rw [HA.out i hi] at e; cases e)
      clear hcv hpv hB hBw HA HPR HO HNO
      go_wp2
      go_ret
      exact ⟨by rw [HF.out]; rfl, HBw.out⟩
end Go.Proofs.YtfjlmkphncigladGreatDoor

/-
  What the program asks of a table, plainly.
-/
namespace Go.Proofs.YtfjlmkphncigladGreatDoor
open Go.RowKit
set_option maxRecDepth 4000

/-- The names of a table: its own, its columns', its indexes'. -/
def namesOf (D : PDef) : Nat → ByteArray := catF (catF (fun _ => D.name) 1 (fun i => (D.col i).name)) (1 + D.nc) (fun i => (D.idx i).name)
theorem namesOf_0 (D : PDef) : namesOf D 0 = D.name := by
  unfold namesOf catF
  rw [if_pos (by omega), if_pos (by omega)]
theorem namesOf_c (D : PDef) {i : Nat} (h : i < D.nc) : namesOf D (1 + i) = (D.col i).name := by
  unfold namesOf catF
  rw [if_pos (by omega), if_neg (by omega)]
  rw [show 1 + i - 1 = i by omega]
theorem namesOf_i (D : PDef) (i : Nat) : namesOf D (1 + D.nc + i) = (D.idx i).name := by
  unfold namesOf catF
  rw [if_neg (by omega), show 1 + D.nc + i - (1 + D.nc) = i by omega]
theorem namesOf_size {D : PDef} (hf : DFine D) : ∀ i, i < 1 + D.nc + D.ni → (namesOf D i).size ≤ 281474976710656 := by
  intro i hi
  by_cases h0 : i = 0
  · subst h0; rw [namesOf_0]; have := hf.name; omega
  by_cases h1 : i < 1 + D.nc
  · obtain ⟨j, rfl⟩ : ∃ j, i = 1 + j := ⟨i - 1, by omega⟩
    rw [namesOf_c D (by omega)]; have := hf.col j (by omega); omega
  · obtain ⟨j, rfl⟩ : ∃ j, i = 1 + D.nc + j := ⟨i - (1 + D.nc), by omega⟩
    rw [namesOf_i]; have := (hf.idx j (by omega)).1; omega
theorem names_iff (D : PDef) : decide (∃ i, i < 1 + D.nc + D.ni ∧ wordOk (namesOf D i) = false) = !namesF D := by
  cases h : namesF D with
  | true =>
    unfold namesF at h
    obtain ⟨h1, h2, h3⟩ := of_decide_eq_true h
    refine decide_eq_false ?_
    rintro ⟨i, hi, hb⟩
    by_cases h0 : i = 0
    · subst h0; rw [namesOf_0, h3] at hb; cases hb
    by_cases h4 : i < 1 + D.nc
    · obtain ⟨j, rfl⟩ : ∃ j, i = 1 + j := ⟨i - 1, by omega⟩
      rw [namesOf_c D (by omega), h1 j (by omega)] at hb; cases hb
    · obtain ⟨j, rfl⟩ : ∃ j, i = 1 + D.nc + j := ⟨i - (1 + D.nc), by omega⟩
      rw [namesOf_i, h2 j (by omega)] at hb; cases hb
  | false =>
    refine decide_eq_true ?_
    apply Classical.byContradiction
    intro hno
    have hall : ∀ i, i < 1 + D.nc + D.ni → wordOk (namesOf D i) = true := fun i hi => by
      cases e : wordOk (namesOf D i) with
      | true => rfl
      | false => exact absurd ⟨i, hi, e⟩ hno
    have ht : namesF D = true := by
      unfold namesF
      refine decide_eq_true ⟨fun i hi => ?_, fun i hi => ?_, ?_⟩
      · have := hall (1 + i) (by omega); rwa [namesOf_c D hi] at this
      · have := hall (1 + D.nc + i) (by omega); rwa [namesOf_i] at this
      · have := hall 0 (by omega); rwa [namesOf_0] at this
    rw [h] at ht; cases ht
theorem types_iff (D : PDef) : (decide (D.nc = 0) || decide (6 < D.nc) || decide (∃ i, i < D.nc ∧ ((D.col i).type < 1 ∨ 4 < (D.col i).type))) = !typesF D := by
  cases h : typesF D with
  | true =>
    unfold typesF at h
    obtain ⟨h1, h2, h3⟩ := of_decide_eq_true h
    rw [decide_eq_false (by omega), decide_eq_false (by omega), decide_eq_false (by rintro ⟨i, hi, hb⟩; have := h1 i hi; omega)]
    rfl
  | false =>
    by_cases c1 : D.nc = 0
    · rw [decide_eq_true c1]; rfl
    by_cases c2 : 6 < D.nc
    · rw [decide_eq_true c2, Bool.or_true, Bool.true_or]; rfl
    have c3 : ∃ i, i < D.nc ∧ ((D.col i).type < 1 ∨ 4 < (D.col i).type) := by
      apply Classical.byContradiction
      intro hno
      have ht : typesF D = true := by
        unfold typesF
        refine decide_eq_true ⟨fun i hi => ?_, by omega, by omega⟩
        apply Classical.byContradiction
        intro hb
        exact hno ⟨i, hi, by omega⟩
      rw [h] at ht; cases ht
    rw [decide_eq_true c3, Bool.or_true]; rfl
theorem nodup_iff (f : Nat → ByteArray) (n : Nat) : (ssOf f n).Nodup ↔ ∀ i, i < n → ∀ j, j < i → f j ≠ f i := by
  unfold List.Nodup
  rw [List.pairwise_iff_getElem]
  have hl := ssOf_len f n
  have hg : ∀ i (h : i < (ssOf f n).length), (ssOf f n)[i] = (f i).data.toList := fun i h => by simp [ssOf, strU]
  have hinj : ∀ a b : ByteArray, a.data.toList = b.data.toList → a = b := fun a b h => by
    obtain ⟨⟨x⟩⟩ := a
    obtain ⟨⟨y⟩⟩ := b
    simp only at h
    rw [h]
  constructor
  · intro h i hi j hj e
    have := h j i (by omega) (by omega) hj
    rw [hg, hg] at this
    exact this (by rw [e])
  · intro h i j hi hj hij
    rw [hg, hg]
    intro e
    exact h j (by omega) i hij (hinj _ _ e)
theorem once_iff (D : PDef) : (decide (¬ (ssOf (fun i => (D.col i).name) D.nc).Nodup) || decide (¬ (ssOf (fun i => (D.idx i).name) D.ni).Nodup)) = !onceF D := by
  have h1 := nodup_iff (fun i => (D.col i).name) D.nc
  have h2 := nodup_iff (fun i => (D.idx i).name) D.ni
  cases h : onceF D with
  | true =>
    unfold onceF at h
    obtain ⟨a, b⟩ := of_decide_eq_true h
    rw [decide_eq_false (fun hn => hn (h1.2 a)), decide_eq_false (fun hn => hn (h2.2 b))]
    rfl
  | false =>
    by_cases c1 : (ssOf (fun i => (D.col i).name) D.nc).Nodup
    · by_cases c2 : (ssOf (fun i => (D.idx i).name) D.ni).Nodup
      · have ht : onceF D = true := decide_eq_true ⟨h1.1 c1, h2.1 c2⟩
        rw [h] at ht; cases ht
      · rw [decide_eq_true c2, Bool.or_true]; rfl
    · rw [decide_eq_true c1]; rfl
end Go.Proofs.YtfjlmkphncigladGreatDoor

/-
  The program's wrongDef: what is wrong with a table, the first that holds.
-/
namespace Go.Proofs.YtfjlmkphncigladGreatDoor
open Go.RowKit
set_option maxRecDepth 4000

/-- A table in a variable. -/
structure D4 (B : Nat) (x0 x1 x2 x3 : Value) (W : World) : Prop where
  lt : B < W.heap.size
  c0 : W.cell? ⟨B, 0, none⟩ = some x0
  c1 : W.cell? ⟨B, 1, none⟩ = some x1
  c2 : W.cell? ⟨B, 2, none⟩ = some x2
  c3 : W.cell? ⟨B, 3, none⟩ = some x3
theorem D4.below {B : Nat} {x0 x1 x2 x3 : Value} {W W' : World} (h : D4 B x0 x1 x2 x3 W) (hb : Below W.heap.size W W') : D4 B x0 x1 x2 x3 W' :=
  ⟨Nat.lt_of_lt_of_le h.lt hb.size, by rw [hb.cell (p := ⟨B, 0, none⟩) h.lt]; exact h.c0, by rw [hb.cell (p := ⟨B, 1, none⟩) h.lt]; exact h.c1, by rw [hb.cell (p := ⟨B, 2, none⟩) h.lt]; exact h.c2, by rw [hb.cell (p := ⟨B, 3, none⟩) h.lt]; exact h.c3⟩
theorem D4.new (w : World) (T : TypeId) (x0 x1 x2 x3 : Value) : D4 w.heap.size x0 x1 x2 x3 (w.alloc (.cells #[x0, x1, x2, x3] T)) := ⟨by simp, by simp, by simp [go_sem], by simp [go_sem], by simp [go_sem]⟩

/-- What the program tells of a table: nothing, or an error with its code. -/
def WrongTo (D : PDef) (r : Value) : Prop := (checkF D = 0 ∧ r = .nilIface) ∨ (checkF D ≠ 0 ∧ ∃ s, r = .iface 39 (.agg #[.int .i64 (checkF D), .string s]))

theorem WrongTo.bad {D : PDef} {n : Int} (h : checkF D = n) (h0 : n ≠ 0) (s : ByteArray) : WrongTo D (.iface 39 (.agg #[.int .i64 n, .string s])) :=
  .inr ⟨by rw [h]; exact h0, s, by rw [h]⟩
theorem sview_one {W : World} {s : ByteArray} : SView (W.alloc (.cells #[.string s] 9)) (some ⟨W.heap.size, 0, none⟩) 1 1 (fun _ => s) := by
  refine ⟨Nat.le_refl _, fun _ => ⟨_, 0, rfl, by simp, fun i hi => ?_⟩⟩
  obtain rfl : i = 0 := by omega
  simp

set_option maxRecDepth 20000 in
set_option maxHeartbeats 8000000 in
theorem wrongDef_any (v : Value) (D : PDef) (w : World) (h : DView w v D) (hf : DFine D) :
    Calls Tryz.prog 16 #[v] w fun e w' => ∃ r, e = .returned r ∧ WrongTo D r ∧ Below w.heap.size w w' := by
  have hnc := hf.nc
  have hni := hf.ni
  have hv := h
  obtain ⟨ac, cc, ap, cp, ai, ci, rfl, -, -, -⟩ := h.is
  clear h
  have HV : Hid (DView w (.agg #[.string D.name, .slice ac D.nc cc, .slice ap D.np cp, .slice ai D.ni ci]) D) := hv
  have HF : Hid (DFine D) := hf
  have HCN : Hid (∀ W, Below w.heap.size w W → Calls Tryz.prog 45 #[.agg #[.string D.name, .slice ac D.nc cc, .slice ap D.np cp, .slice ai D.ni ci]] W fun e w' => ∃ g c, e = .returned (.slice (some ⟨g, 0, none⟩) D.nc c) ∧ SView w' (some ⟨g, 0, none⟩) D.nc c (fun i => (D.col i).name) ∧ Below W.heap.size W w') := fun W hb => (colNames_any _ D W (HV.out.below hb) HF.out).mono (fun e w' ⟨g, c, h1, h2, h3⟩ => ⟨g, c, h1, sview_of_row h2, h3⟩)
  have HIN : Hid (∀ W, Below w.heap.size w W → Calls Tryz.prog 46 #[.agg #[.string D.name, .slice ac D.nc cc, .slice ap D.np cp, .slice ai D.ni ci]] W fun e w' => ∃ g c, e = .returned (.slice (some ⟨g, 0, none⟩) D.ni c) ∧ SView w' (some ⟨g, 0, none⟩) D.ni c (fun i => (D.idx i).name) ∧ Below W.heap.size W w') := fun W hb => (indexNames_any _ D W (HV.out.below hb) HF.out).mono (fun e w' ⟨g, c, h1, h2, h3⟩ => ⟨g, c, h1, sview_of_row h2, h3⟩)
  have HC : Hid (checkF D = if namesF D = false then 1 else if typesF D = false then 2 else if onceF D = false then 3 else if 2 < D.ni then 6 else if allPartsF D = false then 5 else if nullF D then 4 else 0) := rfl
  have hD := D4.new w 28 (.string D.name) (.slice ac D.nc cc) (.slice ap D.np cp) (.slice ai D.ni ci)
  have hB : Below w.heap.size w (w.alloc (.cells #[.string D.name, .slice ac D.nc cc, .slice ap D.np cp, .slice ai D.ni ci] 28)) := (Below.refl _ _).alloc (Nat.le_refl _) _
  clear hv hf
  go_enter Tryz.func16, Tryz.ntmps16
  go_wp2_with fail
  rename_i KR hKR
  have key : ∀ (u4 u5 u6 u7 u8 u9 u10 u11 u12 : Value) (g c : Nat) (W : World), D4 w.heap.size (.string D.name) (.slice ac D.nc cc) (.slice ap D.np cp) (.slice ai D.ni ci) W → Below w.heap.size w W → SView W (some ⟨g, 0, none⟩) (1 + D.nc + D.ni) c (namesOf D) →
      KR { tmps := #[.agg #[.string D.name, .slice ac D.nc cc, .slice ap D.np cp, .slice ai D.ni ci], .pointer (some ⟨w.heap.size, 0, none⟩), .nilIface, .slice (some ⟨g, 0, none⟩) (1 + D.nc + D.ni) c, u4, u5, u6, u7, u8, u9, u10, u11, u12, undef, undef, undef, undef, undef, undef, undef, undef, undef, undef, undef, undef, undef, undef, undef, undef, undef, undef, undef, undef, undef, undef, undef, undef, undef, undef, undef, undef, undef, undef, undef, undef, undef, undef, undef, undef, undef, undef, undef, undef, undef, undef, undef, undef, undef, undef, undef, undef, undef, undef, undef, undef], defers := [] } W := by
    intro u4 u5 u6 u7 u8 u9 u10 u11 u12 g c W hD hB hN
    apply hKR
    clear hKR
    have hS := containsStr_any (some ⟨g, 0, none⟩) (1 + D.nc + D.ni) c (namesOf D) W hN (by omega) (namesOf_size HF.out)
    rw [names_iff] at hS
    clear hN
    go_wp2_with fail
    refine hS.mono ?_
    rintro e w1 ⟨rfl, hb1⟩
    have hD1 := hD.below hb1
    have hB1 := hB.trans (hb1.mono hB.size)
    clear hS hb1 hD hB
    cases e1 : namesF D with
    | false =>
      have HX : Hid (checkF D = 1) := by show _ = _; rw [HC.out, e1]; rfl
      have HB : Hid (Below w.heap.size w w1) := hB1
      clear hB1 hD1 HC HCN HIN
      go_wp2
      go_ret
      exact ⟨_, rfl, WrongTo.bad HX.out (by decide) _, HB.out⟩
    | true =>
    have HTI : Hid ((decide (D.nc = 0) || decide (6 < D.nc) || decide (∃ i, i < D.nc ∧ ((D.col i).type < 1 ∨ 4 < (D.col i).type))) = !typesF D) := types_iff D
    have HX2 : Hid (typesF D = false → checkF D = 2) := fun h => by rw [HC.out, e1, h]; rfl
    have hD1' := hD1
    obtain ⟨lt1, x0, x1, x2, x3⟩ := hD1
    by_cases c1 : D.nc = 0
    · have HX : Hid (checkF D = 2) := HX2.out (by have := HTI.out; rw [decide_eq_true c1] at this; simpa using this.symm)
      have q1 : ((D.nc : Int) == 0) = true := by simp; omega
      have HB : Hid (Below w.heap.size w w1) := hB1
      clear hB1 HC HCN HIN HTI HX2 hD1'
      go_wp2
      go_ret
      exact ⟨_, rfl, WrongTo.bad HX.out (by decide) _, HB.out⟩
    have q1 : ((D.nc : Int) == 0) = false := by simp; omega
    by_cases c2 : 6 < D.nc
    · have HX : Hid (checkF D = 2) := HX2.out (by have := HTI.out; rw [decide_eq_true c2] at this; simpa using this.symm)
      have q2 : (D.nc : Int) > 6 := by omega
      have HB : Hid (Below w.heap.size w w1) := hB1
      clear hB1 HC HCN HIN HTI HX2 hD1'
      go_wp2
      go_ret
      exact ⟨_, rfl, WrongTo.bad HX.out (by decide) _, HB.out⟩
    have q2 : ¬ ((D.nc : Int) > 6) := by omega
    obtain ⟨ac0, cc0, ap0, cp0, ai0, ci0, eagg, hcv, hpv, hiv⟩ := (HV.out.below hB1).is
    cases eagg
    have hS := containsCol_any ac D.nc cc D.col w1 hcv (by omega)
    have HTJ : Hid (decide (∃ i, i < D.nc ∧ ((D.col i).type < 1 ∨ 4 < (D.col i).type)) = !typesF D) := by
      show _ = _
      have := HTI.out
      rw [decide_eq_false c1, decide_eq_false c2] at this
      simpa using this
    rw [HTJ.out] at hS
    clear HTI HTJ hcv hpv hiv
    go_wp2_with fail
    refine hS.mono ?_
    rintro e w2 ⟨rfl, hb2⟩
    have hD2 := hD1'.below hb2
    have hB2 := hB1.trans (hb2.mono hB1.size)
    clear hS hb2 hD1' hB1 x0 x1 x2 x3 lt1
    cases e2 : typesF D with
    | false =>
      have HX : Hid (checkF D = 2) := HX2.out e2
      have HB : Hid (Below w.heap.size w w2) := hB2
      clear hB2 hD2 HC HCN HIN HX2
      go_wp2
      go_ret
      exact ⟨_, rfl, WrongTo.bad HX.out (by decide) _, HB.out⟩
    | true =>
    clear HX2
    have HOI : Hid ((decide (¬ (ssOf (fun i => (D.col i).name) D.nc).Nodup) || decide (¬ (ssOf (fun i => (D.idx i).name) D.ni).Nodup)) = !onceF D) := once_iff D
    have HX3 : Hid (onceF D = false → checkF D = 3) := fun h => by rw [HC.out, e1, e2, h]; rfl
    have hD2' := hD2
    obtain ⟨lt2, x0, x1, x2, x3⟩ := hD2
    have hS := HCN.out w2 hB2
    go_wp2_with fail
    refine hS.mono ?_
    rintro e w3 ⟨gc, kc, rfl, vC, hb3⟩
    have hD3 := hD2'.below hb3
    have hB3 := hB2.trans (hb3.mono hB2.size)
    have hT := hasTwice_any (some ⟨gc, 0, none⟩) D.nc kc (fun i => (D.col i).name) w3 vC (by omega)
    obtain ⟨o1, ho1⟩ : ∃ o1, Hid (decide (¬ (ssOf (fun i => (D.col i).name) D.nc).Nodup) = o1) := ⟨_, rfl⟩
    rw [ho1.out] at hT HOI
    clear hS hb3 hD2' hB2 x0 x1 x2 x3 lt2 vC
    go_wp2_with fail
    refine hT.mono ?_
    rintro e w4 ⟨rfl, hb4⟩
    have hD4 := hD3.below hb4
    have hB4 := hB3.trans (hb4.mono hB3.size)
    clear hT hb4 hD3 hB3
    cases o1 with
    | true =>
      have HX : Hid (checkF D = 3) := HX3.out (by have := HOI.out; simpa using this.symm)
      have HB : Hid (Below w.heap.size w w4) := hB4
      clear hB4 hD4 HC HCN HIN HX3 HOI
      go_wp2
      go_ret
      exact ⟨_, rfl, WrongTo.bad HX.out (by decide) _, HB.out⟩
    | false =>
    have hD4' := hD4
    obtain ⟨lt4, x0, x1, x2, x3⟩ := hD4
    have hS := HIN.out w4 hB4
    go_wp2_with fail
    refine hS.mono ?_
    rintro e w5 ⟨gi, ki, rfl, vI, hb5⟩
    have hD5 := hD4'.below hb5
    have hB5 := hB4.trans (hb5.mono hB4.size)
    have hT := hasTwice_any (some ⟨gi, 0, none⟩) D.ni ki (fun i => (D.idx i).name) w5 vI (by omega)
    rw [Bool.false_or] at HOI
    rw [HOI.out] at hT
    clear hS hb5 hD4' hB4 x0 x1 x2 x3 lt4 vI HOI
    go_wp2_with fail
    refine hT.mono ?_
    rintro e w6 ⟨rfl, hb6⟩
    have hD6 := hD5.below hb6
    have hB6 := hB5.trans (hb6.mono hB5.size)
    clear hT hb6 hD5 hB5
    cases e3 : onceF D with
    | false =>
      have HX : Hid (checkF D = 3) := HX3.out e3
      have HB : Hid (Below w.heap.size w w6) := hB6
      clear hB6 hD6 HC HCN HIN HX3
      go_wp2
      go_ret
      exact ⟨_, rfl, WrongTo.bad HX.out (by decide) _, HB.out⟩
    | true =>
    clear HX3
    have hD6' := hD6
    obtain ⟨lt6, x0, x1, x2, x3⟩ := hD6
    by_cases c6 : 2 < D.ni
    · have HX : Hid (checkF D = 6) := by show _ = _; rw [HC.out, e1, e2, e3, if_pos c6]; rfl
      have q6 : (D.ni : Int) > 2 := by omega
      have HB : Hid (Below w.heap.size w w6) := hB6
      clear hB6 hD6' HC HCN HIN
      go_wp2
      go_ret
      exact ⟨_, rfl, WrongTo.bad HX.out (by decide) _, HB.out⟩
    have q6 : ¬ ((D.ni : Int) > 2) := by omega
    have hS := allPartsOk_any _ D w6 (HV.out.below hB6) HF.out
    go_wp2_with fail
    refine hS.mono ?_
    rintro e w7 ⟨rfl, hb7⟩
    have hD7 := hD6'.below hb7
    have hB7 := hB6.trans (hb7.mono hB6.size)
    clear hS hb7 hD6' hB6 x0 x1 x2 x3 lt6
    cases e5 : allPartsF D with
    | false =>
      have HX : Hid (checkF D = 5) := by show _ = _; rw [HC.out, e1, e2, e3, if_neg c6, e5]; rfl
      have HB : Hid (Below w.heap.size w w7) := hB7
      clear hB7 hD7 HC HCN HIN
      go_wp2
      go_ret
      exact ⟨_, rfl, WrongTo.bad HX.out (by decide) _, HB.out⟩
    | true =>
    have hD7' := hD7
    obtain ⟨lt7, x0, x1, x2, x3⟩ := hD7
    have hpf : partsF D.nc D.np D.pri = true := by
      unfold allPartsF at e5
      exact (of_decide_eq_true e5).2
    have hS := mayLackKey_any _ D w7 (HV.out.below hB7) HF.out hpf
    have HX4 : Hid (checkF D = if nullF D then 4 else 0) := by show _ = _; rw [HC.out, e1, e2, e3, if_neg c6, e5]; rfl
    clear hpf
    go_wp2_with fail
    refine hS.mono ?_
    rintro e w8 ⟨rfl, hb8⟩
    have HB : Hid (Below w.heap.size w w8) := hB7.trans (hb8.mono hB7.size)
    clear hS hb8 hD7' hB7 x0 x1 x2 x3 lt7 HC HCN HIN e1 e2 e3 e5
    cases e6 : nullF D with
    | false =>
      have HX : Hid (checkF D = 0) := by show _ = _; rw [HX4.out, e6]; rfl
      clear HX4 e6
      go_wp2
      go_ret
      exact ⟨_, rfl, .inl ⟨HX.out, rfl⟩, HB.out⟩
    | true =>
      have HX : Hid (checkF D = 4) := by show _ = _; rw [HX4.out, e6]; rfl
      clear HX4 e6
      go_wp2
      go_ret
      exact ⟨_, rfl, WrongTo.bad HX.out (by decide) _, HB.out⟩
  clear HC
  obtain ⟨w0, hw0⟩ : ∃ w0, Hid (w0 = w.alloc (.cells #[.string D.name, .slice ac D.nc cc, .slice ap D.np cp, .slice ai D.ni ci] 28)) := ⟨_, rfl⟩
  rw [← hw0.out] at hD hB ⊢
  have hb : Below w0.heap.size w0 w0.drew := (Below.refl _ _).drew
  replace hD := hD.below hb
  replace hB := hB.trans (hb.mono hB.size)
  clear hb
  refine wp_region_held_drew (S := (D4 w.heap.size (.string D.name) (.slice ac D.nc cc) (.slice ap D.np cp) (.slice ai D.ni ci))) (by kernel_rfl) (hD) (fun hHeld => ?_)
  obtain ⟨wd, hwd⟩ : ∃ wd, Hid (wd = w0.drew) := ⟨_, rfl⟩
  rw [← hwd.out] at hD hB hHeld ⊢
  refine' wpAnyH_take (i := 0) (v := _) rfl (by kernel_rfl) (by kernel_rfl) (by kernel_rfl) (fun _ _ _ h => h) (Or.inl ⟨by kernel_rfl, ?ht1⟩) (by assumption) ?rt1
  case ht1 => intro W hW; obtain ⟨-, c0, c1, c2, c3⟩ := hW; go_simp; all_goals with_reducible rfl
  change wpAnyH _ _ _ _ _ _ _ (Act.put _ (some 4) _) _
  simp only [Act.put, List.setIfInBounds_toArray, List.set_cons_zero, List.set_cons_succ]
  refine' wpAnyH_take (i := 1) (v := _) rfl (by kernel_rfl) (by kernel_rfl) (by kernel_rfl) (fun _ _ _ h => h) (Or.inl ⟨by kernel_rfl, ?ht2⟩) (by assumption) ?rt2
  case ht2 => intro W hW; obtain ⟨-, c0, c1, c2, c3⟩ := hW; go_simp; all_goals with_reducible rfl
  change wpAnyH _ _ _ _ _ _ _ (Act.put _ (some 5) _) _
  simp only [Act.put, List.setIfInBounds_toArray, List.set_cons_zero, List.set_cons_succ]
  refine' wpAnyH_take (i := 3) (v := _) rfl (by kernel_rfl) (by kernel_rfl) (by kernel_rfl) (fun _ _ _ h => h) (Or.inl ⟨by kernel_rfl, ?ht3⟩) (by assumption) ?rt3
  case ht3 => intro W hW; obtain ⟨-, c0, c1, c2, c3⟩ := hW; go_simp; all_goals with_reducible rfl
  change wpAnyH _ _ _ _ _ _ _ (Act.put _ (some 7) _) _
  simp only [Act.put, List.setIfInBounds_toArray, List.set_cons_zero, List.set_cons_succ]
  refine' wpAnyH_take (i := 5) (v := _) rfl (by kernel_rfl) (by kernel_rfl) (by kernel_rfl) (fun _ _ _ h => h) (Or.inl ⟨by kernel_rfl, ?ht4⟩) (by assumption) ?rt4
  case ht4 => intro W hW; obtain ⟨-, c0, c1, c2, c3⟩ := hW; go_simp; all_goals with_reducible rfl
  change wpAnyH _ _ _ _ _ _ _ (Act.put _ (some 9) _) _
  simp only [Act.put, List.setIfInBounds_toArray, List.set_cons_zero, List.set_cons_succ]
  refine wpAnyH_ready (rs := [2, 4]) (by kernel_rfl) (by simp) ?_
  refine AllReadyH.cons rfl (fun KK hK => ?_) (AllReadyH.cons rfl (fun KK hK => ?_) AllReadyH.nil)
  ·
    go_simp
    have hb : Below wd.heap.size wd (wd.alloc (.cells #[.string D.name] 9)) := (Below.refl _ _).alloc (Nat.le_refl _) _
    have vN := sview_one (W := wd) (s := D.name)
    replace hD := hD.below hb
    replace hB := hB.trans (hb.mono hB.size)
    clear hb
    refine hK.out _ _ hD (fun hHeld => ?_)
    clear hK KK
    try simp only [Act.put, List.setIfInBounds_toArray, List.set_cons_zero, List.set_cons_succ]
    obtain ⟨gN, hgN⟩ : ∃ gN, Hid (gN = wd.heap.size) := ⟨_, rfl⟩
    obtain ⟨wn, hwn⟩ : ∃ wn, Hid (wn = wd.alloc (.cells #[.string D.name] 9)) := ⟨_, rfl⟩
    rw [← hwn.out] at hD hB hHeld vN ⊢
    rw [← hgN.out] at vN ⊢
    refine wpAnyH_ready (rs := [4]) (by kernel_rfl) (by simp) ?_
    refine AllReadyH.cons rfl (fun KK hK => ?_) AllReadyH.nil
    go_simp
    refine (HCN.out _ hB).mono ?_
    rintro e wc ⟨gc, kc, rfl, vC, hb⟩
    replace hD := hD.below hb
    replace hB := hB.trans (hb.mono hB.size)
    replace vN := vN.below hb
    clear hb
    go_wp2_with fail
    refine hK.out _ _ hD (fun hHeld => ?_)
    clear hK KK
    try simp only [Act.put, List.setIfInBounds_toArray, List.set_cons_zero, List.set_cons_succ]
    refine wpAnyH_ready (rs := [6]) (by kernel_rfl) (by simp) ?_
    refine AllReadyH.cons rfl (fun KK hK => ?_) AllReadyH.nil
    go_simp
    refine (HIN.out _ hB).mono ?_
    rintro e wi ⟨gi, ki, rfl, vI, hb⟩
    replace hD := hD.below hb
    replace hB := hB.trans (hb.mono hB.size)
    replace vN := vN.below hb
    replace vC := vC.below hb
    clear hb
    go_wp2_with fail
    refine hK.out _ _ hD (fun hHeld => ?_)
    clear hK KK
    try simp only [Act.put, List.setIfInBounds_toArray, List.set_cons_zero, List.set_cons_succ]
    refine wpAnyH_ready (rs := [7]) (by kernel_rfl) (by simp) ?_
    refine AllReadyH.cons rfl (fun KK hK => ?_) AllReadyH.nil
    go_simp
    have hb : Below wi.heap.size wi (wi.alloc (.cells #[.slice (some ⟨gN, 0, none⟩) 1 1, .slice (some ⟨gc, 0, none⟩) D.nc kc, .slice (some ⟨gi, 0, none⟩) D.ni ki] 74)) := (Below.refl _ _).alloc (Nat.le_refl _) _
    have y0 : (wi.alloc (.cells #[.slice (some ⟨gN, 0, none⟩) 1 1, .slice (some ⟨gc, 0, none⟩) D.nc kc, .slice (some ⟨gi, 0, none⟩) D.ni ki] 74)).cell? ⟨wi.heap.size, 0, none⟩ = some (.slice (some ⟨gN, 0, none⟩) 1 1) := by simp
    have y1 : (wi.alloc (.cells #[.slice (some ⟨gN, 0, none⟩) 1 1, .slice (some ⟨gc, 0, none⟩) D.nc kc, .slice (some ⟨gi, 0, none⟩) D.ni ki] 74)).cell? ⟨wi.heap.size, 1, none⟩ = some (.slice (some ⟨gc, 0, none⟩) D.nc kc) := by simp [go_sem]
    have y2 : (wi.alloc (.cells #[.slice (some ⟨gN, 0, none⟩) 1 1, .slice (some ⟨gc, 0, none⟩) D.nc kc, .slice (some ⟨gi, 0, none⟩) D.ni ki] 74)).cell? ⟨wi.heap.size, 2, none⟩ = some (.slice (some ⟨gi, 0, none⟩) D.ni ki) := by simp [go_sem]
    have yl : wi.heap.size < (wi.alloc (.cells #[.slice (some ⟨gN, 0, none⟩) 1 1, .slice (some ⟨gc, 0, none⟩) D.nc kc, .slice (some ⟨gi, 0, none⟩) D.ni ki] 74)).heap.size := by simp
    replace hD := hD.below hb
    replace hB := hB.trans (hb.mono hB.size)
    replace vN := vN.below hb
    replace vC := vC.below hb
    replace vI := vI.below hb
    clear hb
    refine hK.out _ _ hD (fun hHeld => ?_)
    clear hK KK
    try simp only [Act.put, List.setIfInBounds_toArray, List.set_cons_zero, List.set_cons_succ]
    have hCC := concat3_any _ _ _ _ _ _ _ _ _ _ _ _ _ _ y0 y1 y2 yl vN vC vI (by omega) (by omega) hnc hni
    refine wpAnyH_ready (rs := [8]) (by kernel_rfl) (by simp) ?_
    refine AllReadyH.cons rfl (fun KK hK => ?_) AllReadyH.nil
    go_simp
    refine hCC.mono ?_
    rintro e wz ⟨g, c, rfl, hO, hb⟩
    rw [rowS_cat, rowS_cat] at hO
    have vZ : SView wz (some ⟨g, 0, none⟩) (1 + D.nc + D.ni) c (namesOf D) := sview_of_row hO
    replace hD := hD.below hb
    replace hB := hB.trans (hb.mono hB.size)
    clear hb
    clear hCC hO y0 y1 y2 yl vN vC vI
    go_wp2_with fail
    refine hK.out _ _ hD (fun hHeld => ?_)
    clear hK KK
    try simp only [Act.put, List.setIfInBounds_toArray, List.set_cons_zero, List.set_cons_succ]
    refine' wpAnyH_take (i := 9) (v := _) rfl (by kernel_rfl) (by kernel_rfl) (by kernel_rfl) (fun _ _ _ h => h) (Or.inl ⟨by kernel_rfl, ?ht5⟩) (by assumption) ?rt5
    case ht5 => intro W hW; obtain ⟨-, c0, c1, c2, c3⟩ := hW; go_simp; all_goals with_reducible rfl
    change wpAnyH _ _ _ _ _ _ _ (Act.put _ (some 3) _) _
    simp only [Act.put, List.setIfInBounds_toArray, List.set_cons_zero, List.set_cons_succ]
    refine wpAnyH_done (by kernel_rfl) ?_ _
    exact key _ _ _ _ _ _ _ _ _ _ _ _ hD hB vZ
  ·
    go_simp
    refine (HCN.out _ hB).mono ?_
    rintro e wc ⟨gc, kc, rfl, vC, hb⟩
    replace hD := hD.below hb
    replace hB := hB.trans (hb.mono hB.size)
    clear hb
    go_wp2_with fail
    refine hK.out _ _ hD (fun hHeld => ?_)
    clear hK KK
    try simp only [Act.put, List.setIfInBounds_toArray, List.set_cons_zero, List.set_cons_succ]
    refine wpAnyH_ready (rs := [2, 6]) (by kernel_rfl) (by simp) ?_
    refine AllReadyH.cons rfl (fun KK hK => ?_) (AllReadyH.cons rfl (fun KK hK => ?_) AllReadyH.nil)
    ·
      go_simp
      have hb : Below wc.heap.size wc (wc.alloc (.cells #[.string D.name] 9)) := (Below.refl _ _).alloc (Nat.le_refl _) _
      have vN := sview_one (W := wc) (s := D.name)
      replace hD := hD.below hb
      replace hB := hB.trans (hb.mono hB.size)
      replace vC := vC.below hb
      clear hb
      refine hK.out _ _ hD (fun hHeld => ?_)
      clear hK KK
      try simp only [Act.put, List.setIfInBounds_toArray, List.set_cons_zero, List.set_cons_succ]
      obtain ⟨gN, hgN⟩ : ∃ gN, Hid (gN = wc.heap.size) := ⟨_, rfl⟩
      obtain ⟨wn, hwn⟩ : ∃ wn, Hid (wn = wc.alloc (.cells #[.string D.name] 9)) := ⟨_, rfl⟩
      rw [← hwn.out] at hD hB hHeld vN vC ⊢
      rw [← hgN.out] at vN ⊢
      refine wpAnyH_ready (rs := [6]) (by kernel_rfl) (by simp) ?_
      refine AllReadyH.cons rfl (fun KK hK => ?_) AllReadyH.nil
      go_simp
      refine (HIN.out _ hB).mono ?_
      rintro e wi ⟨gi, ki, rfl, vI, hb⟩
      replace hD := hD.below hb
      replace hB := hB.trans (hb.mono hB.size)
      replace vN := vN.below hb
      replace vC := vC.below hb
      clear hb
      go_wp2_with fail
      refine hK.out _ _ hD (fun hHeld => ?_)
      clear hK KK
      try simp only [Act.put, List.setIfInBounds_toArray, List.set_cons_zero, List.set_cons_succ]
      refine wpAnyH_ready (rs := [7]) (by kernel_rfl) (by simp) ?_
      refine AllReadyH.cons rfl (fun KK hK => ?_) AllReadyH.nil
      go_simp
      have hb : Below wi.heap.size wi (wi.alloc (.cells #[.slice (some ⟨gN, 0, none⟩) 1 1, .slice (some ⟨gc, 0, none⟩) D.nc kc, .slice (some ⟨gi, 0, none⟩) D.ni ki] 74)) := (Below.refl _ _).alloc (Nat.le_refl _) _
      have y0 : (wi.alloc (.cells #[.slice (some ⟨gN, 0, none⟩) 1 1, .slice (some ⟨gc, 0, none⟩) D.nc kc, .slice (some ⟨gi, 0, none⟩) D.ni ki] 74)).cell? ⟨wi.heap.size, 0, none⟩ = some (.slice (some ⟨gN, 0, none⟩) 1 1) := by simp
      have y1 : (wi.alloc (.cells #[.slice (some ⟨gN, 0, none⟩) 1 1, .slice (some ⟨gc, 0, none⟩) D.nc kc, .slice (some ⟨gi, 0, none⟩) D.ni ki] 74)).cell? ⟨wi.heap.size, 1, none⟩ = some (.slice (some ⟨gc, 0, none⟩) D.nc kc) := by simp [go_sem]
      have y2 : (wi.alloc (.cells #[.slice (some ⟨gN, 0, none⟩) 1 1, .slice (some ⟨gc, 0, none⟩) D.nc kc, .slice (some ⟨gi, 0, none⟩) D.ni ki] 74)).cell? ⟨wi.heap.size, 2, none⟩ = some (.slice (some ⟨gi, 0, none⟩) D.ni ki) := by simp [go_sem]
      have yl : wi.heap.size < (wi.alloc (.cells #[.slice (some ⟨gN, 0, none⟩) 1 1, .slice (some ⟨gc, 0, none⟩) D.nc kc, .slice (some ⟨gi, 0, none⟩) D.ni ki] 74)).heap.size := by simp
      replace hD := hD.below hb
      replace hB := hB.trans (hb.mono hB.size)
      replace vN := vN.below hb
      replace vC := vC.below hb
      replace vI := vI.below hb
      clear hb
      refine hK.out _ _ hD (fun hHeld => ?_)
      clear hK KK
      try simp only [Act.put, List.setIfInBounds_toArray, List.set_cons_zero, List.set_cons_succ]
      have hCC := concat3_any _ _ _ _ _ _ _ _ _ _ _ _ _ _ y0 y1 y2 yl vN vC vI (by omega) (by omega) hnc hni
      refine wpAnyH_ready (rs := [8]) (by kernel_rfl) (by simp) ?_
      refine AllReadyH.cons rfl (fun KK hK => ?_) AllReadyH.nil
      go_simp
      refine hCC.mono ?_
      rintro e wz ⟨g, c, rfl, hO, hb⟩
      rw [rowS_cat, rowS_cat] at hO
      have vZ : SView wz (some ⟨g, 0, none⟩) (1 + D.nc + D.ni) c (namesOf D) := sview_of_row hO
      replace hD := hD.below hb
      replace hB := hB.trans (hb.mono hB.size)
      clear hb
      clear hCC hO y0 y1 y2 yl vN vC vI
      go_wp2_with fail
      refine hK.out _ _ hD (fun hHeld => ?_)
      clear hK KK
      try simp only [Act.put, List.setIfInBounds_toArray, List.set_cons_zero, List.set_cons_succ]
      refine' wpAnyH_take (i := 9) (v := _) rfl (by kernel_rfl) (by kernel_rfl) (by kernel_rfl) (fun _ _ _ h => h) (Or.inl ⟨by kernel_rfl, ?ht6⟩) (by assumption) ?rt6
      case ht6 => intro W hW; obtain ⟨-, c0, c1, c2, c3⟩ := hW; go_simp; all_goals with_reducible rfl
      change wpAnyH _ _ _ _ _ _ _ (Act.put _ (some 3) _) _
      simp only [Act.put, List.setIfInBounds_toArray, List.set_cons_zero, List.set_cons_succ]
      refine wpAnyH_done (by kernel_rfl) ?_ _
      exact key _ _ _ _ _ _ _ _ _ _ _ _ hD hB vZ
    ·
      go_simp
      refine (HIN.out _ hB).mono ?_
      rintro e wi ⟨gi, ki, rfl, vI, hb⟩
      replace hD := hD.below hb
      replace hB := hB.trans (hb.mono hB.size)
      replace vC := vC.below hb
      clear hb
      go_wp2_with fail
      refine hK.out _ _ hD (fun hHeld => ?_)
      clear hK KK
      try simp only [Act.put, List.setIfInBounds_toArray, List.set_cons_zero, List.set_cons_succ]
      refine wpAnyH_ready (rs := [2]) (by kernel_rfl) (by simp) ?_
      refine AllReadyH.cons rfl (fun KK hK => ?_) AllReadyH.nil
      go_simp
      have hb : Below wi.heap.size wi (wi.alloc (.cells #[.string D.name] 9)) := (Below.refl _ _).alloc (Nat.le_refl _) _
      have vN := sview_one (W := wi) (s := D.name)
      replace hD := hD.below hb
      replace hB := hB.trans (hb.mono hB.size)
      replace vC := vC.below hb
      replace vI := vI.below hb
      clear hb
      refine hK.out _ _ hD (fun hHeld => ?_)
      clear hK KK
      try simp only [Act.put, List.setIfInBounds_toArray, List.set_cons_zero, List.set_cons_succ]
      obtain ⟨gN, hgN⟩ : ∃ gN, Hid (gN = wi.heap.size) := ⟨_, rfl⟩
      obtain ⟨wn, hwn⟩ : ∃ wn, Hid (wn = wi.alloc (.cells #[.string D.name] 9)) := ⟨_, rfl⟩
      rw [← hwn.out] at hD hB hHeld vN vC vI ⊢
      rw [← hgN.out] at vN ⊢
      refine wpAnyH_ready (rs := [7]) (by kernel_rfl) (by simp) ?_
      refine AllReadyH.cons rfl (fun KK hK => ?_) AllReadyH.nil
      go_simp
      have hb : Below wn.heap.size wn (wn.alloc (.cells #[.slice (some ⟨gN, 0, none⟩) 1 1, .slice (some ⟨gc, 0, none⟩) D.nc kc, .slice (some ⟨gi, 0, none⟩) D.ni ki] 74)) := (Below.refl _ _).alloc (Nat.le_refl _) _
      have y0 : (wn.alloc (.cells #[.slice (some ⟨gN, 0, none⟩) 1 1, .slice (some ⟨gc, 0, none⟩) D.nc kc, .slice (some ⟨gi, 0, none⟩) D.ni ki] 74)).cell? ⟨wn.heap.size, 0, none⟩ = some (.slice (some ⟨gN, 0, none⟩) 1 1) := by simp
      have y1 : (wn.alloc (.cells #[.slice (some ⟨gN, 0, none⟩) 1 1, .slice (some ⟨gc, 0, none⟩) D.nc kc, .slice (some ⟨gi, 0, none⟩) D.ni ki] 74)).cell? ⟨wn.heap.size, 1, none⟩ = some (.slice (some ⟨gc, 0, none⟩) D.nc kc) := by simp [go_sem]
      have y2 : (wn.alloc (.cells #[.slice (some ⟨gN, 0, none⟩) 1 1, .slice (some ⟨gc, 0, none⟩) D.nc kc, .slice (some ⟨gi, 0, none⟩) D.ni ki] 74)).cell? ⟨wn.heap.size, 2, none⟩ = some (.slice (some ⟨gi, 0, none⟩) D.ni ki) := by simp [go_sem]
      have yl : wn.heap.size < (wn.alloc (.cells #[.slice (some ⟨gN, 0, none⟩) 1 1, .slice (some ⟨gc, 0, none⟩) D.nc kc, .slice (some ⟨gi, 0, none⟩) D.ni ki] 74)).heap.size := by simp
      replace hD := hD.below hb
      replace hB := hB.trans (hb.mono hB.size)
      replace vN := vN.below hb
      replace vC := vC.below hb
      replace vI := vI.below hb
      clear hb
      refine hK.out _ _ hD (fun hHeld => ?_)
      clear hK KK
      try simp only [Act.put, List.setIfInBounds_toArray, List.set_cons_zero, List.set_cons_succ]
      have hCC := concat3_any _ _ _ _ _ _ _ _ _ _ _ _ _ _ y0 y1 y2 yl vN vC vI (by omega) (by omega) hnc hni
      refine wpAnyH_ready (rs := [8]) (by kernel_rfl) (by simp) ?_
      refine AllReadyH.cons rfl (fun KK hK => ?_) AllReadyH.nil
      go_simp
      refine hCC.mono ?_
      rintro e wz ⟨g, c, rfl, hO, hb⟩
      rw [rowS_cat, rowS_cat] at hO
      have vZ : SView wz (some ⟨g, 0, none⟩) (1 + D.nc + D.ni) c (namesOf D) := sview_of_row hO
      replace hD := hD.below hb
      replace hB := hB.trans (hb.mono hB.size)
      clear hb
      clear hCC hO y0 y1 y2 yl vN vC vI
      go_wp2_with fail
      refine hK.out _ _ hD (fun hHeld => ?_)
      clear hK KK
      try simp only [Act.put, List.setIfInBounds_toArray, List.set_cons_zero, List.set_cons_succ]
      refine' wpAnyH_take (i := 9) (v := _) rfl (by kernel_rfl) (by kernel_rfl) (by kernel_rfl) (fun _ _ _ h => h) (Or.inl ⟨by kernel_rfl, ?ht7⟩) (by assumption) ?rt7
      case ht7 => intro W hW; obtain ⟨-, c0, c1, c2, c3⟩ := hW; go_simp; all_goals with_reducible rfl
      change wpAnyH _ _ _ _ _ _ _ (Act.put _ (some 3) _) _
      simp only [Act.put, List.setIfInBounds_toArray, List.set_cons_zero, List.set_cons_succ]
      refine wpAnyH_done (by kernel_rfl) ?_ _
      exact key _ _ _ _ _ _ _ _ _ _ _ _ hD hB vZ
end Go.Proofs.YtfjlmkphncigladGreatDoor

/-
  errors.As at a table's error: none of nothing; the error itself, where there is one.
-/
namespace Go.Proofs.YtfjlmkphncigladGreatDoor
open Go.RowKit Go.Extern.Stop Go.Stop Go.Extern

/-- The handle of a type. -/
abbrev hdl (T : Nat) : Value := .pointer (some ⟨3, T, none⟩)

theorem as_nil (t : Value) (w : World) :
    Calls Tryz.prog 15 #[.nilIface, t] w fun e w' => e = .returned (.bool false) ∧ w' = w := by
  go_enter Tryz.func15, Tryz.ntmps15
  go_wp2
  go_ret
  exact ⟨rfl, rfl⟩

theorem as_valueOfP (t : Addr) (w : World) : (ReflectliteValue.unpack (.iface 44 (.pointer (some t)))).run Tryz.prog w
    = .ok (.agg #[hdl 44, .pointer (some ⟨w.heap.size, 0, none⟩), .int .u64 150]) (w.alloc (.cells #[.pointer (some t)] 44)) := by kernel_rfl
theorem as_typeP (a : Addr) (w : World) : (ReflectliteValue.methodAny (ReflectliteValue.valueError "reflectlite.Value.Type" 0) (fun t _ _ _ => ReflectliteType.toType t) #[.agg #[hdl 44, .pointer (some a), .int .u64 150]]).run Tryz.prog w
    = .ok (.iface 106 (.agg #[hdl 44])) w := by kernel_rfl
theorem as_mKind (h : Value) (w : World) : (Go.method 297 106 (.agg #[h]) "Kind").run Tryz.prog w = .ok (129, h) w := by kernel_rfl
theorem as_kindP (w : World) : ((ReflectliteType.abiMethod fun t => (fun a : Nat => Value.int IntKind.u8 (a : Int)) <$> Rtype.kind t) #[hdl 44]).run Tryz.prog w = .ok (.int .u8 22) w := by kernel_rfl
theorem as_kindE (w : World) : ((ReflectliteType.abiMethod fun t => (fun a : Nat => Value.int IntKind.u8 (a : Int)) <$> Rtype.kind t) #[hdl 39]).run Tryz.prog w = .ok (.int .u8 25) w := by kernel_rfl

theorem as_rlm (z : Sem Value) (f : TypeId → Addr → Nat → Nat → Sem Value) (v : Value) :
    ReflectliteValue.method z f #[v] = (do match ← ReflectliteValue.parts v with | none => z | some (t, a, fl) => f t a fl (fl % 32)) := rfl
theorem as_partsP (a : Addr) (w : World) : (ReflectliteValue.parts (.agg #[hdl 44, .pointer (some a), .int .u64 150])).run Tryz.prog w = .ok (some (44, a, 150)) w := by kernel_rfl
theorem as_isNil (a p : Addr) (W : World) (ha : W.cell? a = some (.pointer (some p))) :
    (ReflectliteValue.method (ReflectliteValue.valueError "reflectlite.Value.IsNil" 0) ReflectliteValue.isNil #[.agg #[hdl 44, .pointer (some a), .int .u64 150]]).run Tryz.prog W = .ok (.bool false) W := by
  rw [as_rlm]
  simp only [Sem.run_bind, as_partsP, Result.andThen]
  simp [ReflectliteValue.isNil, loadVar, isAgg, underlying, Tryz.underlying44, ha, Result.andThen]
theorem as_mElem (h : Value) (w : World) : (Go.method 297 106 (.agg #[h]) "Elem").run Tryz.prog w = .ok (140, .agg #[h]) w := by kernel_rfl
theorem as_mImplements (h : Value) (w : World) : (Go.method 297 106 (.agg #[h]) "Implements").run Tryz.prog w = .ok (141, .agg #[h]) w := by kernel_rfl
theorem as_mAssignableTo (h : Value) (w : World) : (Go.method 297 106 (.agg #[h]) "AssignableTo").run Tryz.prog w = .ok (138, .agg #[h]) w := by kernel_rfl
theorem as_elemP (w : World) : (ReflectliteType.method ReflectliteType.elem #[.agg #[hdl 44]]).run Tryz.prog w = .ok (.iface 106 (.agg #[hdl 39])) w := by kernel_rfl
theorem as_implementsE (w : World) : (ReflectliteType.relation "Implements" ReflectliteType.implements_ #[.agg #[hdl 39], .iface 106 (.agg #[hdl 42])]).run Tryz.prog w = .ok (.bool true) w := by kernel_rfl
theorem as_typeOfE (v : Value) (w : World) : (ReflectliteType.typeOf #[.iface 39 v]).run Tryz.prog w = .ok (.iface 106 (.agg #[hdl 39])) w := by kernel_rfl
theorem as_assignableE (w : World) : (ReflectliteType.relation "AssignableTo" ReflectliteType.assignableTo #[.agg #[hdl 39], .iface 106 (.agg #[hdl 39])]).run Tryz.prog w = .ok (.bool true) w := by kernel_rfl
theorem as_valueOfE (c : Int) (s : ByteArray) (w : World) : (ReflectliteValue.unpack (.iface 39 (.agg #[.int .i64 c, .string s]))).run Tryz.prog w
    = .ok (.agg #[hdl 39, .pointer (some ⟨w.heap.size, 0, none⟩), .int .u64 153]) (w.alloc (.cells #[.int .i64 c, .string s] 39)) := by kernel_rfl
theorem as_elemOfP (w : World) : (Rtype.elem? 44).run Tryz.prog w = .ok (some 39) w := by kernel_rfl
theorem as_mkE (p : Addr) (w : World) : (ReflectliteValue.mk 39 p ReflectliteValue.flagAddr).run Tryz.prog w = .ok (.agg #[hdl 39, .pointer (some p), .int .u64 409]) w := by kernel_rfl
theorem as_elemV (a p : Addr) (W : World) (ha : W.cell? a = some (.pointer (some p))) :
    (ReflectliteValue.method (ReflectliteValue.valueError "reflectlite.Value.Elem" 0) ReflectliteValue.elem #[.agg #[hdl 44, .pointer (some a), .int .u64 150]]).run Tryz.prog W
      = .ok (.agg #[hdl 39, .pointer (some p), .int .u64 409]) W := by
  rw [as_rlm]
  simp only [Sem.run_bind, as_partsP, Result.andThen]
  simp [ReflectliteValue.elem, loadVar, isAgg, underlying, Tryz.underlying44, ha, Result.andThen, as_elemOfP, as_mkE]
end Go.Proofs.YtfjlmkphncigladGreatDoor

