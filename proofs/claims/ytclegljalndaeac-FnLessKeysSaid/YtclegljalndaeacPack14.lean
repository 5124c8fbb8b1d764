/-
  Together: EncImpl, SameImpl, PartLessImpl
-/
import Derived.Test.YtclegljalndaeacPack9
import Derived.Test.YtclegljalndaeacPack10
import Derived.Test.YtclegljalndaeacPack13
import Derived.Test.YtclegljalndaeacPack2
import Derived.Test.YtclegljalndaeacPack4
/-
  The program's EncodeKey: the values are put one behind the other.
-/
namespace Go.Proofs.Ytclegljalndaeac
open Go.RowKit
set_option maxRecDepth 4000

attribute [local go_sem] Oper.semAt_some

/-- Where the plan is right the program's answer is the plain one. -/
theorem fitsAllI_ok {n m : Nat} {fc ft : Nat → Int} {fu : Nat → Bool} {fk fn : Nat → Int} {fs : Nat → ByteArray} (h : planOk n fc ft = true) : fitsAllI n m ft fu fk fn fs = fitsAll n m ft fu fk fn fs := by
  unfold fitsAllI fitsAll
  by_cases hm : m ≤ n
  · rw [decide_eq_true hm, Bool.true_and, Bool.true_and]
    have hp := (planOk_iff.1 h).1
    have e : ∀ i, i < m → fitsI (ft i) (fu i) (fk i) (fn i) (fs i) = fitsP (ft i) (fu i) (fk i) (fn i) (fs i) := fun i hi => by
      have := hp i (by omega)
      refine fitsI_ok ?_
      unfold partOk at this; simp at this; omega
    rw [Bool.eq_iff_iff, List.all_eq_true, List.all_eq_true]
    constructor
    · intro h' i hi; rw [← e i (List.mem_range.1 hi)]; exact h' i hi
    · intro h' i hi; rw [e i (List.mem_range.1 hi)]; exact h' i hi
  · rw [decide_eq_false hm, Bool.false_and, Bool.false_and]

/-- The bytes of the values that have come. -/
def keyP {K : Nat} (g : Nat → List Int) (pre : List (Fin K)) : List Int := (pre.map (fun x => g x.1)).flatten
theorem keyP_snoc {K : Nat} (g : Nat → List Int) (pre : List (Fin K)) (x : Fin K) : keyP g (pre ++ [x]) = keyP g pre ++ g x.1 := by simp [keyP]
theorem keyP_take (g : Nat → List Int) (K : Nat) : ∀ j, j ≤ K → keyP g ((List.finRange K).take j) = keyT g j
  | 0, _ => by simp [keyP, keyT]
  | j + 1, h => by rw [fin_take (by omega), keyP_snoc, keyP_take g K j (by omega), keyT]
theorem keyP_all (g : Nat → List Int) (K : Nat) : keyP g (List.finRange K) = keyT g K := by
  rw [← keyP_take g K K (Nat.le_refl _), List.take_of_length_le (by simp)]
theorem keyP_len {K : Nat} {g : Nat → List Int} (h : ∀ i, i < K → (g i).length ≤ 69) : ∀ pre : List (Fin K), (keyP g pre).length ≤ pre.length * 69
  | [] => by simp [keyP]
  | x :: pre => by
    have h1 := keyP_len h pre
    have h2 := h x.1 x.2
    have e : keyP g (x :: pre) = g x.1 ++ keyP g pre := by simp [keyP]
    rw [e, List.length_append, List.length_cons]
    omega
theorem keyP_byte {K : Nat} {g : Nat → List Int} (h : ∀ i, ∀ y ∈ g i, 0 ≤ y ∧ y ≤ 255) (pre : List (Fin K)) : ∀ y ∈ keyP g pre, 0 ≤ y ∧ y ≤ 255 := by
  intro y hy
  unfold keyP at hy
  obtain ⟨l, hl, hy⟩ := List.mem_flatten.1 hy
  obtain ⟨x, _, rfl⟩ := List.mem_map.1 hl
  exact h _ y hy

theorem EncTo.belowAll {w W W' : World} {g cg : Nat} {L : List Int} (h : EncTo w W g cg L) (hb : Below W.heap.size W W') : EncTo w W' g cg L := ⟨h.row.belowAll hb, h.new, h.le, h.below.trans (hb.mono h.below.size)⟩
theorem EncTo.ownK {w W W' : World} {g cg : Nat} {L : List Int} {row : Option Nat} (h : EncTo w W g cg L) (hg : W.grownBy W' row) (hr : ∀ r, row = some r → w.heap.size ≤ r ∧ ∃ o : Obj, W.heap[r]? = some o ∧ o.isCells = false) : EncTo w W' g cg L := by
  refine ⟨?_, h.new, h.le, h.below.grown hg h.below.size (fun k e => (hr k e).1)⟩
  obtain ⟨c, hb, _⟩ := h.row
  exact h.row.of_block (grownBy_keeps_cells hg (fun r e => (hr r e).2) hb rfl)

set_option linter.unusedSimpArgs false in
set_option maxRecDepth 100000 in
set_option maxHeartbeats 4000000 in
theorem implEncodeKey_any (a : Option Addr) (n cap : Nat) (fc ft : Nat → Int) (fu fd : Nat → Bool) (a2 : Option Addr) (m c2 : Nat) (fk fn : Nat → Int) (fs : Nat → ByteArray) (w : World) (hp : PView w a n cap fc ft fu fd) (hq : VView w a2 m c2 fk fn fs) (hn : n ≤ 281474976710656) (hm : m ≤ 281474976710656) :
    Calls Try.prog 19 #[.slice a n cap, .slice a2 m c2] w fun e w' => ∃ g cg, e = .returned (.slice (some ⟨g, 0, none⟩) (keyL n fc ft fu fd m fk fn fs).length cg) ∧ EncTo w w' g cg (keyL n fc ft fu fd m fk fn fs) := by
  refine (callsIn_wide (n := 6)).1 ?_
  refine callsIn_of_wp_marks Try.func19 rfl trivial ?_ rfl
  simp only [Try.ntmps19, List.size_toArray, List.length_cons, List.length_nil, Nat.reduceAdd, Nat.reduceSub, Array.replicate_succ, Array.replicate_zero, List.push_toArray, List.append_toArray, List.nil_append, List.cons_append]
  have hPl := fun W (hb : Below w.heap.size w W) => implPlanOk_any a n cap fc ft fu fd W (hp.below hb)
  have hFi := fun W (hb : Below w.heap.size w W) => implFitsAll_any a n cap fc ft fu fd a2 m c2 fk fn fs W (hp.below hb) (hq.below hb) hn hm
  have hb1 : Below w.heap.size w ((w.alloc (.cells #[] 5)).alloc (.cells #[.slice (some ⟨w.heap.size, 0, none⟩) 0 0] 22)) := ((Below.refl _ _).alloc (Nat.le_refl _) _).alloc (by simp) _
  have bK := Boxed.new (w.alloc (.cells #[] 5)) 22 (.slice (some ⟨w.heap.size, 0, none⟩) 0 0)
  have hR := (Row.none w 5 (fun i => ([] : List Int).getD i 0)).belowAll ((Below.refl _ _).alloc (Nat.le_refl _) (.cells #[.slice (some ⟨w.heap.size, 0, none⟩) 0 0] 22))
  simp only [World.size_alloc] at bK
  have hsz : ((w.alloc (.cells #[] 5)).alloc (.cells #[.slice (some ⟨w.heap.size, 0, none⟩) 0 0] 22)).heap.size = w.heap.size + 2 := by simp
  cases hpk : planOk n fc ft with
  | false =>
    rw [hpk] at hPl
    have HF : Hid (keyL n fc ft fu fd m fk fn fs = []) := by show _ = _; unfold keyL; rw [hpk]; rfl
    gi_wp2_with (refine ⟨trivial, ?_⟩; gi_at_call 22; refine (callsIn_wide.2 (hPl _ hb1)).mono ?_; rintro e w2 ⟨rfl, hB2⟩; have cK2 := (Boxed.below' bK hB2).cell)
    refine ⟨trivial, ?_⟩
    gi_wp2
    refine ⟨_, results_tmp rfl _ _ _, w.heap.size, 0, by rw [HF.out]; rfl, ?_⟩
    rw [HF.out]
    exact ⟨hR.belowAll hB2, Nat.le_refl _, Nat.le_refl _, hb1.trans (hB2.mono (by omega))⟩
  | true =>
    rw [hpk] at hPl
    cases hfi : fitsAllI n m ft fu fk fn fs with
    | false =>
      rw [hfi] at hFi
      gi_wp2_with (first | (refine ⟨trivial, ?_⟩; gi_at_call 22; refine (callsIn_wide.2 (hPl _ hb1)).mono ?_; rintro e w2 ⟨rfl, hB2⟩; have hb2 := hb1.trans (hB2.mono (by omega)); have bK2 := Boxed.below' bK hB2) | (refine ⟨trivial, ?_⟩; gi_at_call 23; refine (callsIn_wide.2 (hFi _ hb2)).mono ?_; rintro e w3 ⟨rfl, hB3⟩; have cK3 := (Boxed.below' bK2 hB3).cell))
      have HF : Hid (keyL n fc ft fu fd m fk fn fs = []) := by
        show _ = _
        unfold keyL
        rw [← fitsAllI_ok hpk, hfi, Bool.and_false]; rfl
      refine ⟨_, results_tmp rfl _ _ _, w.heap.size, 0, by rw [HF.out]; rfl, ?_⟩
      rw [HF.out]
      exact ⟨(hR.belowAll hB2).belowAll hB3, Nat.le_refl _, Nat.le_refl _, hb2.trans (hB3.mono hb2.size)⟩
    | true =>
      rw [hfi] at hFi
      gi_wp2_with (first | (refine ⟨trivial, ?_⟩; gi_at_call 22; refine (callsIn_wide.2 (hPl _ hb1)).mono ?_; rintro e w2 ⟨rfl, hB2⟩; have hb2 := hb1.trans (hB2.mono (by omega)); have bK2 := Boxed.below' bK hB2) | (refine ⟨trivial, ?_⟩; gi_at_call 23; refine (callsIn_wide.2 (hFi _ hb2)).mono ?_; rintro e w3 ⟨rfl, hB3⟩) | (refine ⟨trivial, ?_⟩; gi_at_call 61; refine (valsByPart_in _ _ _ _ _ _ _ _).mono ?_; rintro e w' ⟨rfl, rfl⟩))
      have hfa := hfi
      rw [fitsAllI_ok hpk] at hfa
      obtain ⟨hmn, hfit⟩ := fitsAll_iff.1 hfa
      obtain ⟨hpo, hn6⟩ := planOk_iff.1 hpk
      have HF : Hid (keyL n fc ft fu fd m fk fn fs = keyT (onePL fc ft fu fd fk fn fs) m) := by
        show _ = _
        unfold keyL
        rw [hpk, hfa]; rfl
      have bK3 := Boxed.below' bK2 hB3
      have hR3 := (hR.belowAll hB2).belowAll hB3
      have hb3 := hb2.trans (hB3.mono hb2.size)
      have hs3 : w.heap.size + 2 ≤ w3.heap.size := by have h1 := hB2.size; have h2 := hB3.size; omega
      clear hR bK2 bK hB3 hB2 hb1 hsz hPl hFi hfi hpk hb2
      have hb4 : Below w3.heap.size w3 ((w3.alloc (.cells #[.slice a n cap] 38)).alloc (.cells #[.slice a2 m c2] 39)) := ((Below.refl _ _).alloc (Nat.le_refl _) _).alloc (by simp) _
      have bL := (Boxed.new w3 38 (.slice a n cap)).alloc (.cells #[.slice a2 m c2] 39)
      have bV := Boxed.new (w3.alloc (.cells #[.slice a n cap] 38)) 39 (.slice a2 m c2)
      have hsz : ((w3.alloc (.cells #[.slice a n cap] 38)).alloc (.cells #[.slice a2 m c2] 39)).heap.size = w3.heap.size + 2 := by simp
      simp only [World.size_alloc] at bV ⊢
      obtain ⟨W0, hW0⟩ : ∃ W0, (w3.alloc (.cells #[.slice a n cap] 38)).alloc (.cells #[.slice a2 m c2] 39) = W0 := ⟨_, rfl⟩
      rw [hW0] at bL bV hb4 hsz ⊢
      clear hW0
      have bK0 := Boxed.below' bK3 hb4
      have hR0 := hR3.belowAll hb4
      have hB0 : Below w.heap.size w W0 := hb3.trans (hb4.mono (by omega))
      obtain ⟨Bl, hBl⟩ : ∃ Bl, w3.heap.size = Bl := ⟨_, rfl⟩
      rw [hBl] at bL bV hs3 hsz ⊢
      clear bK3 hR3 hb3 hb4 hBl
      refine wpIn_rangeFunc_ownH rfl (by decide) (gf := 96) (lb := #[.pointer (some ⟨Bl, 0, none⟩), .pointer (some ⟨Bl + 1, 0, none⟩)]) rfl trivial (enters_of Try.func96 (by kernel_rfl) rfl)
        (byPart_stops (6 - 1) (by decide) Bl (Bl + 1) a n cap fc ft fu fd a2 m c2 fk fn fs w hp hq hn hm W0 hB0 bL bV) (fun h k => KpB.trans h k) (KpB.put (by omega) (by omega) (by omega)) (Below.refl _ _) (fun _ => rfl)
        (fun pre W => (∃ g cg, Boxed W (w.heap.size + 1) 22 (.slice (some ⟨g, 0, none⟩) (keyP (onePL fc ft fu fd fk fn fs) pre).length cg) ∧ EncTo w W g cg (keyP (onePL fc ft fu fd fk fn fs) pre)) ∧ KpB w.heap.size Bl (Bl + 1) W0 W)
        (fun c pre W => False)
        (OwnFrom.and (fun s X Y row hs hg hr => by obtain ⟨g, cg, h1, h2⟩ := hs; exact ⟨g, cg, Boxed.ownK h1 hg (fun r e => (hr r e).2), h2.ownK hg (fun r e => ⟨by have := (hr r e).1; omega, (hr r e).2⟩)⟩) (ownFrom_kpB (by omega) (by omega) (by omega) (Nat.le_refl _)))
        (fun c s X Y row hs hg hr => hs)
        ⟨⟨w.heap.size, 0, bK0, ⟨hR0, Nat.le_refl _, Nat.le_refl _, hB0⟩⟩, KpB.refl _ _ _ _⟩
        (fun x a' W => ∃ Bp Bq, (PBox W Bp (fc x.1) (ft x.1) (fu x.1) (fd x.1) ∧ Box W Bq (fk x.1) (fn x.1) (fs x.1)) ∧ a' = { tmps := #[.slice a n cap, .slice a2 m c2, undef, undef, .slice none 0 0, .pointer (some ⟨w.heap.size + 1, 0, none⟩), .pointer (some ⟨Bp, 0, none⟩), .pointer (some ⟨Bq, 0, none⟩), .slice (some ⟨w.heap.size, 0, none⟩) 0 0, .slice a n cap, .bool true, .bool false, .bool false, .slice a n cap, .slice a2 m c2, .bool true, .bool false, .bool false, undef, .slice a n cap, .slice a2 m c2, .func (.func 96) #[] #[.pointer (some ⟨Bl, 0, none⟩), .pointer (some ⟨Bl + 1, 0, none⟩)], encP fc ft fu fd x.1, encV fk fn fs x.1, undef, undef, undef, undef, undef], defers := [] })
        (fun x a' _ X Y row hs hg hr => by obtain ⟨Bp, Bq, ⟨h1, h2⟩, h3⟩ := hs; exact ⟨Bp, Bq, ⟨h1.ownK hg (fun r e => (hr r e).2), h2.ownK hg (fun r e => (hr r e).2)⟩, h3⟩)
        ?assign ?body ?done ?stop
      case assign =>
        rintro l pre x W K ⟨⟨g, cg, bK1, hE⟩, hk⟩ hK
        gi_wp2
        have hb1 : Below W.heap.size W ((W.alloc (.cells #[.int .i64 (fc x.1), .int .i64 (ft x.1), .bool (fu x.1), .bool (fd x.1)] 25)).alloc (.cells #[.int .i64 (fk x.1), .int .i64 (fn x.1), .string (fs x.1)] 29)) := ((Below.refl _ _).alloc (Nat.le_refl _) _).alloc (by simp) _
        have hs1 := hk.below.size
        have hkk := KpB.ofBelow (n₀ := w.heap.size) (Bl := Bl) (Bv := Bl + 1) hb1 (by omega) (by omega) (by omega)
        refine hK _ _ (KeepsFrom.ofBelow hb1) hkk ⟨⟨g, cg, Boxed.below' bK1 hb1, hE.belowAll hb1⟩, hk.trans hkk⟩ ⟨W.heap.size, W.heap.size + 1, ⟨(PBox.new W _ _ _ _).below ((Below.refl _ _).alloc (Nat.le_refl _) _), by have := Box.new (W.alloc (.cells #[.int .i64 (fc x.1), .int .i64 (ft x.1), .bool (fu x.1), .bool (fd x.1)] 25)) (fk x.1) (fn x.1) (fs x.1); rw [World.size_alloc] at this; exact this⟩, ?_⟩
        simp
      case body =>
        rintro l pre x a' W hl ⟨r, hr⟩ ⟨⟨g, cg, bK1, hE⟩, hk⟩ ⟨Bp, Bq, ⟨hP, hQ⟩, rfl⟩ hlt
        obtain ⟨p0, p1, p2, p3⟩ := hP.cells
        obtain ⟨q0, q1, q2⟩ := hQ.cells
        have hs1 := hk.below.size
        have hLn : (keyP (onePL fc ft fu fd fk fn fs) pre).length ≤ 10000000 := by
          have h1 := keyP_len (K := min n m) (g := onePL fc ft fu fd fk fn fs) (fun i hi => onePL_len fc fd (hfit i (by omega))) pre
          omega
        have hLb := keyP_byte (g := onePL fc ft fu fd fk fn fs) (fun i => putPL_byte _ _ _ _ _ _ _) pre
        have HS := keyP_snoc (onePL fc ft fu fd fk fn fs) pre x
        obtain ⟨L, hL⟩ : ∃ L, keyP (onePL fc ft fu fd fk fn fs) pre = L := ⟨_, rfl⟩
        rw [hL] at bK1 hE hLn hLb HS
        clear hL
        have hvw : View W (some ⟨g, 0, none⟩) L.length cg (fun i => L.getD i 0) := hE.row.view hE.le (fun i hi => by
          have e : L.getD i 0 = L[i] := by simp [List.getD, List.getElem?_eq_getElem hi]
          show 0 ≤ L.getD i 0 ∧ L.getD i 0 ≤ 255
          rw [e]; exact hLb _ (List.getElem_mem hi))
        have hC := putPart_impl g 0 L.length cg (fun i => L.getD i 0) (fc x.1) (ft x.1) (fu x.1) (fd x.1) (fk x.1) (fn x.1) (fs x.1) W hvw hLn
        have cK := bK1.cell
        have hBK : w.heap.size + 1 < W.heap.size := bK1.lt
        obtain ⟨l2, hl2⟩ : ∃ l2, onePL fc ft fu fd fk fn fs x.1 = l2 := ⟨_, rfl⟩
        have hl2' : putPL (fc x.1) (ft x.1) (fu x.1) (fd x.1) (fk x.1) (fn x.1) (fs x.1) = l2 := hl2
        rw [hl2'] at hC
        rw [hl2] at HS
        have HH : Hid (keyP (onePL fc ft fu fd fk fn fs) (pre ++ [x]) = L ++ l2) := HS
        clear hP hQ hr HS hl2 hl2' hLb hvw
        gi_wp2_with (refine ⟨trivial, ?_⟩; gi_at_call 17; refine (CallsIn.inRound l (callsIn_wide.2 hC)).mono ?_; rintro e w2 ⟨g2, cg2, rfl, hg2, hc2, hr2, hB2⟩; have cK2 := (Boxed.below' bK1 hB2).cell; have fK2 := (Boxed.below' bK1 hB2).frozen)
        have bK2 := Boxed.below' bK1 hB2
        have hs2 := hB2.size
        have hkk : KpB w.heap.size Bl (Bl + 1) W (w2.setCell ⟨w.heap.size + 1, 0, none⟩ (.slice (some ⟨g2, 0, none⟩) (L.length + l2.length) cg2)) :=
          (KpB.ofBelow hB2 (by omega) (by omega) (by omega)).trans (KpB.ofGrown (grownBy_setCell' w2 (w.heap.size + 1) _) (by omega) (by omega) (by omega) (fun k e => by cases e; omega))
        have hr3 := hr2.of_block (w' := w2.setCell ⟨w.heap.size + 1, 0, none⟩ (.slice (some ⟨g2, 0, none⟩) (L.length + l2.length) cg2)) (Below.heap_setCell _ _ _ _ (by show g2 ≠ w.heap.size + 1; omega))
        rw [lof_self] at hr3
        refine ⟨(KeepsFrom.ofBelow hB2).trans ((KeepsOthers.setCell _ _ _).from _), hkk, ⟨g2, cg2, ?_, ?_⟩, hk.trans hkk⟩
        · rw [HH.out, List.length_append]; exact Boxed.set _ bK2
        · rw [HH.out]
          refine ⟨by rw [List.length_append]; exact hr3, by omega, by rw [List.length_append]; exact hc2, ?_⟩
          exact hE.below.trans hkk.below
      case done =>
        rintro D ys W hD rfl ⟨⟨g, cg, bK1, hE⟩, hk⟩ hK
        rw [keyP_all, Nat.min_eq_right hmn] at bK1 hE
        have cK := bK1.cell
        have hk0 := hB0.trans hk.below
        clear hk
        gi_wp2
        refine ⟨by simp, .inl ⟨_, _, rfl, run_takeDeferred hK, ?_⟩⟩
        refine ⟨_, results_tmp rfl _ _ _, g, cg, by rw [HF.out]; rfl, ?_⟩
        rw [HF.out]
        exact hE.ownK (grownBy_putObj' W D _) (fun r e => by cases e; exact ⟨by omega, _, hK, rfl⟩)
      case stop =>
        rintro D c pre W hD hpre h hK
        exact h.elim
end Go.Proofs.Ytclegljalndaeac

/-
  The program's SameVal: whether two values are alike.
-/
namespace Go.Proofs.Ytclegljalndaeac
open Go.RowKit
set_option maxRecDepth 4000

set_option maxHeartbeats 1000000 in
theorem sameVal_impl (k n : Int) (s : ByteArray) (k' n' : Int) (s' : ByteArray) (w : World) :
    Calls Try.prog 64 #[.agg #[.int .i64 k, .int .i64 n, .string s], .agg #[.int .i64 k', .int .i64 n', .string s']] w fun e w' => e = .returned (.bool (eqV k n s k' n' s')) ∧ Below w.heap.size w w' := by
  have q := eqVal_run k n s k' n' s'
  go_enter Try.func64, Try.ntmps64
  go_wp2
  go_ret
  refine ⟨rfl, ?_⟩
  repeat (first | exact Below.refl _ _ | refine Below.alloc ?_ (by simp <;> omega) _ | refine Below.drew ?_)

end Go.Proofs.Ytclegljalndaeac

/-
  The program's LessPart: values as they stand, the other way round where it is asked.
-/
namespace Go.Proofs.Ytclegljalndaeac
open Go.RowKit
set_option maxRecDepth 4000

set_option maxHeartbeats 1000000 in
theorem implLessPart_any (c t : Int) (nul d : Bool) (k n : Int) (s : ByteArray) (k' n' : Int) (s' : ByteArray) (w : World) :
    Calls Try.prog 13 #[.agg #[.int .i64 c, .int .i64 t, .bool nul, .bool d], .agg #[.int .i64 k, .int .i64 n, .string s], .agg #[.int .i64 k', .int .i64 n', .string s']] w fun e w' => e = .returned (.bool (lessP d k n s k' n' s')) ∧ Below w.heap.size w w' := by
  have hb0 : ∀ o o' o'', Below w.heap.size w (((w.alloc o).alloc o').alloc o'') := fun o o' o'' => (((Below.refl _ _).alloc (Nat.le_refl _) _).alloc (by simp) _).alloc (by simp; omega) _
  cases d with
  | true =>
    go_enter Try.func13, Try.ntmps13
    go_wp2_with fail
    refine (lessVal_impl k' n' s' k n s _).mono ?_
    rintro e w1 ⟨rfl, hb1⟩
    have HB : Hid (Below w.heap.size w w1) := (hb0 _ _ _).trans (hb1.mono (by simp; omega))
    clear hb1 hb0
    go_wp2
    go_ret
    exact ⟨rfl, HB.out⟩
  | false =>
    go_enter Try.func13, Try.ntmps13
    go_wp2_with fail
    refine (lessVal_impl k n s k' n' s' _).mono ?_
    rintro e w1 ⟨rfl, hb1⟩
    have HB : Hid (Below w.heap.size w w1) := (hb0 _ _ _).trans (hb1.mono (by simp; omega))
    clear hb1 hb0
    go_wp2
    go_ret
    exact ⟨rfl, HB.out⟩
end Go.Proofs.Ytclegljalndaeac

