/-
  Together: EncImpl, ColsImpl, ColsIter, OwnK, PickImpl, CrcBits, CrcImpl
-/
import Derived.Test.YtkakkjnbhklfpaaGreatDoorPackR9
import Derived.Test.YtkakkjnbhklfpaaGreatDoorPackR10
import Derived.Test.YtkakkjnbhklfpaaGreatDoorPackR13
import Derived.Test.YtkakkjnbhklfpaaGreatDoorPackR1
import Derived.Test.YtkakkjnbhklfpaaGreatDoorShelf
import Derived.Test.YtkakkjnbhklfpaaGreatDoorPackR6
import Derived.Test.YtkakkjnbhklfpaaGreatDoorPackR2
import Derived.Test.YtkakkjnbhklfpaaGreatDoorPackR4
/-
  The program's EncodeKey: the values are put one behind the other.
-/
namespace Go.Proofs.YtkakkjnbhklfpaaGreatDoor
open Go.RowKit
set_option maxRecDepth 4000

attribute [local go_sem] Oper.semAt_some

/-- The bytes of the values that have come. -/
def keyP {K : Nat} (g : Nat → List Int) (pre : List (Fin K)) : List Int := (pre.map (fun x => g x.1)).flatten
theorem keyP_snoc {K : Nat} (g : Nat → List Int) (pre : List (Fin K)) (x : Fin K) : keyP g (pre ++ [x]) = keyP g pre ++ g x.1 := by simp [keyP]
theorem keyP_take (g : Nat → List Int) (K : Nat) : ∀ j, j ≤ K → keyP g ((List.finRange K).take j) = keyT g j
  | 0, _ => by simp [keyP, keyT]
  | j + 1, h => by rw [fin_take (by omega), keyP_snoc, keyP_take g K j (by omega), keyT]
theorem keyP_all (g : Nat → List Int) (K : Nat) : keyP g (List.finRange K) = keyT g K := by
  rw [← keyP_take g K K (Nat.le_refl _), List.take_of_length_le (by simp)]
theorem keyP_len {K : Nat} {g : Nat → List Int} (h : ∀ i, i < K → (g i).length ≤ 69) : ∀ pre : List (Fin K), (keyP g pre).length ≤ pre.length * 69
  | [] => by simp [keyP]
  | x :: pre => by
    have h1 := keyP_len h pre
    have h2 := h x.1 x.2
    have e : keyP g (x :: pre) = g x.1 ++ keyP g pre := by simp [keyP]
    rw [e, List.length_append, List.length_cons]
    omega
theorem keyP_byte {K : Nat} {g : Nat → List Int} (h : ∀ i, ∀ y ∈ g i, 0 ≤ y ∧ y ≤ 255) (pre : List (Fin K)) : ∀ y ∈ keyP g pre, 0 ≤ y ∧ y ≤ 255 := by
  intro y hy
  unfold keyP at hy
  obtain ⟨l, hl, hy⟩ := List.mem_flatten.1 hy
  obtain ⟨x, _, rfl⟩ := List.mem_map.1 hl
  exact h _ y hy

theorem EncTo.belowAll {w W W' : World} {g cg : Nat} {L : List Int} (h : EncTo w W g cg L) (hb : Below W.heap.size W W') : EncTo w W' g cg L := ⟨h.row.belowAll hb, h.new, h.le, h.below.trans (hb.mono h.below.size)⟩
theorem EncTo.ownK {w W W' : World} {g cg : Nat} {L : List Int} {row : Option Nat} (h : EncTo w W g cg L) (hg : W.grownBy W' row) (hr : ∀ r, row = some r → w.heap.size ≤ r ∧ ∃ o : Obj, W.heap[r]? = some o ∧ o.isCells = false) : EncTo w W' g cg L := by
  refine ⟨?_, h.new, h.le, h.below.grown hg h.below.size (fun k e => (hr k e).1)⟩
  obtain ⟨c, hb, _⟩ := h.row
  exact h.row.of_block (grownBy_keeps_cells hg (fun r e => (hr r e).2) hb rfl)

set_option linter.unusedSimpArgs false in
set_option maxRecDepth 100000 in
set_option maxHeartbeats 4000000 in
theorem implEncodeKey_any (a : Option Addr) (n cap : Nat) (fc ft : Nat → Int) (fu fd : Nat → Bool) (a2 : Option Addr) (m c2 : Nat) (fk fn : Nat → Int) (fs : Nat → ByteArray) (w : World) (hp : PView w a n cap fc ft fu fd) (hq : VView w a2 m c2 fk fn fs) (hn : n ≤ 281474976710656) (hm : m ≤ 281474976710656) :
    Calls Tryz.prog 65 #[.slice a n cap, .slice a2 m c2] w fun e w' => ∃ g cg, e = .returned (.slice (some ⟨g, 0, none⟩) (keyL n fc ft fu fd m fk fn fs).length cg) ∧ EncTo w w' g cg (keyL n fc ft fu fd m fk fn fs) := by
  refine (callsIn_wide (n := 6)).1 ?_
  refine callsIn_of_wp_marks Tryz.func65 rfl trivial ?_ rfl
  simp only [Tryz.ntmps65, List.size_toArray, List.length_cons, List.length_nil, Nat.reduceAdd, Nat.reduceSub, Array.replicate_succ, Array.replicate_zero, List.push_toArray, List.append_toArray, List.nil_append, List.cons_append]
  have hPl := fun W (hb : Below w.heap.size w W) => implPlanOk_any a n cap fc ft fu fd W (hp.below hb)
  have hFi := fun W (hb : Below w.heap.size w W) => implFitsAll_any a n cap fc ft fu fd a2 m c2 fk fn fs W (hp.below hb) (hq.below hb) hn hm
  have hb1 : Below w.heap.size w ((w.alloc (.cells #[] 5)).alloc (.cells #[.slice (some ⟨w.heap.size, 0, none⟩) 0 0] 22)) := ((Below.refl _ _).alloc (Nat.le_refl _) _).alloc (by simp) _
  have bK := Boxed.new (w.alloc (.cells #[] 5)) 22 (.slice (some ⟨w.heap.size, 0, none⟩) 0 0)
  have hR := (Row.none w 5 (fun i => ([] : List Int).getD i 0)).belowAll ((Below.refl _ _).alloc (Nat.le_refl _) (.cells #[.slice (some ⟨w.heap.size, 0, none⟩) 0 0] 22))
  simp only [World.size_alloc] at bK
  have hsz : ((w.alloc (.cells #[] 5)).alloc (.cells #[.slice (some ⟨w.heap.size, 0, none⟩) 0 0] 22)).heap.size = w.heap.size + 2 := by simp
  cases hpk : planOk n fc ft with
  | false =>
    rw [hpk] at hPl
    have HF : Hid (keyL n fc ft fu fd m fk fn fs = []) := by show _ = _; unfold keyL; rw [hpk]; rfl
    gi_wp2_with (refine ⟨trivial, ?_⟩; gi_at_call 22; refine (callsIn_wide.2 (hPl _ hb1)).mono ?_; rintro e w2 ⟨rfl, hB2⟩; have cK2 := (Boxed.below' bK hB2).cell)
    refine ⟨trivial, ?_⟩
    gi_wp2
    refine ⟨_, results_tmp rfl _ _ _, w.heap.size, 0, by rw [HF.out]; rfl, ?_⟩
    rw [HF.out]
    exact ⟨hR.belowAll hB2, Nat.le_refl _, Nat.le_refl _, hb1.trans (hB2.mono (by omega))⟩
  | true =>
    rw [hpk] at hPl
    cases hfi : fitsAllI n m ft fu fk fn fs with
    | false =>
      rw [hfi] at hFi
      gi_wp2_with (first | (refine ⟨trivial, ?_⟩; gi_at_call 22; refine (callsIn_wide.2 (hPl _ hb1)).mono ?_; rintro e w2 ⟨rfl, hB2⟩; have hb2 := hb1.trans (hB2.mono (by omega)); have bK2 := Boxed.below' bK hB2) | (refine ⟨trivial, ?_⟩; gi_at_call 104; refine (callsIn_wide.2 (hFi _ hb2)).mono ?_; rintro e w3 ⟨rfl, hB3⟩; have cK3 := (Boxed.below' bK2 hB3).cell))
      have HF : Hid (keyL n fc ft fu fd m fk fn fs = []) := by
        show _ = _
        unfold keyL
        rw [← fitsAllI_ok hpk, hfi, Bool.and_false]; rfl
      refine ⟨_, results_tmp rfl _ _ _, w.heap.size, 0, by rw [HF.out]; rfl, ?_⟩
      rw [HF.out]
      exact ⟨(hR.belowAll hB2).belowAll hB3, Nat.le_refl _, Nat.le_refl _, hb2.trans (hB3.mono hb2.size)⟩
    | true =>
      rw [hfi] at hFi
      gi_wp2_with (first | (refine ⟨trivial, ?_⟩; gi_at_call 22; refine (callsIn_wide.2 (hPl _ hb1)).mono ?_; rintro e w2 ⟨rfl, hB2⟩; have hb2 := hb1.trans (hB2.mono (by omega)); have bK2 := Boxed.below' bK hB2) | (refine ⟨trivial, ?_⟩; gi_at_call 104; refine (callsIn_wide.2 (hFi _ hb2)).mono ?_; rintro e w3 ⟨rfl, hB3⟩) | (refine ⟨trivial, ?_⟩; gi_at_call 105; refine (valsByPart_in _ _ _ _ _ _ _ _).mono ?_; rintro e w' ⟨rfl, rfl⟩))
      have hfa := hfi
      rw [fitsAllI_ok hpk] at hfa
      obtain ⟨hmn, hfit⟩ := fitsAll_iff.1 hfa
      obtain ⟨hpo, hn6⟩ := planOk_iff.1 hpk
      have HF : Hid (keyL n fc ft fu fd m fk fn fs = keyT (onePL fc ft fu fd fk fn fs) m) := by
        show _ = _
        unfold keyL
        rw [hpk, hfa]; rfl
      have bK3 := Boxed.below' bK2 hB3
      have hR3 := (hR.belowAll hB2).belowAll hB3
      have hb3 := hb2.trans (hB3.mono hb2.size)
      have hs3 : w.heap.size + 2 ≤ w3.heap.size := by have h1 := hB2.size; have h2 := hB3.size; omega
      clear hR bK2 bK hB3 hB2 hb1 hsz hPl hFi hfi hpk hb2
      have hb4 : Below w3.heap.size w3 ((w3.alloc (.cells #[.slice a n cap] 30)).alloc (.cells #[.slice a2 m c2] 25)) := ((Below.refl _ _).alloc (Nat.le_refl _) _).alloc (by simp) _
      have bL := (Boxed.new w3 30 (.slice a n cap)).alloc (.cells #[.slice a2 m c2] 25)
      have bV := Boxed.new (w3.alloc (.cells #[.slice a n cap] 30)) 25 (.slice a2 m c2)
      have hsz : ((w3.alloc (.cells #[.slice a n cap] 30)).alloc (.cells #[.slice a2 m c2] 25)).heap.size = w3.heap.size + 2 := by simp
      simp only [World.size_alloc] at bV ⊢
      obtain ⟨W0, hW0⟩ : ∃ W0, (w3.alloc (.cells #[.slice a n cap] 30)).alloc (.cells #[.slice a2 m c2] 25) = W0 := ⟨_, rfl⟩
      rw [hW0] at bL bV hb4 hsz ⊢
      clear hW0
      have bK0 := Boxed.below' bK3 hb4
      have hR0 := hR3.belowAll hb4
      have hB0 : Below w.heap.size w W0 := hb3.trans (hb4.mono (by omega))
      obtain ⟨Bl, hBl⟩ : ∃ Bl, w3.heap.size = Bl := ⟨_, rfl⟩
      rw [hBl] at bL bV hs3 hsz ⊢
      clear bK3 hR3 hb3 hb4 hBl
      refine wpIn_rangeFunc_ownH rfl (by decide) (gf := 138) (lb := #[.pointer (some ⟨Bl, 0, none⟩), .pointer (some ⟨Bl + 1, 0, none⟩)]) rfl trivial (enters_of Tryz.func138 (by kernel_rfl) rfl)
        (byPart_stops (6 - 1) (by decide) Bl (Bl + 1) a n cap fc ft fu fd a2 m c2 fk fn fs w hp hq hn hm W0 hB0 bL bV) (fun h k => KpB.trans h k) (KpB.put (by omega) (by omega) (by omega)) (Below.refl _ _) (fun _ => rfl)
        (fun pre W => (∃ g cg, Boxed W (w.heap.size + 1) 22 (.slice (some ⟨g, 0, none⟩) (keyP (onePL fc ft fu fd fk fn fs) pre).length cg) ∧ EncTo w W g cg (keyP (onePL fc ft fu fd fk fn fs) pre)) ∧ KpB w.heap.size Bl (Bl + 1) W0 W)
        (fun c pre W => False)
        (OwnFrom.and (fun s X Y row hs hg hr => by obtain ⟨g, cg, h1, h2⟩ := hs; exact ⟨g, cg, Boxed.ownK h1 hg (fun r e => (hr r e).2), h2.ownK hg (fun r e => ⟨by have := (hr r e).1; omega, (hr r e).2⟩)⟩) (ownFrom_kpB (by omega) (by omega) (by omega) (Nat.le_refl _)))
        (fun c s X Y row hs hg hr => hs)
        ⟨⟨w.heap.size, 0, bK0, ⟨hR0, Nat.le_refl _, Nat.le_refl _, hB0⟩⟩, KpB.refl _ _ _ _⟩
        (fun x a' W => ∃ Bp Bq, (PBox W Bp (fc x.1) (ft x.1) (fu x.1) (fd x.1) ∧ Box W Bq (fk x.1) (fn x.1) (fs x.1)) ∧ a' = { tmps := #[.slice a n cap, .slice a2 m c2, undef, undef, .slice none 0 0, .pointer (some ⟨w.heap.size + 1, 0, none⟩), .pointer (some ⟨Bp, 0, none⟩), .pointer (some ⟨Bq, 0, none⟩), .slice (some ⟨w.heap.size, 0, none⟩) 0 0, .slice a n cap, .bool true, .bool false, .bool false, .slice a n cap, .slice a2 m c2, .bool true, .bool false, .bool false, undef, .slice a n cap, .slice a2 m c2, .func (.func 138) #[] #[.pointer (some ⟨Bl, 0, none⟩), .pointer (some ⟨Bl + 1, 0, none⟩)], encP fc ft fu fd x.1, encV fk fn fs x.1, undef, undef, undef, undef, undef], defers := [] })
        (fun x a' _ X Y row hs hg hr => by obtain ⟨Bp, Bq, ⟨h1, h2⟩, h3⟩ := hs; exact ⟨Bp, Bq, ⟨h1.ownK hg (fun r e => (hr r e).2), h2.ownK hg (fun r e => (hr r e).2)⟩, h3⟩)
        ?assign ?body ?done ?stop
      case assign =>
        rintro l pre x W K ⟨⟨g, cg, bK1, hE⟩, hk⟩ hK
        gi_wp2
        have hb1 : Below W.heap.size W ((W.alloc (.cells #[.int .i64 (fc x.1), .int .i64 (ft x.1), .bool (fu x.1), .bool (fd x.1)] 50)).alloc (.cells #[.int .i64 (fk x.1), .int .i64 (fn x.1), .string (fs x.1)] 58)) := ((Below.refl _ _).alloc (Nat.le_refl _) _).alloc (by simp) _
        have hs1 := hk.below.size
        have hkk := KpB.ofBelow (n₀ := w.heap.size) (Bl := Bl) (Bv := Bl + 1) hb1 (by omega) (by omega) (by omega)
        refine hK _ _ (KeepsFrom.ofBelow hb1) hkk ⟨⟨g, cg, Boxed.below' bK1 hb1, hE.belowAll hb1⟩, hk.trans hkk⟩ ⟨W.heap.size, W.heap.size + 1, ⟨(PBox.new W _ _ _ _).below ((Below.refl _ _).alloc (Nat.le_refl _) _), by have := Box.new (W.alloc (.cells #[.int .i64 (fc x.1), .int .i64 (ft x.1), .bool (fu x.1), .bool (fd x.1)] 50)) (fk x.1) (fn x.1) (fs x.1); rw [World.size_alloc] at this; exact this⟩, ?_⟩
        simp
      case body =>
        rintro l pre x a' W hl ⟨r, hr⟩ ⟨⟨g, cg, bK1, hE⟩, hk⟩ ⟨Bp, Bq, ⟨hP, hQ⟩, rfl⟩ hlt
        obtain ⟨p0, p1, p2, p3⟩ := hP.cells
        obtain ⟨q0, q1, q2⟩ := hQ.cells
        have hs1 := hk.below.size
        have hLn : (keyP (onePL fc ft fu fd fk fn fs) pre).length ≤ 10000000 := by
          have h1 := keyP_len (K := min n m) (g := onePL fc ft fu fd fk fn fs) (fun i hi => onePL_len fc fd (hfit i (by omega))) pre
          omega
        have hLb := keyP_byte (g := onePL fc ft fu fd fk fn fs) (fun i => putPL_byte _ _ _ _ _ _ _) pre
        have HS := keyP_snoc (onePL fc ft fu fd fk fn fs) pre x
        obtain ⟨L, hL⟩ : ∃ L, keyP (onePL fc ft fu fd fk fn fs) pre = L := ⟨_, rfl⟩
        rw [hL] at bK1 hE hLn hLb HS
        clear hL
        have hvw : View W (some ⟨g, 0, none⟩) L.length cg (fun i => L.getD i 0) := hE.row.view hE.le (fun i hi => by
          have e : L.getD i 0 = L[i] := by simp [List.getD, List.getElem?_eq_getElem hi]
          show 0 ≤ L.getD i 0 ∧ L.getD i 0 ≤ 255
          rw [e]; exact hLb _ (List.getElem_mem hi))
        have hC := putPart_impl g 0 L.length cg (fun i => L.getD i 0) (fc x.1) (ft x.1) (fu x.1) (fd x.1) (fk x.1) (fn x.1) (fs x.1) W hvw hLn
        have cK := bK1.cell
        have hBK : w.heap.size + 1 < W.heap.size := bK1.lt
        obtain ⟨l2, hl2⟩ : ∃ l2, onePL fc ft fu fd fk fn fs x.1 = l2 := ⟨_, rfl⟩
        have hl2' : putPL (fc x.1) (ft x.1) (fu x.1) (fd x.1) (fk x.1) (fn x.1) (fs x.1) = l2 := hl2
        rw [hl2'] at hC
        rw [hl2] at HS
        have HH : Hid (keyP (onePL fc ft fu fd fk fn fs) (pre ++ [x]) = L ++ l2) := HS
        clear hP hQ hr HS hl2 hl2' hLb hvw
        gi_wp2_with (refine ⟨trivial, ?_⟩; gi_at_call 106; refine (CallsIn.inRound l (callsIn_wide.2 hC)).mono ?_; rintro e w2 ⟨g2, cg2, rfl, hg2, hc2, hr2, hB2⟩; have cK2 := (Boxed.below' bK1 hB2).cell; have fK2 := (Boxed.below' bK1 hB2).frozen)
        have bK2 := Boxed.below' bK1 hB2
        have hs2 := hB2.size
        have hkk : KpB w.heap.size Bl (Bl + 1) W (w2.setCell ⟨w.heap.size + 1, 0, none⟩ (.slice (some ⟨g2, 0, none⟩) (L.length + l2.length) cg2)) :=
          (KpB.ofBelow hB2 (by omega) (by omega) (by omega)).trans (KpB.ofGrown (grownBy_setCell' w2 (w.heap.size + 1) _) (by omega) (by omega) (by omega) (fun k e => by cases e; omega))
        have hr3 := hr2.of_block (w' := w2.setCell ⟨w.heap.size + 1, 0, none⟩ (.slice (some ⟨g2, 0, none⟩) (L.length + l2.length) cg2)) (Below.heap_setCell _ _ _ _ (by show g2 ≠ w.heap.size + 1; omega))
        rw [lof_self] at hr3
        refine ⟨(KeepsFrom.ofBelow hB2).trans ((KeepsOthers.setCell _ _ _).from _), hkk, ⟨g2, cg2, ?_, ?_⟩, hk.trans hkk⟩
        · rw [HH.out, List.length_append]; exact Boxed.set _ bK2
        · rw [HH.out]
          refine ⟨by rw [List.length_append]; exact hr3, by omega, by rw [List.length_append]; exact hc2, ?_⟩
          exact hE.below.trans hkk.below
      case done =>
        rintro D ys W hD rfl ⟨⟨g, cg, bK1, hE⟩, hk⟩ hK
        rw [keyP_all, Nat.min_eq_right hmn] at bK1 hE
        have cK := bK1.cell
        have hk0 := hB0.trans hk.below
        clear hk
        gi_wp2
        refine ⟨by simp, .inl ⟨_, _, rfl, run_takeDeferred hK, ?_⟩⟩
        refine ⟨_, results_tmp rfl _ _ _, g, cg, by rw [HF.out]; rfl, ?_⟩
        rw [HF.out]
        exact hE.ownK (grownBy_putObj' W D _) (fun r e => by cases e; exact ⟨by omega, _, hK, rfl⟩)
      case stop =>
        rintro D c pre W hD hpre h hK
        exact h.elim
end Go.Proofs.YtkakkjnbhklfpaaGreatDoor

/-
  The program's columnOf: a value of its own, out of a row.
-/
namespace Go.Proofs.YtkakkjnbhklfpaaGreatDoor
open Go.RowKit
set_option maxRecDepth 4000

theorem strClone_any (s : ByteArray) (w : World) (hs : s.size ≤ 281474976710656) :
    Calls Tryz.prog 88 #[.string s] w fun e w' => e = .returned (.string s) ∧ Below w.heap.size w w' := by
  go_enter Tryz.func88, Tryz.ntmps88
  go_wp2_with (go_at_call 123; refine (Tryz.stringslite_Clone s _ hs).mono ?_; rintro e w2 ⟨rfl, hB⟩)
  go_ret
  exact ⟨rfl, hB⟩

set_option maxHeartbeats 2000000 in
theorem columnOf_any (a2 : Option Addr) (m c2 : Nat) (fk fn : Nat → Int) (fs : Nat → ByteArray) (c : Int) (w : World) (hq : VView w a2 m c2 fk fn fs) (hm : m ≤ 281474976710656) (hs : ∀ i, i < m → (fs i).size ≤ 281474976710656) :
    Calls Tryz.prog 59 #[.slice a2 m c2, .int .i64 c] w fun e w' => e = .returned (.agg #[.int .i64 (if 0 ≤ c ∧ c < m then fk c.toNat else 0), .int .i64 (if 0 ≤ c ∧ c < m then fn c.toNat else 0), .string (if 0 ≤ c ∧ c < m then fs c.toNat else ⟨#[]⟩)]) ∧ Below w.heap.size w w' := by
  by_cases h0 : c < 0
  · have hc : ¬ (0 ≤ c ∧ c < m) := by omega
    rw [if_neg hc, if_neg hc, if_neg hc]
    clear hc
    go_enter Tryz.func59, Tryz.ntmps59
    go_wp2
    exact bodyPost_ret (v := .agg #[_, _, _]) (by simp [results, Tryz.results59, go_sem]) rfl ⟨rfl, (Below.refl _ _).alloc (Nat.le_refl _) _⟩
  · by_cases h1 : c < m
    · obtain ⟨j, rfl⟩ : ∃ j : Nat, c = j := ⟨c.toNat, by omega⟩
      have hjm : j < m := by omega
      rw [if_pos (by omega), if_pos (by omega), if_pos (by omega)]
      obtain ⟨b2, o2, rfl, hb2, hd2⟩ := hq.cells (by omega)
      obtain ⟨y0, y1, y2⟩ := hd2 j hjm
      have hsz := hs j hjm
      simp only [Int.toNat_natCast]
      obtain ⟨q0, hq0⟩ : ∃ p, fk j = p := ⟨_, rfl⟩
      obtain ⟨q1, hq1⟩ : ∃ p, fn j = p := ⟨_, rfl⟩
      obtain ⟨q2, hq2⟩ : ∃ p, fs j = p := ⟨_, rfl⟩
      rw [hq0] at y0 ⊢
      rw [hq1] at y1 ⊢
      rw [hq2] at y2 hsz ⊢
      clear hd2 hq hs hq0 hq1 hq2
      have hR := (Box.new w 0 0 ⟨#[]⟩).below ((Below.refl _ _).alloc (Nat.le_refl _) (.cells #[.int .i64 q0, .int .i64 q1, .string q2] 58))
      have hV := Box.new (w.alloc (.cells #[.int .i64 0, .int .i64 0, .string ⟨#[]⟩] 58)) q0 q1 q2
      have hb0 : Below w.heap.size w ((w.alloc (.cells #[.int .i64 0, .int .i64 0, .string ⟨#[]⟩] 58)).alloc (.cells #[.int .i64 q0, .int .i64 q1, .string q2] 58)) := ((Below.refl _ _).alloc (Nat.le_refl _) _).alloc (by simp) _
      rw [World.size_alloc] at hV
      go_enter Tryz.func59, Tryz.ntmps59
      go_wp2_with (go_at_call 88; refine (strClone_any _ _ hsz).mono ?_; rintro e w2 ⟨rfl, hB⟩; have hR2 := hR.below hB; have hV2 := hV.below hB; obtain ⟨c0, c1, c3⟩ := hR2.cells; obtain ⟨f0, f1, f2⟩ := hR2.frozen; obtain ⟨d0, d1, d2⟩ := hV2.cells; obtain ⟨e0, e1, e2⟩ := hV2.frozen)
      have hR3 := hR2.other (D := w.heap.size + 1) (i := 2) (by omega) (.string q2)
      obtain ⟨g0, g1, g2⟩ := hR3.cells
      have hgs := stored3 (.int .i64 q0) (.int .i64 q1) (.string q2) g0 g1 g2
      have hb1 : Below w.heap.size w w2 := hb0.trans (hB.mono (by simp; omega))
      exact bodyPost_ret (v := .agg #[_, _, _]) (by simp [results, Tryz.results59, go_sem, hgs]) rfl ⟨rfl, (((hb1.setCell (p := ⟨w.heap.size + 1, 2, none⟩) (by simp) _).setCell (p := ⟨w.heap.size, 0, none⟩) (Nat.le_refl _) _).setCell (p := ⟨w.heap.size, 1, none⟩) (Nat.le_refl _) _).setCell (p := ⟨w.heap.size, 2, none⟩) (Nat.le_refl _) _⟩
    · have hc : ¬ (0 ≤ c ∧ c < m) := by omega
      have h1z : c ≥ m := by omega
      rw [if_neg hc, if_neg hc, if_neg hc]
      clear hc
      go_enter Tryz.func59, Tryz.ntmps59
      go_wp2
      exact bodyPost_ret (v := .agg #[_, _, _]) (by simp [results, Tryz.results59, go_sem]) rfl ⟨rfl, (Below.refl _ _).alloc (Nat.le_refl _) _⟩
end Go.Proofs.YtkakkjnbhklfpaaGreatDoor

/-
  The program's valsOfColumns: of each part the value of its column.
-/
namespace Go.Proofs.YtkakkjnbhklfpaaGreatDoor
open Go.RowKit
set_option maxRecDepth 4000

attribute [local go_sem] Oper.semAt_some

/-- A value, as it is yielded. -/
abbrev encT (x : Int × Int × ByteArray) : Array Value := #[.agg #[.int .i64 x.1, .int .i64 x.2.1, .string x.2.2]]
/-- The values of the columns of the first j parts. -/
def colU (fc : Nat → Int) (m : Nat) (fk fn : Nat → Int) (fs : Nat → ByteArray) (j : Nat) : List (Int × Int × ByteArray) := (List.range j).map (fun i => (pickK fc m fk i, pickK fc m fn i, pickS fc m fs i))
theorem colU_succ (fc : Nat → Int) (m : Nat) (fk fn : Nat → Int) (fs : Nat → ByteArray) (j : Nat) : colU fc m fk fn fs (j + 1) = colU fc m fk fn fs j ++ [(pickK fc m fk j, pickK fc m fn j, pickS fc m fs j)] := by simp [colU, List.range_succ]
theorem colU_len (fc : Nat → Int) (m : Nat) (fk fn : Nat → Int) (fs : Nat → ByteArray) (j : Nat) : (colU fc m fk fn fs j).length = j := by simp [colU]

set_option linter.unusedSimpArgs false in
set_option maxRecDepth 100000 in
set_option maxHeartbeats 4000000 in
theorem ofCols1_in (NN : Nat) (hNN : 1 ≤ NN) (l Bl Bv : Nat) (a : Option Addr) (n cap : Nat) (fc ft : Nat → Int) (fu fd : Nat → Bool) (a2 : Option Addr) (m c2 : Nat) (fk fn : Nat → Int) (fs : Nat → ByteArray) (w : World) (hp : PView w a n cap fc ft fu fd) (hq : VView w a2 m c2 fk fn fs) (hn : n ≤ 281474976710656) (hm : m ≤ 281474976710656) (hs : ∀ i, i < m → (fs i).size ≤ 281474976710656)
    (J Jx : List (Int × Int × ByteArray) → World → Prop) (W : World) (hJ : AbidesFrom W.heap.size J)
    (hY : ∀ pre x W1, J pre W1 → pre.length < n → YieldAt Fence.wide (NN - 1) Tryz.prog l (encT x) W1 fun e W' =>
      (e = .returned (.bool true) ∧ J (pre ++ [x]) W' ∧ KpB w.heap.size Bl Bv W1 W') ∨ (e = .returned (.bool false) ∧ Jx (pre ++ [x]) W'))
    (hb : Below w.heap.size w W) (hl : Boxed W Bl 30 (.slice a n cap)) (hv : Boxed W Bv 25 (.slice a2 m c2)) (h0 : J [] W) :
    CallsIn Fence.wide NN Tryz.prog 58 #[.func (.yield l) #[] #[], .pointer (some ⟨Bl, 0, none⟩), .pointer (some ⟨Bv, 0, none⟩)] W fun e W' => (∃ v, e = .returned v) ∧
      ((∃ xs, xs = colU fc m fk fn fs n ∧ J xs W') ∨ (∃ pre, True ∧ Jx pre W')) := by
  refine callsIn_of_wp Tryz.func58 rfl trivial ?_ rfl
  simp only [Tryz.ntmps58, List.size_toArray, List.length_cons, List.length_nil, Nat.reduceAdd, Nat.reduceSub, Array.replicate_succ, Array.replicate_zero, List.push_toArray, List.append_toArray, List.nil_append, List.cons_append]
  have cl := hl.cell
  gi_wp2
  gi_loopw [8] (fun i wr => ∃ (j : Nat), j ≤ n ∧ i = .int .i64 j ∧ J (colU fc m fk fn fs j) wr ∧ KpB w.heap.size Bl Bv W wr) (fun i _ => n - (intOf i).toNat)
  case atStart => exact ⟨0, Nat.zero_le _, rfl, h0, KpB.refl _ _ _ _⟩
  case round =>
    obtain ⟨j, hj, rfl, hJs, hk⟩ := hrel
    by_cases hlt : j < n
    · have hbw : Below w.heap.size w wr := hb.trans hk.below
      obtain ⟨b1, o1, rfl, hb1, hd1⟩ := (hp.below hbw).cells (by omega)
      obtain ⟨x0, x1, x2, x3⟩ := hd1 j (by omega)
      have bv' := Boxed.kpv hv hk
      have bl' := Boxed.kpl hl hk
      have hjz : (j : Int) < (n : Int) := by omega
      have hws := hbw.size
      have cv' := bv'.cell
      have cv1 := ((bv'.alloc (.cells #[.int .i64 (fc j), .int .i64 (ft j), .bool (fu j), .bool (fd j)] 50))).cell
      have hba : Below wr.heap.size wr (wr.alloc (.cells #[.int .i64 (fc j), .int .i64 (ft j), .bool (fu j), .bool (fd j)] 50)) := (Below.refl _ _).alloc (Nat.le_refl _) _
      have hbb := hbw.trans (hba.mono hws)
      have hC : Calls Tryz.prog 59 #[.slice a2 m c2, .int .i64 (fc j)] (wr.alloc (.cells #[.int .i64 (fc j), .int .i64 (ft j), .bool (fu j), .bool (fd j)] 50)) fun e w' => e = .returned (.agg #[.int .i64 (pickK fc m fk j), .int .i64 (pickK fc m fn j), .string (pickS fc m fs j)]) ∧ Below (wr.alloc (.cells #[.int .i64 (fc j), .int .i64 (ft j), .bool (fu j), .bool (fd j)] 50)).heap.size (wr.alloc (.cells #[.int .i64 (fc j), .int .i64 (ft j), .bool (fu j), .bool (fd j)] 50)) w' := columnOf_any a2 m c2 fk fn fs (fc j) _ (hq.below hbb) hm hs
      have hUl := colU_len fc m fk fn fs j
      have hU : colU fc m fk fn fs (j + 1) = colU fc m fk fn fs j ++ [(pickK fc m fk j, pickK fc m fn j, pickS fc m fs j)] := colU_succ fc m fk fn fs j
      obtain ⟨q0, hq0⟩ : ∃ q, pickK fc m fk j = q := ⟨_, rfl⟩
      obtain ⟨q1, hq1⟩ : ∃ q, pickK fc m fn j = q := ⟨_, rfl⟩
      obtain ⟨q2, hq2⟩ : ∃ q, pickS fc m fs j = q := ⟨_, rfl⟩
      obtain ⟨U, hUU⟩ : ∃ U, colU fc m fk fn fs j = U := ⟨_, rfl⟩
      rw [hq0, hq1, hq2] at hC hU
      rw [hUU] at hU hUl hJs
      have HU : Hid (colU fc m fk fn fs (j + 1) = U ++ [(q0, q1, q2)]) := hU
      clear hd1 cl hU hUU hq0 hq1 hq2
      gi_wp2_with (refine ⟨trivial, ?_⟩; gi_at_call 59; refine (callsIn_wide.2 hC).mono ?_; rintro e w2 ⟨rfl, hB2⟩; have hB3 : Below wr.heap.size wr w2 := hba.trans (hB2.mono hba.size); obtain ⟨fn', tmps, assign, body, hy, hR⟩ := hY U (q0, q1, q2) w2 (AbidesFrom.step hJ hJs (grownBy_below' hB3)) (by omega); dsimp only [encT] at hy)
      refine hR.mono ?_
      rintro e W3 (⟨rfl, hJ3, hk3⟩ | ⟨rfl, hJx3⟩)
      · clear hy hR hC cv1 cv' hba hbb x0 x1 x2 x3
        gi_wp2
        go_roundw
        case rel => exact ⟨j + 1, by omega, by go_num, by rw [HU.out]; exact hJ3, hk.trans ((KpB.ofBelow hB3 hws bl'.lt bv'.lt).trans hk3)⟩
        case measure => simp [intOf]; omega
      · clear hy hR hC cv1 cv' hba hbb x0 x1 x2 x3
        gi_wp2
        refine bodyPost_ret (results_none rfl _ _ _) rfl ?_
        exact ⟨⟨_, rfl⟩, .inr ⟨_, trivial, hJx3⟩⟩
    · have hjz : ¬ (j : Int) < (n : Int) := by omega
      obtain rfl : j = n := by omega
      gi_wp2
      go_end0
      first
        | exact ⟨⟨_, rfl⟩, .inl hJs⟩
        | exact ⟨⟨_, rfl⟩, .inl ⟨_, rfl, hJs⟩⟩

theorem ofCols_stops (NN : Nat) (hNN : 1 ≤ NN) (Bl Bv : Nat) (a : Option Addr) (n cap : Nat) (fc ft : Nat → Int) (fu fd : Nat → Bool) (a2 : Option Addr) (m c2 : Nat) (fk fn : Nat → Int) (fs : Nat → ByteArray) (w : World) (hp : PView w a n cap fc ft fu fd) (hq : VView w a2 m c2 fk fn fs) (hn : n ≤ 281474976710656) (hm : m ≤ 281474976710656) (hs : ∀ i, i < m → (fs i).size ≤ 281474976710656)
    (W0 : World) (hb : Below w.heap.size w W0) (hl : Boxed W0 Bl 30 (.slice a n cap)) (hv : Boxed W0 Bv 25 (.slice a2 m c2)) :
    SeqStopsK Fence.wide NN Tryz.prog 58 #[.pointer (some ⟨Bl, 0, none⟩), .pointer (some ⟨Bv, 0, none⟩)] encT (KpB w.heap.size Bl Bv) (fun xs => xs = colU fc m fk fn fs n) (fun _ => True) n W0 :=
  fun l J Jx W hW hJ _ hY h0 => ofCols1_in NN hNN l Bl Bv a n cap fc ft fu fd a2 m c2 fk fn fs w hp hq hn hm hs J Jx W hJ hY (hb.trans (hW.mono hb.size)) (Boxed.below' hl hW) (Boxed.below' hv hW) h0

set_option maxHeartbeats 1000000 in
/-- valsOfColumns boxes its two arguments. -/
theorem valsOfColumns_in (NN : Nat) (a : Option Addr) (n cap : Nat) (a2 : Option Addr) (m c2 : Nat) (w : World) :
    CallsIn Fence.wide NN Tryz.prog 30 #[.slice a n cap, .slice a2 m c2] w fun e w' => e = .returned (.func (.func 58) #[] #[.pointer (some ⟨w.heap.size, 0, none⟩), .pointer (some ⟨w.heap.size + 1, 0, none⟩)]) ∧ w' = (w.alloc (.cells #[.slice a n cap] 30)).alloc (.cells #[.slice a2 m c2] 25) := by
  refine callsIn_of_wp Tryz.func30 rfl trivial ?_ rfl
  simp only [Tryz.ntmps30, List.size_toArray, List.length_cons, List.length_nil, Nat.reduceAdd, Nat.reduceSub, Array.replicate_succ, Array.replicate_zero, List.push_toArray, List.append_toArray, List.nil_append, List.cons_append]
  gi_wp2
  go_ret
  exact ⟨rfl, rfl⟩
end Go.Proofs.YtkakkjnbhklfpaaGreatDoor

/-
  Rows of the call's own, and what the loop over an iterator itself turns.
-/
namespace Go.Proofs.YtkakkjnbhklfpaaGreatDoor
open Go.RowKit
set_option maxRecDepth 4000

theorem own_ge {W : World} {base : Nat} {e : TypeId} {size : Nat} {v : Value} {k : Nat} {xs : List Value} (h : W.ownsRow base e size v k xs) : ∀ j, v.ownBlock = some j → base ≤ j := by
  intro j hj
  rcases h.2 with ⟨rfl, _⟩ | ⟨g, cap, cur, rfl, hb, _⟩
  · simp [Value.ownBlock] at hj
  · obtain rfl : g = j := by simpa [Value.ownBlock] using hj
    exact hb
theorem own_ownK {W W' : World} {row : Option Nat} {base : Nat} {e : TypeId} {size : Nat} {v : Value} {k : Nat} {xs : List Value} (h : W.ownsRow base e size v k xs) (hg : W.grownBy W' row) (hr : ∀ r, row = some r → ∃ o : Obj, W.heap[r]? = some o ∧ o.isCells = false) : W'.ownsRow base e size v k xs := by
  refine h.kept hg ?_
  rcases h.2 with ⟨rfl, _⟩ | ⟨g, cap, cur, rfl, _, hgb, _⟩
  · exact .inl rfl
  · refine .inr fun e' => ?_
    obtain ⟨o, ho, hc⟩ := hr g (by simpa [Value.ownBlock] using e'.symm)
    rw [hgb] at ho; cases ho; cases hc
end Go.Proofs.YtkakkjnbhklfpaaGreatDoor

/-
  The program's Pick: of each part the value of its column, in a row of its own.
-/
namespace Go.Proofs.YtkakkjnbhklfpaaGreatDoor
open Go.RowKit
set_option maxRecDepth 4000

attribute [local go_sem] Oper.semAt_some

/-- The cells of the values that have come. -/
def rowT (pre : List (Int × Int × ByteArray)) : List Value := pre.flatMap (fun x => [.int .i64 x.1, .int .i64 x.2.1, .string x.2.2])
theorem rowT_snoc (pre : List (Int × Int × ByteArray)) (x : Int × Int × ByteArray) : rowT (pre ++ [x]) = rowT pre ++ [.int .i64 x.1, .int .i64 x.2.1, .string x.2.2] := by simp [rowT]
theorem rowT_U (fc : Nat → Int) (m : Nat) (fk fn : Nat → Int) (fs : Nat → ByteArray) : ∀ r, rowT (colU fc m fk fn fs r) = rowC (pickK fc m fk) (pickK fc m fn) (pickS fc m fs) r
  | 0 => rfl
  | r + 1 => by rw [colU_succ, rowT_snoc, rowT_U fc m fk fn fs r, rowC]

set_option linter.unusedSimpArgs false in
set_option maxRecDepth 100000 in
set_option maxHeartbeats 4000000 in
/-- What is yielded is put behind a row of the call's own. -/
theorem appendCols_in (a : Option Addr) (n cap : Nat) (fc ft : Nat → Int) (fu fd : Nat → Bool) (a2 : Option Addr) (m c2 : Nat) (fk fn : Nat → Int) (fs : Nat → ByteArray) (w : World) (hp : PView w a n cap fc ft fu fd) (hq : VView w a2 m c2 fk fn fs) (hn : n ≤ 1048576) (hm : m ≤ 281474976710656) (hs : ∀ i, i < m → (fs i).size ≤ 281474976710656)
    (w2 : World) (Bl : Nat) (g0 : Nat) (hb : Below w.heap.size w w2) (bL : Boxed w2 Bl 30 (.slice a n cap)) (bV : Boxed w2 (Bl + 1) 25 (.slice a2 m c2)) (hO2 : w2.ownsRow w.heap.size 58 3 (.slice (some ⟨g0, 0, none⟩) 0 0) 0 []) :
    CallsIn Fence.wide 7 Tryz.prog 29 #[.slice (some ⟨g0, 0, none⟩) 0 0, .func (.func 58) #[] #[.pointer (some ⟨Bl, 0, none⟩), .pointer (some ⟨Bl + 1, 0, none⟩)]] w2 fun e w' => ∃ v, e = .returned v ∧ v ≠ .slice none 0 0 ∧ w'.ownsRow w.heap.size 58 3 v n (rowC (pickK fc m fk) (pickK fc m fn) (pickS fc m fs) n) ∧ Below w.heap.size w w' := by
  obtain ⟨i0, hi, hz0, hz1, hz2⟩ := infoVal3
  refine callsIn_of_wp_marks Tryz.func29 rfl trivial ?_ rfl
  simp only [Tryz.ntmps29, List.size_toArray, List.length_cons, List.length_nil, Nat.reduceAdd, Nat.reduceSub, Array.replicate_succ, Array.replicate_zero, List.push_toArray, List.append_toArray, List.nil_append, List.cons_append]
  gi_wp2
  have hb5 : Below w2.heap.size w2 (w2.alloc (.cells #[.slice (some ⟨g0, 0, none⟩) 0 0] 25)) := (Below.refl _ _).alloc (Nat.le_refl _) _
  have hO3 := own_below3 hO2 hb5
  have hB0 := hb.trans (hb5.mono hb.size)
  have bS := Boxed.new w2 25 (.slice (some ⟨g0, 0, none⟩) 0 0)
  have bL0 := Boxed.below' bL hb5
  have bV0 := Boxed.below' bV hb5
  have hbl := bL.lt
  have hbv := bV.lt
  have hsz : (w2.alloc (.cells #[.slice (some ⟨g0, 0, none⟩) 0 0] 25)).heap.size = w2.heap.size + 1 := by simp
  obtain ⟨W0, hW0⟩ : ∃ W0, w2.alloc (.cells #[.slice (some ⟨g0, 0, none⟩) 0 0] 25) = W0 := ⟨_, rfl⟩
  rw [hW0] at hO3 hB0 bS bL0 bV0 hsz ⊢
  have hwA := hb.size
  clear hW0 hO2 hb5 hb bL bV
  obtain ⟨A, hA⟩ : ∃ A, w2.heap.size = A := ⟨_, rfl⟩
  rw [hA] at bS hsz hwA hbl hbv ⊢
  clear hA
  refine wpIn_rangeFunc_ownH rfl (by decide) (gf := 58) (lb := #[.pointer (some ⟨Bl, 0, none⟩), .pointer (some ⟨Bl + 1, 0, none⟩)]) rfl trivial (enters_of Tryz.func58 (by kernel_rfl) rfl)
    (ofCols_stops (7 - 1) (by decide) Bl (Bl + 1) a n cap fc ft fu fd a2 m c2 fk fn fs w hp hq (by omega) hm hs W0 hB0 bL0 bV0) (fun h k => KpB.trans h k) (KpB.put (by omega) (by omega) (by omega)) (Below.refl _ _) (fun _ => rfl)
    (fun pre W => (∃ v, Boxed W A 25 v ∧ v ≠ .slice none 0 0 ∧ W.ownsRow w.heap.size 58 3 v pre.length (rowT pre)) ∧ KpB w.heap.size Bl (Bl + 1) W0 W)
    (fun c pre W => False)
    (OwnFrom.and (fun s X Y row hs hg hr => by obtain ⟨v, h1, h2, h3⟩ := hs; exact ⟨v, Boxed.ownK h1 hg (fun r e => (hr r e).2), h2, own_ownK h3 hg (fun r e => (hr r e).2)⟩) (ownFrom_kpB (by omega) (by omega) (by omega) (Nat.le_refl _)))
    (fun c s X Y row hs hg hr => hs)
    ⟨⟨_, bS, by simp, hO3⟩, KpB.refl _ _ _ _⟩
    (fun x a' W => ∃ Bq, Box W Bq x.1 x.2.1 x.2.2 ∧ a' = { tmps := #[.slice (some ⟨g0, 0, none⟩) 0 0, .func (.func 58) #[] #[.pointer (some ⟨Bl, 0, none⟩), .pointer (some ⟨Bl + 1, 0, none⟩)], .pointer (some ⟨A, 0, none⟩), undef, .slice none 0 0, .pointer (some ⟨Bq, 0, none⟩), .func (.func 58) #[] #[.pointer (some ⟨Bl, 0, none⟩), .pointer (some ⟨Bl + 1, 0, none⟩)], .agg #[.int .i64 x.1, .int .i64 x.2.1, .string x.2.2], undef, undef, undef, undef, undef], defers := [] })
    (fun x a' _ X Y row hs hg hr => by obtain ⟨Bq, h1, h3⟩ := hs; exact ⟨Bq, h1.ownK hg (fun r e => (hr r e).2), h3⟩)
    ?assign ?body ?done ?stop
  case assign =>
    rintro l pre x W K ⟨⟨v, bV1, hne, hO⟩, hk⟩ hK
    gi_wp2
    have hb1 : Below W.heap.size W (W.alloc (.cells #[.int .i64 x.1, .int .i64 x.2.1, .string x.2.2] 58)) := (Below.refl _ _).alloc (Nat.le_refl _) _
    have hs1 := hk.below.size
    have hkk := KpB.ofBelow (n₀ := w.heap.size) (Bl := Bl) (Bv := Bl + 1) hb1 (by omega) (by omega) (by omega)
    exact hK _ _ (KeepsFrom.ofBelow hb1) hkk ⟨⟨v, Boxed.below' bV1 hb1, hne, own_below3 hO hb1⟩, hk.trans hkk⟩ ⟨W.heap.size, Box.new W _ _ _, rfl⟩
  case body =>
    rintro l pre x a' W hl ⟨r, hr⟩ ⟨⟨v, bV1, hne, hO⟩, hk⟩ ⟨Bq, hQ, rfl⟩ hlt
    obtain ⟨q0, q1, q2⟩ := hQ.cells
    have hs1 := hk.below.size
    have cV := bV1.cell
    have HNE : Hid (v ≠ .slice none 0 0) := hne
    clear hr hne
    gi_wp2_with (gi_at_builtin; refine wpListIn_append_own _ rfl _ _ 25 rfl w.heap.size 58 i0 (.agg #[.int .i64 0, .int .i64 0, .string ⟨#[]⟩]) 3 32 Tryz.underlying25 hi hz0 hz1 hz2 rfl (by decide) v _ _ rfl (own_below3 hO ((Below.refl _ _).alloc (Nat.le_refl _) _)) ⟨W.heap.size, 0, none⟩ 1 1 [.int .i64 x.1, .int .i64 x.2.1, .string x.2.2] rfl rfl (cells_one W x.1 x.2.1 x.2.2) (one_cells _ _ _) (by unfold maxLen; omega) (by omega) (by simp; omega) ?_; intro v' w1 hown' hgrow hnil; obtain ⟨g', cap', rfl⟩ := ownsRow_succ hown'; obtain ⟨hv1, hv2, hr2, hk2, hb2⟩ := Boxed.appended bV1 (by decide) hO (by omega) (by omega) hown' hgrow; have hc1 := hv1.cell; have hf1 := hv1.frozen)
    have bL1 := Boxed.kpl bL0 hk
    have bB1 := Boxed.kpv bV0 hk
    have hsg := hgrow.size
    rw [World.size_alloc] at hsg
    have hkk : KpB w.heap.size Bl (Bl + 1) W (w1.setCell ⟨A, 0, none⟩ (.slice (some ⟨g', 0, none⟩) (pre.length + 1) cap')) := by
      refine ((KpB.ofBelow ((Below.refl _ _).alloc (Nat.le_refl _) _) (by omega) (by omega) (by omega)).trans (KpB.ofGrown hgrow (by rw [World.size_alloc]; omega) (by rw [World.size_alloc]; omega) (by rw [World.size_alloc]; omega) (fun k e => ⟨own_ge hO k e, fun h => ?_, fun h => ?_⟩))).trans (KpB.ofGrown (grownBy_setCell' w1 A _) (by omega) (by omega) (by omega) (fun k e => by cases e; omega))
      · subst h; exact bL1.not_row (by decide) hO e.symm
      · subst h; exact bB1.not_row (by decide) hO e.symm
    refine ⟨hk2.from _, hkk, ⟨_, hv2, by simp, ?_⟩, hk.trans hkk⟩
    rw [rowT_snoc, List.length_append]
    exact hr2
  case done =>
    rintro D ys W hD rfl ⟨⟨v, bV1, hne, hO⟩, hk⟩ hK
    have hk0 := hB0.trans hk.below
    rw [rowT_U, colU_len] at hO
    have cV := bV1.cell
    obtain ⟨g, cg, rfl⟩ : ∃ g cg, v = .slice (some ⟨g, 0, none⟩) n cg := by
      rcases hO.2 with ⟨e, _⟩ | ⟨g, cg, _, e, _⟩
      · exact absurd e hne
      · exact ⟨g, cg, e⟩
    gi_wp2
    refine ⟨by simp, .inl ⟨_, _, rfl, run_takeDeferred hK, ?_⟩⟩
    exact ⟨_, results_tmp rfl _ _ _, _, rfl, by simp, own_ownK hO (grownBy_putObj' _ D _) (fun r e => by cases e; exact ⟨_, hK, rfl⟩), Below.put' hk0 (by omega) hK⟩
  case stop =>
    rintro D c pre W hD hpre h hK
    exact h.elim

set_option maxHeartbeats 4000000 in
theorem implPick_any (a : Option Addr) (n cap : Nat) (fc ft : Nat → Int) (fu fd : Nat → Bool) (a2 : Option Addr) (m c2 : Nat) (fk fn : Nat → Int) (fs : Nat → ByteArray) (w : World) (hp : PView w a n cap fc ft fu fd) (hq : VView w a2 m c2 fk fn fs) (hn : n ≤ 1048576) (hm : m ≤ 281474976710656) (hs : ∀ i, i < m → (fs i).size ≤ 281474976710656) :
    Calls Tryz.prog 8 #[.slice a n cap, .slice a2 m c2] w fun e w' => ∃ v, e = .returned v ∧ v ≠ .slice none 0 0 ∧ w'.ownsRow w.heap.size 58 3 v n (rowC (pickK fc m fk) (pickK fc m fn) (pickS fc m fs) n) ∧ Below w.heap.size w w' := by
  have hO := World.ownsRow_lit (base := w.heap.size) (e := 58) (size := 3) w #[] 0 (Nat.le_refl _) (Nat.zero_le _) rfl
  have hb1 : Below (w.alloc (.cells #[] 58)).heap.size (w.alloc (.cells #[] 58)) (((w.alloc (.cells #[] 58)).alloc (.cells #[.slice a n cap] 30)).alloc (.cells #[.slice a2 m c2] 25)) := ((Below.refl _ _).alloc (Nat.le_refl _) _).alloc (by simp) _
  have hO2 := own_below3 hO hb1
  have hb2 : Below w.heap.size w (((w.alloc (.cells #[] 58)).alloc (.cells #[.slice a n cap] 30)).alloc (.cells #[.slice a2 m c2] 25)) := ((Below.refl _ _).alloc (Nat.le_refl _) _).trans (hb1.mono (by simp))
  have bL := (Boxed.new (w.alloc (.cells #[] 58)) 30 (.slice a n cap)).alloc (.cells #[.slice a2 m c2] 25)
  have bV := Boxed.new ((w.alloc (.cells #[] 58)).alloc (.cells #[.slice a n cap] 30)) 25 (.slice a2 m c2)
  simp only [World.size_alloc] at bL bV
  have hC := callsIn_wide.1 (appendCols_in a n cap fc ft fu fd a2 m c2 fk fn fs w hp hq hn hm hs _ (w.heap.size + 1) w.heap.size hb2 bL bV hO2)
  have hV := callsIn_wide.1 (valsOfColumns_in 7 a n cap a2 m c2 (w.alloc (.cells #[] 58)))
  simp only [World.size_alloc] at hV
  clear hO hO2 hb1 hb2 bL bV hp hq
  go_enter Tryz.func8, Tryz.ntmps8
  go_wp2_with (first | (go_at_call 30; refine hV.mono ?_; rintro e w2 ⟨rfl, rfl⟩) | (go_at_call 29; refine hC.mono ?_; rintro e w3 ⟨v, rfl, hne, hO, hB⟩))
  go_ret
  exact ⟨v, rfl, hne, hO, hB⟩
end Go.Proofs.YtkakkjnbhklfpaaGreatDoor

/-
  Plain facts on the sum, in the forms in which the walks meet them.
-/
namespace Go.Proofs.YtkakkjnbhklfpaaGreatDoor
open Go.RowKit
set_option maxRecDepth 4000

theorem u32_one (y : Nat) (h : y < 4294967296) : bits .and .u32 (y : Int) 1 = ((y % 2 : Nat) : Int) := by
  have := u32_and_nat y 1 h (by decide)
  rw [nat_mask1] at this; exact this
theorem u32_turn (y : Nat) (h : y < 4294967296) : bits .xor .u32 ((y : Int) / 2) 2197175160 = ((y / 2 ^^^ 2197175160 : Nat) : Int) := by
  have := u32_xor_nat (y / 2) 2197175160 (by omega) (by decide)
  rw [← this]; rfl
theorem i64_turn (y : Nat) (h : y < 4294967296) : bits .xor .i64 ((y : Int) / 2) 2197175160 = ((y / 2 ^^^ 2197175160 : Nat) : Int) := by
  have := i64_xor_nat (y / 2) 2197175160 (by omega) (by decide)
  rw [← this]; rfl
theorem i64_last (y : Nat) (h : y < 4294967296) : bits .xor .i64 (y : Int) 4294967295 = ((y ^^^ 4294967295 : Nat) : Int) := i64_xor_nat y 4294967295 (by omega) (by decide)
theorem u32_last (y : Nat) (h : y < 4294967296) : bits .xor .u32 IntKind.u32.max (y : Int) = ((y ^^^ 4294967295 : Nat) : Int) := by
  have e : IntKind.u32.max = ((4294967295 : Nat) : Int) := by simp [IntKind.max, IntKind.signed, IntKind.bits]
  rw [Nat.xor_comm, e]; exact u32_xor_nat 4294967295 y (by decide) h
theorem i64_in (y : Nat) (b : Int) (h : y < 4294967296) (h0 : 0 ≤ b ∧ b ≤ 255) : bits .xor .i64 (y : Int) b = ((y ^^^ b.toNat : Nat) : Int) := by
  obtain ⟨c, rfl⟩ := Int.eq_ofNat_of_zero_le h0.1
  rw [Int.toNat_natCast]; exact i64_xor_nat y c (by omega) (by omega)
theorem u32_in (y : Nat) (b : Int) (h : y < 4294967296) (h0 : 0 ≤ b ∧ b ≤ 255) : bits .xor .u32 (y : Int) b = ((y ^^^ b.toNat : Nat) : Int) := by
  obtain ⟨c, rfl⟩ := Int.eq_ofNat_of_zero_le h0.1
  rw [Int.toNat_natCast]; exact u32_xor_nat y c (by omega) (by omega)
theorem crcBit_odd (y : Nat) (h : y % 2 = 1) : crcBit y = y / 2 ^^^ 2197175160 := by unfold crcBit; rw [if_pos h]
theorem crcBit_even (y : Nat) (h : ¬ y % 2 = 1) : crcBit y = y / 2 := by unfold crcBit; rw [if_neg h]

theorem retInt {k : IntKind} {a b : Int} (h : a = b) : Ending.returned (.int k a) = .returned (.int k b) := by rw [h]

end Go.Proofs.YtkakkjnbhklfpaaGreatDoor

/-
  The program's Crc comes to the plain sum, at every slice of bytes that reads.
-/
namespace Go.Proofs.YtkakkjnbhklfpaaGreatDoor
open Go.RowKit
set_option maxRecDepth 4000

set_option maxHeartbeats 1000000 in
theorem crcStep_any (x : Nat) (w : World) (hx : x < 4294967296) :
    Calls Tryz.prog 169 #[.int .u32 (x : Int)] w fun e w' => e = .returned (.int .u32 ((crcBits 8 x : Nat) : Int)) ∧ w = w' := by
  go_enter Tryz.func169, Tryz.ntmps169
  go_wp2
  go_loopg [0, 4] 8 (fun g s i wr => w = wr ∧ ∃ k y : Nat, k ≤ 8 ∧ g = 8 - k ∧ s = .int .u32 (y : Int) ∧ i = .int .i64 k ∧ y < 4294967296 ∧ y = crcBits k x)
  case atStart => exact ⟨rfl, 0, x, by omega, rfl, rfl, rfl, hx, rfl⟩
  case round =>
    obtain ⟨rfl, k, y, hk, rfl, rfl, rfl, hy, hyk⟩ := hrel
    have HY : Hid (y = crcBits k x) := hyk
    clear hyk
    by_cases hlt : k < 8
    · have hkz : (k : Int) < 8 := by omega
      by_cases hodd : y % 2 = 1
      · have q1 : bits .and .u32 (y : Int) 1 = 1 := by rw [u32_one y hy, hodd]; rfl
        have q2 := u32_turn y hy
        have HO : Hid (y % 2 = 1) := hodd
        clear hodd
        go_wp2
        go_roundg (8 - (k + 1))
        case measure => omega
        case rel => exact ⟨rfl, k + 1, y / 2 ^^^ 2197175160, by omega, rfl, rfl, by go_num, Nat.xor_lt_two_pow (n := 32) (by omega) (by decide), by rw [← crcBit_odd y HO.out, HY.out]; rfl⟩
      · have q1 : bits .and .u32 (y : Int) 1 = 0 := by rw [u32_one y hy, show y % 2 = 0 by omega]; rfl
        have HO : Hid (¬ y % 2 = 1) := hodd
        clear hodd
        go_wp2
        go_roundg (8 - (k + 1))
        case measure => omega
        case rel => exact ⟨rfl, k + 1, y / 2, by omega, rfl, by go_num, by go_num, by omega, by rw [← crcBit_even y HO.out, HY.out]; rfl⟩
    · obtain rfl : k = 8 := by omega
      go_wp2
      go_ret
      exact ⟨retInt (congrArg Int.ofNat HY.out), rfl⟩

set_option maxHeartbeats 1000000 in
theorem crc_impl (ao : Option Addr) (n cap : Nat) (f : Nat → Int) (w : World) (hv : View w ao n cap f) (hn : n ≤ 281474976710656) :
    Calls Tryz.prog 147 #[.slice ao n cap] w fun e w' => e = .returned (.int .i64 ((crc n f : Nat) : Int)) ∧ w = w' := by
  go_enter Tryz.func147, Tryz.ntmps147
  go_wp2
  go_loopg [3, 8] n (fun g s i wr => w = wr ∧ ∃ k y : Nat, k ≤ n ∧ g = n - k ∧ s = .int .u32 (y : Int) ∧ i = .int .i64 k ∧ y < 4294967296 ∧ y = crcTo f k)
  case atStart => exact ⟨rfl, 0, 4294967295, by omega, rfl, rfl, rfl, by decide, rfl⟩
  case round =>
    obtain ⟨rfl, k, y, hk, rfl, rfl, rfl, hy, hyk⟩ := hrel
    have HY : Hid (y = crcTo f k) := hyk
    clear hyk
    by_cases hlt : k < n
    · obtain ⟨b, off, rfl, hb, hc⟩ := hv.cells (by omega)
      have hkz : (k : Int) < (n : Int) := by omega
      have hc1 := hc k hlt
      have hbk := hv.byte k hlt
      have q1 := u32_in y (f k) hy hbk
      have hlt2 := xorByte_lt hy hbk
      obtain ⟨hbk0, hbk1⟩ := hbk
      clear hc
      go_wp2_with fail
      refine (crcStep_any _ _ hlt2).mono ?_
      rintro e _ ⟨rfl, rfl⟩
      go_wp2
      go_roundg (n - (k + 1))
      case measure => omega
      case rel => exact ⟨rfl, k + 1, crcBits 8 (y ^^^ (f k).toNat), by omega, rfl, rfl, by go_num, crcBits_lt hlt2, by rw [HY.out]; rfl⟩
    · obtain rfl : k = n := by omega
      have q1 := u32_last y hy
      have q2 : y ^^^ 4294967295 < 4294967296 := Nat.xor_lt_two_pow (n := 32) hy (by decide)
      have q3 : wrap64 ((y ^^^ 4294967295 : Nat) : Int) = ((y ^^^ 4294967295 : Nat) : Int) := by
        generalize y ^^^ 4294967295 = z at q2
        exact IntWalk.wrap64_in _ ⟨by omega, by omega⟩
      go_wp2
      go_ret
      exact ⟨retInt (congrArg (fun z : Nat => ((z ^^^ 4294967295 : Nat) : Int)) HY.out), rfl⟩

theorem crc_impl' {c : Nat} (ao : Option Addr) (n cap : Nat) (f : Nat → Int) (w : World) (hg : Hid (crc n f = c)) (hv : View w ao n cap f) (hn : n ≤ 281474976710656) :
    Calls Tryz.prog 147 #[.slice ao n cap] w fun e w' => e = .returned (.int .i64 (c : Int)) ∧ w = w' := by
  have h := crc_impl ao n cap f w hv hn
  rw [hg.out] at h; exact h
end Go.Proofs.YtkakkjnbhklfpaaGreatDoor

