/-
  Together: ReadSecI, OzView, RootI, BestI, DiskOwnC, OwnW
-/
import Derived.Test.YtdjaiappaghfnaaTN8
import Derived.Test.YtdjaiappaghfnaaTN6
import Derived.Test.YtdjaiappaghfnaaTN1
import Derived.Deep.LoopGhost
/-
  The program's ReadSec.
-/
namespace Go.Proofs.Ytdjaiappaghfnaa
open Go.RowKit
set_option maxRecDepth 4000

attribute [local go_sem] Oper.semAt_some

theorem VN.ownK {W W' : World} {row : Option Nat} {B : Nat} {T : TypeId} {xs : List Value} (h : VN W B T xs) (hg : W.grownBy W' row) (hr : ∀ r, row = some r → ∃ o : Obj, W.heap[r]? = some o ∧ o.isCells = false) : VN W' B T xs :=
  (grownBy_keeps_cells hg hr h rfl).trans h
theorem OB.ownK {W W' : World} {row : Option Nat} {B : Nat} {v : Value} {l : List Int} (h : OB W B v l) (hg : W.grownBy W' row) (hr : ∀ r, row = some r → ∃ o : Obj, W.heap[r]? = some o ∧ o.isCells = false) : OB W' B v l := by
  obtain ⟨a, c, e, h1, h2, h3, h4⟩ := h.is
  refine ⟨a, c, e, h1, h2, h3, ?_⟩
  rcases h4 with h4 | ⟨g, ea, hb, hrow⟩
  · exact .inl h4
  · obtain ⟨cur, hcur, hx⟩ := hrow
    exact .inr ⟨g, ea, hb, cur, (grownBy_keeps_cells hg hr hcur rfl).trans hcur, hx⟩
/-- What stops behind others that were passed by. -/
theorem prefix_fin {n : Nat} {pre : List (Fin n)} {x : Fin n} (h : pre ++ [x] <+: List.finRange n) : ∀ y : Fin n, y.1 < x.1 → y ∈ pre := by
  obtain ⟨t, ht⟩ := h
  have hlen : pre.length < n := by
    have := congrArg List.length ht
    simp at this
    omega
  have hx : x.1 = pre.length := by
    have e1 : (List.finRange n)[pre.length]? = some x := by rw [← ht, List.append_assoc, List.getElem?_append_right (Nat.le_refl _)]; simp
    rw [List.getElem?_eq_getElem (by simpa using hlen)] at e1
    simp at e1
    rw [← e1]
  intro y hy
  have e2 : (List.finRange n)[y.1]? = some y := by rw [List.getElem?_eq_getElem (by simp)]; simp
  rw [← ht, List.append_assoc, List.getElem?_append_left (by omega)] at e2
  exact List.mem_of_getElem? e2
/-- Writes that are passed by. -/
theorem lastW_pass {l : List (Int × List Int)} {n : Int} {i : Nat} : ∀ {k : Nat}, i ≤ k → k ≤ l.length → (∀ j, i ≤ j → j < k → (l.getD j (0, [])).1 ≠ n) → lastW l n k = lastW l n i
  | 0, h, _, _ => by rw [show i = 0 by omega]
  | k + 1, h, hl, hm => by
    by_cases e : i = k + 1
    · rw [e]
    · have h1 := hm k (by omega) (by omega)
      have hk : k < l.length := by omega
      rw [lastW_miss hk (by simpa [hk] using h1)]
      exact lastW_pass (by omega) (by omega) (fun j hj hj' => hm j hj (by omega))

set_option maxHeartbeats 1000000 in
theorem hasSec_any (v : Value) (D : PDisk) (n : Int) (w : World) (h : KView w v D) :
    Calls Try.prog 86 #[v, .int .i64 n] w fun e w' => ∃ r : Bool, e = .returned (.bool r) ∧ (r = true ↔ HasS D n) ∧ Below w.heap.size w w' := by
  obtain ⟨sa, sc, ca, cc, fa, fc, rfl, -, -, -⟩ := h.is
  clear h
  have hb : Below w.heap.size w (w.alloc (.cells #[.slice sa D.secs.length sc, .slice ca D.cache.length cc, .int .i64 D.ops, .slice fa D.faults.length fc, .bool D.down] 31)) := (Below.refl _ _).alloc (Nat.le_refl _) _
  by_cases h0 : 0 ≤ n
  · go_enter Try.func86, Try.ntmps86
    go_wp2
    go_ret
    exact ⟨decide (n < D.secs.length), rfl, by simp [HasS, h0], hb⟩
  · go_enter Try.func86, Try.ntmps86
    go_wp2
    go_ret
    exact .inl ⟨rfl, fun h => by have := h.1; omega, hb⟩

set_option linter.unusedSimpArgs false in
set_option maxRecDepth 100000 in
set_option maxHeartbeats 4000000 in
theorem implReadSec_any (v : Value) (D : PDisk) (n : Int) (w : World) (h : KView w v D) (hf : KFine D) :
    Calls Try.prog 69 #[v, .int .i64 n] w (ReadTo w D n) := by
  have HK : Hid (KView w v D ∧ KFine D) := ⟨h, hf⟩
  obtain ⟨sa, sc, ca, cc, fa, fc, rfl, hs, hc, -⟩ := h.is
  have HS : Hid (SView w sa sc D.secs) := hs
  obtain ⟨us, hus, hlv⟩ := wcells_of hc
  have hns := hf.ns
  have hnc := hf.nc
  have HL : Hid ((∀ i (hi : i < D.cache.length), LV w (us i) (D.cache[i]).2) ∧ KFine D) := ⟨hlv, hf⟩
  clear h hf hs hc hlv
  obtain ⟨fn, hfn⟩ : ∃ fn : Nat → Int, Hid (fn = fun i => (D.cache.getD i (0, [])).1) := ⟨_, rfl⟩
  rw [← hfn.out] at hus
  have hB0 : Below w.heap.size w ((((w.alloc (.cells #[.slice sa D.secs.length sc, .slice ca D.cache.length cc, .int .i64 D.ops, .slice fa D.faults.length fc, .bool D.down] 31)).alloc (.cells #[.int .i64 n] 3)).alloc (.cells #[.slice none 0 0] 63)).alloc (.cells #[.bool false] 4)) := ((((Below.refl _ _).alloc (Nat.le_refl _) _).alloc (by simp) _).alloc (by simp; omega) _).alloc (by simp; omega) _
  refine (callsIn_wide (n := 6)).1 ?_
  refine callsIn_of_wp_marks Try.func69 rfl trivial ?_ rfl
  simp only [Try.ntmps69, List.size_toArray, List.length_cons, List.length_nil, Nat.reduceAdd, Nat.reduceSub, Array.replicate_succ, Array.replicate_zero, List.push_toArray, List.append_toArray, List.nil_append, List.cons_append]
  have hH := fun W (hb : Below w.heap.size w W) => hasSec_any _ D n W (HK.out.1.below hb)
  have bD := (((VN.new w 31 [.slice sa D.secs.length sc, .slice ca D.cache.length cc, .int .i64 D.ops, .slice fa D.faults.length fc, .bool D.down]).below ((Below.refl _ _).alloc (Nat.le_refl _) (.cells #[.int .i64 n] 3))).below ((Below.refl _ _).alloc (Nat.le_refl _) (.cells #[.slice none 0 0] 63))).below ((Below.refl _ _).alloc (Nat.le_refl _) (.cells #[.bool false] 4))
  have bN := ((VN.new (w.alloc (.cells #[.slice sa D.secs.length sc, .slice ca D.cache.length cc, .int .i64 D.ops, .slice fa D.faults.length fc, .bool D.down] 31)) 3 [.int .i64 n]).below ((Below.refl _ _).alloc (Nat.le_refl _) (.cells #[.slice none 0 0] 63))).below ((Below.refl _ _).alloc (Nat.le_refl _) (.cells #[.bool false] 4))
  have bR := (VN.new ((w.alloc (.cells #[.slice sa D.secs.length sc, .slice ca D.cache.length cc, .int .i64 D.ops, .slice fa D.faults.length fc, .bool D.down] 31)).alloc (.cells #[.int .i64 n] 3)) 63 [.slice none 0 0]).below ((Below.refl _ _).alloc (Nat.le_refl _) (.cells #[.bool false] 4))
  have bQ := VN.new (((w.alloc (.cells #[.slice sa D.secs.length sc, .slice ca D.cache.length cc, .int .i64 D.ops, .slice fa D.faults.length fc, .bool D.down] 31)).alloc (.cells #[.int .i64 n] 3)).alloc (.cells #[.slice none 0 0] 63)) 4 [.bool false]
  simp only [World.size_alloc] at bN bR bQ
  by_cases hr : HasS D n
  case neg =>
    have HR : Hid (¬ HasS D n) := hr
    gi_wp2_with (refine ⟨trivial, ?_⟩; gi_at_call 86; refine (callsIn_wide.2 (hH _ hB0)).mono ?_; rintro e w1 ⟨r, rfl, hr1, hb1⟩; obtain rfl : r = false := (by cases r with | false => rfl | true => exact absurd (hr1.1 rfl) hr); clear hr1; have bR1 := (bR.below hb1).below ((Below.refl _ _).alloc (Nat.le_refl _) (.cells #[] 5)); have cR : (w1.alloc (.cells #[] 5)).cell? ⟨w.heap.size + 1 + 1, 0, none⟩ = some (.slice none 0 0) := bR1.cell 0; have fR := bR1.fz 0; have bQ1 := ((bQ.below hb1).below ((Below.refl _ _).alloc (Nat.le_refl _) (.cells #[] 5))).other (C := w.heap.size + 1 + 1) (i := 0) (u := .slice (some ⟨w1.heap.size, 0, none⟩) 0 0) (by omega); have cQ : ((w1.alloc (.cells #[] 5)).setCell ⟨w.heap.size + 1 + 1, 0, none⟩ (.slice (some ⟨w1.heap.size, 0, none⟩) 0 0)).cell? ⟨w.heap.size + 1 + 1 + 1, 0, none⟩ = some (.bool false) := bQ1.cell 0; have fQ := bQ1.fz 0)
    have c4 := (bR1.set 0 (.slice (some ⟨w1.heap.size, 0, none⟩) 0 0)).other (C := w.heap.size + 1 + 1 + 1) (i := 0) (u := .bool false) (by omega)
    have c5 := bQ1.set 0 (.bool false)
    simp only [List.set] at c4 c5
    have c4' : (((w1.alloc (.cells #[] 5)).setCell ⟨w.heap.size + 1 + 1, 0, none⟩ (.slice (some ⟨w1.heap.size, 0, none⟩) 0 0)).setCell ⟨w.heap.size + 1 + 1 + 1, 0, none⟩ (.bool false)).cell? ⟨w.heap.size + 1 + 1, 0, none⟩ = some (.slice (some ⟨w1.heap.size, 0, none⟩) 0 0) := c4.cell 0
    have c5' : (((w1.alloc (.cells #[] 5)).setCell ⟨w.heap.size + 1 + 1, 0, none⟩ (.slice (some ⟨w1.heap.size, 0, none⟩) 0 0)).setCell ⟨w.heap.size + 1 + 1 + 1, 0, none⟩ (.bool false)).cell? ⟨w.heap.size + 1 + 1 + 1, 0, none⟩ = some (.bool false) := c5.cell 0
    have hBB : Below w.heap.size w w1 := hB0.trans (hb1.mono hB0.size)
    refine ⟨.tuple #[.slice (some ⟨w1.heap.size, 0, none⟩) 0 0, .bool false], ?_, _, false, rfl, by simpa using HR.out, by rw [readB_none HR.out]; exact ⟨_, 0, rfl, Nat.le_refl _, (fun e => by cases e), by simp, .inl rfl⟩, ((hBB.alloc hBB.size _).setCell (p := ⟨w.heap.size + 1 + 1, 0, none⟩) (by show w.heap.size ≤ w.heap.size + 1 + 1; omega) _).setCell (p := ⟨w.heap.size + 1 + 1 + 1, 0, none⟩) (by show w.heap.size ≤ w.heap.size + 1 + 1 + 1; omega) _⟩
    simp [results, Try.f69, go_sem, c4', c5']
  have HR : Hid (HasS D n) := hr
  gi_wp2_with (first
    | (refine ⟨trivial, ?_⟩; gi_at_call 86; refine (callsIn_wide.2 (hH _ hB0)).mono ?_; rintro e w1 ⟨r, rfl, hr1, hb1⟩; obtain rfl : r = true := hr1.2 hr; clear hr1; have bD1 := bD.below hb1; have d1 : w1.cell? ⟨w.heap.size, 1, none⟩ = some (.slice ca D.cache.length cc) := bD1.cell 1)
    | (refine ⟨trivial, ?_⟩; gi_at_call 87; refine (backward_in _ _ _ _ _).mono ?_; rintro e w' ⟨rfl, rfl⟩))
  have bN1 := bN.below hb1
  have bR1 := bR.below hb1
  have bQ1 := bQ.below hb1
  have hs0 := hb1.size
  simp only [World.size_alloc] at hs0
  have hBB : Below w.heap.size w w1 := hB0.trans (hb1.mono hB0.size)
  have hbA : Below w1.heap.size w1 (w1.alloc (.cells #[.slice ca D.cache.length cc] 28)) := (Below.refl _ _).alloc (Nat.le_refl _) _
  have bD2 := bD1.below hbA
  have bN2 := bN1.below hbA
  have bR2 := bR1.below hbA
  have bQ2 := bQ1.below hbA
  have bL := Boxed.new w1 28 (.slice ca D.cache.length cc)
  have hsz : (w1.alloc (.cells #[.slice ca D.cache.length cc] 28)).heap.size = w1.heap.size + 1 := by simp
  have hB2 : Below w.heap.size w (w1.alloc (.cells #[.slice ca D.cache.length cc] 28)) := hBB.trans (hbA.mono hBB.size)
  clear d1 hH bD bN bR bQ bD1 bN1 bR1 bQ1 hb1 hB0
  obtain ⟨W0, hW0⟩ : ∃ W0, w1.alloc (.cells #[.slice ca D.cache.length cc] 28) = W0 := ⟨_, rfl⟩
  rw [hW0] at hbA bD2 bN2 bR2 bQ2 bL hsz hB2 ⊢
  clear hW0
  have husA := hus.below hBB
  obtain ⟨A, hA⟩ : ∃ A, w1.heap.size = A := ⟨_, rfl⟩
  rw [hA] at bL hsz hs0 hbA ⊢
  have husB : WCells w1 ca D.cache.length fn us := husA
  have hbA' : Below w1.heap.size w1 W0 := by rw [hA]; exact hbA
  refine wpIn_rangeFunc_ownH rfl (by decide) (gf := 103) (lb := #[.pointer (some ⟨A, 0, none⟩)]) rfl trivial (enters_of Try.func103 (by kernel_rfl) rfl)
    (back_stops (6 - 1) (by decide) A ca D.cache.length cc fn us w1 husB (by omega) W0 hbA' bL) (fun h k => KpB.trans h k) (KpB.put (by omega) (by omega) (by omega)) (Below.refl _ _) (fun _ => rfl)
    (fun pre W => (∀ x ∈ pre, fn (D.cache.length - 1 - x.1) ≠ n) ∧ KpB w1.heap.size A A W0 W)
    (fun c pre W => c = .ret ∧ (∃ pre0 x v, (pre = pre0 ++ [x] ∧ (∀ y ∈ pre0, fn (D.cache.length - 1 - y.1) ≠ n) ∧ fn (D.cache.length - 1 - x.1) = n) ∧ VN W (w.heap.size + 1 + 1) 63 [v] ∧ VN W (w.heap.size + 1 + 1 + 1) 4 [.bool true] ∧ ∃ l, D.cache[D.cache.length - 1 - x.1]? = some l ∧ OB W w.heap.size v l.2) ∧ Below w.heap.size W0 W)
    (OwnFrom.and (fun s X Y row hs hg hr => hs) (ownFrom_kpB (by omega) (by omega) (by omega) (Nat.le_refl _)))
    (fun c s X Y row hs hg hr => ⟨hs.1, by obtain ⟨pre0, x, v, h1, h2, h3, l, h4, h5⟩ := hs.2.1; exact ⟨pre0, x, v, h1, h2.ownK hg (fun r e => (hr r e).2), h3.ownK hg (fun r e => (hr r e).2), l, h4, h5.ownK hg (fun r e => (hr r e).2)⟩, ownFrom_below (w₀ := W0) (n₀ := w.heap.size) (B := W0.heap.size) (β := Unit) (by omega) (by omega) () X Y row hs.2.2 hg hr⟩)
    ⟨(fun x hx => by cases hx), KpB.refl _ _ _ _⟩
    (fun x a' W => ∃ Bw, VN W Bw 79 [.int .i64 (fn (D.cache.length - 1 - x.1)), us (D.cache.length - 1 - x.1)] ∧ a' = { tmps := #[.agg #[.slice sa D.secs.length sc, .slice ca D.cache.length cc, .int .i64 D.ops, .slice fa D.faults.length fc, .bool D.down], .int .i64 n, .pointer (some ⟨w.heap.size, 0, none⟩), .pointer (some ⟨w.heap.size + 1, 0, none⟩), .pointer (some ⟨w.heap.size + 1 + 1, 0, none⟩), .pointer (some ⟨w.heap.size + 1 + 1 + 1, 0, none⟩), undef, .pointer (some ⟨Bw, 0, none⟩), .agg #[.slice sa D.secs.length sc, .slice ca D.cache.length cc, .int .i64 D.ops, .slice fa D.faults.length fc, .bool D.down], .int .i64 n, .bool true, .bool false, undef, .pointer (some ⟨w.heap.size, 1, none⟩), .slice ca D.cache.length cc, .func (.func 103) #[] #[.pointer (some ⟨A, 0, none⟩)], .int .i64 ((D.cache.length - 1 - x.1 : Nat) : Int), .agg #[.int .i64 (fn (D.cache.length - 1 - x.1)), us (D.cache.length - 1 - x.1)], undef, undef, undef, undef, undef, undef, undef, undef, undef, undef, undef, undef, undef], defers := [] })
    (fun x a' _ X Y row hs hg hr => by obtain ⟨Bw, h1, h3⟩ := hs; exact ⟨Bw, h1.ownK hg (fun r e => (hr r e).2), h3⟩)
    ?assign ?body ?done ?stop
  case assign =>
    rintro l pre x W K ⟨hall, hk⟩ hK
    have hi : D.cache.length - 1 - x.1 < D.cache.length := by have := x.2; omega
    obtain ⟨a3, c3, e3, -, -⟩ := (HL.out.1 _ hi).is
    have HE3 : Hid (us (D.cache.length - 1 - x.1) = .slice a3 (D.cache[D.cache.length - 1 - x.1]).2.length c3) := e3
    dsimp only [encK]
    rw [e3]
    clear e3
    gi_wp2
    have hbN : Below W.heap.size W (W.alloc (.cells #[.int .i64 (fn (D.cache.length - 1 - x.1)), .slice a3 (D.cache[D.cache.length - 1 - x.1]).2.length c3] 79)) := (Below.refl _ _).alloc (Nat.le_refl _) _
    have hs1 := hk.below.size
    have hkk := KpB.ofBelow (n₀ := w1.heap.size) (Bl := A) (Bv := A) hbN (by omega) (by omega) (by omega)
    refine hK _ _ (KeepsFrom.ofBelow hbN) hkk ⟨hall, hk.trans hkk⟩ ⟨W.heap.size, by rw [HE3.out]; exact VN.new W _ _, ?_⟩
    rw [HE3.out]
    try simp
  case body =>
    rintro l pre x a' W hl ⟨r, hr⟩ ⟨hall, hk⟩ ⟨Bw, bW, rfl⟩ hlt
    have hi : D.cache.length - 1 - x.1 < D.cache.length := by have := x.2; omega
    have hs1 := hk.below.size
    have bD3 := bD2.block (hk.below.block _ (by omega))
    have bN3 := bN2.block (hk.below.block _ (by omega))
    have bR3 := bR2.block (hk.below.block _ (by omega))
    have bQ3 := bQ2.block (hk.below.block _ (by omega))
    have cN : W.cell? ⟨w.heap.size + 1, 0, none⟩ = some (.int .i64 n) := bN3.cell 0
    have HA : Hid (∀ x ∈ pre, fn (D.cache.length - 1 - x.1) ≠ n) := hall
    have hBW : Below w.heap.size w W := hB2.trans (hk.below.mono (by omega))
    obtain ⟨a3, c3, e3, v3, n3⟩ := ((HL.out.1 _ hi).below hBW).is
    have hpl := HL.out.2.cache _ (List.getElem_mem hi)
    rw [e3] at bW
    have cW0 : W.cell? ⟨Bw, 0, none⟩ = some (.int .i64 (fn (D.cache.length - 1 - x.1))) := bW.cell 0
    have cW1 : W.cell? ⟨Bw, 1, none⟩ = some (.slice a3 (D.cache[D.cache.length - 1 - x.1]).2.length c3) := bW.cell 1
    clear hall hr
    by_cases hN : fn (D.cache.length - 1 - x.1) = n
    case neg =>
      have hq : (fn (D.cache.length - 1 - x.1) == n) = false := beq_eq_false_iff_ne.2 hN
      gi_wp2
      refine ⟨KeepsFrom.ofBelow (Below.refl _ _), KpB.refl _ _ _ _, fun y hy => ?_, hk⟩
      rcases List.mem_append.1 hy with hy | hy
      · exact HA.out y hy
      · simp at hy; subst hy; exact hN
    have HN : Hid (fn (D.cache.length - 1 - x.1) = n) := hN
    rw [hN] at cW0
    have hq : (n == n) = true := beq_self_eq_true _
    have hP := putSec_any a3 c3 _ W v3 n3 hpl
    have HX : Hid (D.cache[D.cache.length - 1 - x.1]? = some D.cache[D.cache.length - 1 - x.1]) := List.getElem?_eq_getElem hi
    obtain ⟨L, hL⟩ := hidEx D.cache[D.cache.length - 1 - x.1]
    rw [hL.out] at HX hP cW1 hpl
    obtain ⟨N3, hN3⟩ := hidEx L.2.length
    rw [hN3.out] at hP cW1 hpl
    clear hN v3
    gi_wp2_with (refine ⟨trivial, ?_⟩; gi_at_call 56; refine (CallsIn.inRound l (callsIn_wide.2 hP)).mono ?_; rintro e w2 ⟨rfl, hO2, hb2, -⟩; have bR4 := bR3.below hb2; have cR : w2.cell? ⟨w.heap.size + 1 + 1, 0, none⟩ = some (.slice none 0 0) := bR4.cell 0; have fR := bR4.fz 0; have bQ4 := (bQ3.below hb2).other (C := w.heap.size + 1 + 1) (i := 0) (u := .slice (some ⟨W.heap.size, 0, none⟩) N3 N3) (by omega); have cQ : (w2.setCell ⟨w.heap.size + 1 + 1, 0, none⟩ (.slice (some ⟨W.heap.size, 0, none⟩) N3 N3)).cell? ⟨w.heap.size + 1 + 1 + 1, 0, none⟩ = some (.bool false) := bQ4.cell 0; have fQ := bQ4.fz 0)
    have c4 := (bR4.set 0 (.slice (some ⟨W.heap.size, 0, none⟩) N3 N3)).other (C := w.heap.size + 1 + 1 + 1) (i := 0) (u := .bool true) (by omega)
    have c5 := bQ4.set 0 (.bool true)
    simp only [List.set] at c4 c5
    have hOO : OB ((w2.setCell ⟨w.heap.size + 1 + 1, 0, none⟩ (.slice (some ⟨W.heap.size, 0, none⟩) N3 N3)).setCell ⟨w.heap.size + 1 + 1 + 1, 0, none⟩ (.bool true)) w.heap.size (.slice (some ⟨W.heap.size, 0, none⟩) N3 N3) L.2 := ((hO2.up (Up.set (by omega))).up (Up.set (by omega))).mono (by omega)
    refine ⟨((KeepsFrom.ofBelow hb2).trans ((KeepsOthers.setCell _ _ _).from _)).trans ((KeepsOthers.setCell _ _ _).from _), rfl, ⟨pre, x, _, ⟨rfl, HA.out, HN.out⟩, c4, c5, L, HX.out, hOO⟩, ?_⟩
    exact (((hk.below.mono (by omega)).trans (hb2.mono (by omega))).setCell (p := ⟨w.heap.size + 1 + 1, 0, none⟩) (by show w.heap.size ≤ w.heap.size + 1 + 1; omega) _).setCell (p := ⟨w.heap.size + 1 + 1 + 1, 0, none⟩) (by show w.heap.size ≤ w.heap.size + 1 + 1 + 1; omega) _
  case done =>
    rintro D' ys W hD rfl ⟨hall, hk⟩ hK
    have hs1 := hk.below.size
    have hBW : Below w.heap.size w W := hB2.trans (hk.below.mono (by omega))
    have bD3 := bD2.block (hk.below.block _ (by omega))
    have bN3 := bN2.block (hk.below.block _ (by omega))
    have bR3 := bR2.block (hk.below.block _ (by omega))
    have bQ3 := bQ2.block (hk.below.block _ (by omega))
    have cN : W.cell? ⟨w.heap.size + 1, 0, none⟩ = some (.int .i64 n) := bN3.cell 0
    have cD : W.cell? ⟨w.heap.size, 0, none⟩ = some (.slice sa D.secs.length sc) := bD3.cell 0
    obtain ⟨m, hm⟩ : ∃ m : Nat, n = m := ⟨n.toNat, by have := HR.out.1; omega⟩
    have hml : m < D.secs.length := by have := HR.out.2; omega
    have HB : Hid (readB D n = D.secs[m]) := by
      show _ = _
      have hl0 : lastW D.cache n D.cache.length = none := by
        rw [lastW_pass (i := 0) (Nat.zero_le _) (Nat.le_refl _) (fun j _ hj => ?_)]
        · rfl
        · have := hall ⟨D.cache.length - 1 - j, by omega⟩ (List.mem_finRange _)
          rw [hfn.out] at this
          have e : D.cache.length - 1 - (D.cache.length - 1 - j) = j := by omega
          simpa only [e] using this
      subst hm
      exact readB_sec HR.out hl0 hml
    obtain ⟨b1, o1, a3, c3, esa, hb1', x0, v3, n3⟩ := sview_at (sview_below HS.out hBW) hml
    have hpl := HL.out.2.sec _ (List.getElem_mem hml)
    have hP := putSec_any a3 c3 _ W v3 n3 hpl
    rw [esa] at cD
    obtain ⟨L, hL⟩ := hidEx D.secs[m]
    rw [hL.out] at HB hP x0 hpl
    obtain ⟨N3, hN3⟩ := hidEx L.length
    rw [hN3.out] at hP x0 hpl
    rw [hm] at cN
    have hmz : (m : Int) < (D.secs.length : Int) := by omega
    clear hall v3
    gi_wp2_with (refine ⟨trivial, ?_⟩; gi_at_call 56; refine (callsIn_wide.2 hP).mono ?_; rintro e w2 ⟨rfl, hO2, hb2, -⟩; have bR4 := bR3.below hb2; have cR : w2.cell? ⟨w.heap.size + 1 + 1, 0, none⟩ = some (.slice none 0 0) := bR4.cell 0; have fR := bR4.fz 0; have bQ4 := (bQ3.below hb2).other (C := w.heap.size + 1 + 1) (i := 0) (u := .slice (some ⟨W.heap.size, 0, none⟩) N3 N3) (by omega); have cQ : (w2.setCell ⟨w.heap.size + 1 + 1, 0, none⟩ (.slice (some ⟨W.heap.size, 0, none⟩) N3 N3)).cell? ⟨w.heap.size + 1 + 1 + 1, 0, none⟩ = some (.bool false) := bQ4.cell 0; have fQ := bQ4.fz 0)
    have c4 := (bR4.set 0 (.slice (some ⟨W.heap.size, 0, none⟩) N3 N3)).other (C := w.heap.size + 1 + 1 + 1) (i := 0) (u := .bool true) (by omega)
    have c5 := bQ4.set 0 (.bool true)
    simp only [List.set] at c4 c5
    have hOO : OB ((w2.setCell ⟨w.heap.size + 1 + 1, 0, none⟩ (.slice (some ⟨W.heap.size, 0, none⟩) N3 N3)).setCell ⟨w.heap.size + 1 + 1 + 1, 0, none⟩ (.bool true)) w.heap.size (.slice (some ⟨W.heap.size, 0, none⟩) N3 N3) L := ((hO2.up (Up.set (by omega))).up (Up.set (by omega))).mono (by omega)
    have hDl : D' < W.heap.size := (Array.getElem?_eq_some_iff.1 hK).1
    have hK2 : w2.heap[D']? = some (.deferred (some [])) := (hb2.block D' hDl).trans hK
    have hK' := (KeepsOthers.setCell (w2.setCell ⟨w.heap.size + 1 + 1, 0, none⟩ (.slice (some ⟨W.heap.size, 0, none⟩) N3 N3)) ⟨w.heap.size + 1 + 1 + 1, 0, none⟩ (.bool true)).same D' _ ((KeepsOthers.setCell w2 ⟨w.heap.size + 1 + 1, 0, none⟩ (.slice (some ⟨W.heap.size, 0, none⟩) N3 N3)).same D' _ hK2 rfl) rfl
    have c4' : ((w2.setCell ⟨w.heap.size + 1 + 1, 0, none⟩ (.slice (some ⟨W.heap.size, 0, none⟩) N3 N3)).setCell ⟨w.heap.size + 1 + 1 + 1, 0, none⟩ (.bool true)).cell? ⟨w.heap.size + 1 + 1, 0, none⟩ = some (.slice (some ⟨W.heap.size, 0, none⟩) N3 N3) := c4.cell 0
    have c5' : ((w2.setCell ⟨w.heap.size + 1 + 1, 0, none⟩ (.slice (some ⟨W.heap.size, 0, none⟩) N3 N3)).setCell ⟨w.heap.size + 1 + 1 + 1, 0, none⟩ (.bool true)).cell? ⟨w.heap.size + 1 + 1 + 1, 0, none⟩ = some (.bool true) := c5.cell 0
    have hbe : Below w.heap.size w ((w2.setCell ⟨w.heap.size + 1 + 1, 0, none⟩ (.slice (some ⟨W.heap.size, 0, none⟩) N3 N3)).setCell ⟨w.heap.size + 1 + 1 + 1, 0, none⟩ (.bool true)) := ((hBW.trans (hb2.mono hBW.size)).setCell (p := ⟨w.heap.size + 1 + 1, 0, none⟩) (by show w.heap.size ≤ w.heap.size + 1 + 1; omega) _).setCell (p := ⟨w.heap.size + 1 + 1 + 1, 0, none⟩) (by show w.heap.size ≤ w.heap.size + 1 + 1 + 1; omega) _
    refine ⟨by simp, .inl ⟨_, _, rfl, run_takeDeferred hK', ?_⟩⟩
    have d4 := cell_kept c4' (grownBy_putObj' _ D' (.deferred none)) (fun r e => by cases e; exact ⟨_, hK', rfl⟩)
    have d5 := cell_kept c5' (grownBy_putObj' _ D' (.deferred none)) (fun r e => by cases e; exact ⟨_, hK', rfl⟩)
    refine ⟨.tuple #[(.slice (some ⟨W.heap.size, 0, none⟩) N3 N3), .bool true], ?_, _, true, rfl, by simpa using HR.out, by rw [HB.out]; exact hOO.ownK (grownBy_putObj' _ D' (.deferred none)) (fun r e => by cases e; exact ⟨_, hK', rfl⟩), Below.put' hbe (by omega) hK'⟩
    simp [results, Try.f69, go_sem, d4, d5]
  case stop =>
    rintro D' c pre W hD hpre ⟨rfl, ⟨pre0, x, v, ⟨rfl, hno, hx⟩, bV, bT, L, hL, hO⟩, hk⟩ hK
    have HB : Hid (readB D n = L.2) := by
      show _ = _
      refine readB_hit HR.out ?_
      have hi : D.cache.length - 1 - x.1 < D.cache.length := by have := x.2; omega
      rw [lastW_pass (i := D.cache.length - 1 - x.1 + 1) (by omega) (Nat.le_refl _) (fun j hj hj' => ?_)]
      · rw [lastW_hit hi ?_]
        · rw [List.getElem?_eq_getElem hi] at hL
          rw [Option.some.inj hL]
        · rw [hfn.out] at hx
          simpa [hi] using hx
      · have := hno ⟨D.cache.length - 1 - j, by omega⟩ (prefix_fin hpre _ (by show D.cache.length - 1 - j < x.1; omega))
        rw [hfn.out] at this
        have e : D.cache.length - 1 - (D.cache.length - 1 - j) = j := by omega
        simpa only [e] using this
    have hk0 := hB2.trans hk
    clear hno hx hpre hL hk
    gi_wp2
    have c4' : W.cell? ⟨w.heap.size + 1 + 1, 0, none⟩ = some v := bV.cell 0
    have c5' : W.cell? ⟨w.heap.size + 1 + 1 + 1, 0, none⟩ = some (.bool true) := bT.cell 0
    refine ⟨by simp, .inl ⟨_, _, rfl, run_takeDeferred hK, ?_⟩⟩
    have d4 := cell_kept c4' (grownBy_putObj' _ D' (.deferred none)) (fun r e => by cases e; exact ⟨_, hK, rfl⟩)
    have d5 := cell_kept c5' (grownBy_putObj' _ D' (.deferred none)) (fun r e => by cases e; exact ⟨_, hK, rfl⟩)
    have h1 : v.oneCell' = true := by
      obtain ⟨a', c', rfl, -⟩ := hO.is
      rfl
    refine ⟨.tuple #[v, .bool true], ?_, _, true, rfl, by simpa using HR.out, by rw [HB.out]; exact hO.ownK (grownBy_putObj' _ D' (.deferred none)) (fun r e => by cases e; exact ⟨_, hK, rfl⟩), Below.put' hk0 (by omega) hK⟩
    simp [results, Try.f69, go_sem, d4, d5, h1]
end Go.Proofs.Ytdjaiappaghfnaa

/-
  Bytes of an answer read.
-/
namespace Go.Proofs.Ytdjaiappaghfnaa
open Go.RowKit
set_option maxRecDepth 4000

theorem oz_view {w : World} {B : Nat} {v : Value} {l : List Int} (h : OZ w B v l) : ∃ a c, v = .slice a l.length c ∧ View w a l.length c (bf l) := by
  obtain ⟨a, c, e, h1, h2, h3, h4⟩ := h.is
  refine ⟨a, c, e, ?_⟩
  rcases h4 with rfl | ⟨g, rfl, hg, hr⟩
  · exact ⟨by simp, fun i hi => absurd hi (Nat.not_lt_zero _), fun h => absurd h (Nat.lt_irrefl _)⟩
  · exact hr.view h1 (bytes_of_list h3)

end Go.Proofs.Ytdjaiappaghfnaa

/-
  The program's rootIn.
-/
namespace Go.Proofs.Ytdjaiappaghfnaa
open Go.RowKit
set_option maxRecDepth 4000

set_option maxHeartbeats 4000000 in
theorem rootIn_any (v : Value) (D : PDisk) (n : Int) (w : World) (h : KView w v D) (hf : KFine D) :
    Calls Try.prog 40 #[v, .int .i64 n] w (MeTo w (rootP D n)) := by
  have HK : Hid (KView w v D ∧ KFine D) := ⟨h, hf⟩
  have hlen := readB_len hf n
  obtain ⟨sa, sc, ca, cc, fa, fc, rfl, -, -, -⟩ := h.is
  clear h hf
  have hbA : Below w.heap.size w (w.alloc (.cells #[.slice sa D.secs.length sc, .slice ca D.cache.length cc, .int .i64 D.ops, .slice fa D.faults.length fc, .bool D.down] 31)) := (Below.refl _ _).alloc (Nat.le_refl _) _
  have hX := VN.new w 31 [.slice sa D.secs.length sc, .slice ca D.cache.length cc, .int .i64 D.ops, .slice fa D.faults.length fc, .bool D.down]
  have hsz : (w.alloc (.cells #[.slice sa D.secs.length sc, .slice ca D.cache.length cc, .int .i64 D.ops, .slice fa D.faults.length fc, .bool D.down] 31)).heap.size = w.heap.size + 1 := by simp
  obtain ⟨W1, hW1⟩ : ∃ x, Hid (w.alloc (.cells #[.slice sa D.secs.length sc, .slice ca D.cache.length cc, .int .i64 D.ops, .slice fa D.faults.length fc, .bool D.down] 31) = x) := ⟨_, rfl⟩
  rw [hW1.out] at hbA hX hsz
  have hbB : Below W1.heap.size W1 (W1.alloc (.cells #[.int .i64 0, .int .i64 0] 33)) := (Below.refl _ _).alloc (Nat.le_refl _) _
  have hR := MBox.new W1 0 0
  replace hX := hX.below hbB
  have hB := hbA.trans (hbB.mono hbA.size)
  rw [hsz] at hR
  obtain ⟨W2, hW2⟩ : ∃ x, Hid (W1.alloc (.cells #[.int .i64 0, .int .i64 0] 33) = x) := ⟨_, rfl⟩
  rw [hW2.out] at hR hX hB
  have x0 := hX.cell 0
  have x1 := hX.cell 1
  have x2 := hX.cell 2
  have x3 := hX.cell 3
  have x4 := hX.cell 4
  simp only [List.getElem?_cons_zero, List.getElem?_cons_succ] at x0 x1 x2 x3 x4
  have HR : Hid (rootP D n = if (getMe (readB D n).length (bf (readB D n))).2.2 = true ∧ (getMe (readB D n).length (bf (readB D n))).1 % 2 = n then getMe (readB D n).length (bf (readB D n)) else (0, 0, false)) := rfl
  have hread := (implReadSec_any _ D n W2 (HK.out.1.below hB) HK.out.2).mono (fun _ _ h => h.bto)
  obtain ⟨P, hP⟩ := hidEx (rootP D n)
  obtain ⟨l, hl⟩ := hidEx (readB D n)
  obtain ⟨ok, hok⟩ := hidEx (hasB D n)
  rw [hP.out, hl.out] at HR
  rw [hl.out] at hlen
  rw [hl.out, hok.out] at hread
  rw [hP.out]
  clear HK hP hl hok hbB hbA hX
  go_enter Try.func40, Try.ntmps40
  go_wp2_with (first | rw [hW1.out] | rw [hW2.out])
  refine hread.mono ?_
  rintro e w3 ⟨v3, rfl, hoz, hb3⟩
  have hR3 : MBox w3 (w.heap.size + 1) 0 0 := hR.below hb3
  have hB3 := hB.trans (hb3.mono hB.size)
  obtain ⟨a, c, e3, h1, h2, h3, h4⟩ := hoz.is
  obtain ⟨a', c', e4, hv⟩ := oz_view hoz
  subst e3
  cases e4
  have hF : ∀ i, i < l.length → 0 ≤ bf l i ∧ bf l i ≤ 255 := bytes_of_list h3
  have hcs := getMe_cases hF
  have hG := implGetMeta_any a l.length c (bf l) w3 (fun h4' => by
    rcases h4 with h4 | ⟨g, e, -, -⟩
    · subst h4; simp at h4'
    · exact ⟨g, e⟩) hv hlen
  obtain ⟨g, r, is, hM⟩ : ∃ g r is, Hid (getMe l.length (bf l) = (g, r, is)) := ⟨_, _, _, rfl⟩
  rw [hM.out] at HR hcs hG
  dsimp only at HR hcs
  clear hread hoz hb3 hR hB h1 h2 h3 h4 hv hF hM x0 x1 x2 x3 x4 hW1 hW2
  go_wp2_with fail
  refine hG.mono ?_
  rintro e w4 ⟨rfl, hb4⟩
  have hR4 := hR3.below hb4
  have hB4 := hB3.trans (hb4.mono hB3.size)
  have hM := MBox.new w4 g r
  have hbM : Below w4.heap.size w4 (w4.alloc (.cells #[.int .i64 g, .int .i64 r] 33)) := (Below.refl _ _).alloc (Nat.le_refl _) _
  have hlt := hR4.lt
  have hR5 := hR4.below hbM
  have hB5 := hB4.trans (hbM.mono hB4.size)
  obtain ⟨W5, hW5⟩ : ∃ x, Hid (w4.alloc (.cells #[.int .i64 g, .int .i64 r] 33) = x) := ⟨_, rfl⟩
  rw [hW5.out] at hM hR5 hB5
  obtain ⟨m0, m1⟩ := hM.cells
  obtain ⟨x0, x1⟩ := hR5.cells
  obtain ⟨r0, r1⟩ := hR5.frozen
  clear hG hb4 hR3 hB3 hR4 hB4 hbM
  by_cases hall : is = true ∧ g % 2 = n
  · have HP : Hid (P = (g, r, true)) := by
      show _ = _
      have := HR.out
      rw [if_pos hall] at this
      rw [this, hall.1]
    have hgs := stored2 (.int .i64 g) (.int .i64 r) x0 x1
    have HB : Hid (Below w.heap.size w ((W5.setCell ⟨w.heap.size + 1, 0, none⟩ (.int .i64 g)).setCell ⟨w.heap.size + 1, 1, none⟩ (.int .i64 r))) := (hB5.setCell (Nat.le_succ _) _).setCell (Nat.le_succ _) _
    obtain ⟨rfl, h2⟩ := hall
    have hg0 : 0 ≤ g := by rcases hcs with h | h; exact h.2.1; cases h
    have hq : (g % 2 == n) = true := by rw [h2]; exact beq_self_eq_true _
    clear HR hcs hM hR5 hB5
    go_wp2_with (rw [hW5.out])
    exact bodyPost_ret (v := .tuple #[.agg #[.int .i64 g, .int .i64 r], .bool true]) (by simp [results, Try.results40, go_sem, hgs]) rfl (by rw [HP.out]; exact ⟨rfl, HB.out⟩)
  · have HP : Hid (P = (0, 0, false)) := by
      show _ = _
      have := HR.out
      rw [if_neg hall] at this
      exact this
    have hgs := stored2 (.int .i64 0) (.int .i64 0) x0 x1
    have HB : Hid (Below w.heap.size w ((W5.setCell ⟨w.heap.size + 1, 0, none⟩ (.int .i64 0)).setCell ⟨w.heap.size + 1, 1, none⟩ (.int .i64 0))) := (hB5.setCell (Nat.le_succ _) _).setCell (Nat.le_succ _) _
    clear HR hM hR5 hB5
    cases is with
    | false =>
      clear hall hcs
      go_wp2_with (rw [hW5.out])
      exact bodyPost_ret (v := .tuple #[.agg #[.int .i64 0, .int .i64 0], .bool false]) (by simp [results, Try.results40, go_sem, hgs]) rfl (by rw [HP.out]; exact ⟨rfl, HB.out⟩)
    | true =>
      have hg0 : 0 ≤ g := by rcases hcs with h | h; exact h.2.1; cases h
      have h2 : ¬ g % 2 = n := fun h => hall ⟨rfl, h⟩
      have hq : (g % 2 == n) = false := beq_eq_false_iff_ne.2 h2
      clear hall hcs
      go_wp2_with (rw [hW5.out])
      exact bodyPost_ret (v := .tuple #[.agg #[.int .i64 0, .int .i64 0], .bool false]) (by simp [results, Try.results40, go_sem, hgs]) rfl (by rw [HP.out]; exact ⟨rfl, HB.out⟩)
end Go.Proofs.Ytdjaiappaghfnaa

/-
  The program's BestMeta.
-/
namespace Go.Proofs.Ytdjaiappaghfnaa
open Go.RowKit
set_option maxRecDepth 4000

theorem eqM2 (a r b s : Int) (W : World) : (binOp .eql 33 (.agg #[.int .i64 a, .int .i64 r]) (.agg #[.int .i64 b, .int .i64 s])).run Try.prog W = .ok (.bool (decide (a = b) && decide (r = s))) W := by
  by_cases h1 : a = b <;> by_cases h2 : r = s <;> simp [go_sem, h1, h2]
/-- The best root so far, as the program holds it. -/
def heldB (b : Int × Int × Bool) : Int × Int := if b.2.2 = true then (b.1, b.2.1) else (-1, 0)
theorem heldB_newer {b r : Int × Int × Bool} (hb : Sound b) (hr : Sound r) : heldB (newerP b r) = if r.2.2 = true ∧ (heldB b).1 < r.1 then (r.1, r.2.1) else heldB b := by
  obtain ⟨b1, b2, b3⟩ := b
  obtain ⟨r1, r2, r3⟩ := r
  rcases hr with ⟨h1, h2, -⟩ | h1
  · dsimp only at h1 h2
    subst h1
    rcases hb with ⟨k1, k2, -⟩ | k1
    · dsimp only at k1 k2
      subst k1
      unfold newerP heldB
      dsimp only
      by_cases h : b1 < r1
      · simp [h]
      · simp [h]
    · cases k1
      unfold newerP heldB
      dsimp only
      simp
      omega
  · cases h1
    unfold newerP heldB
    simp

/-- What the loop keeps. -/
structure BL (w : World) (D : PDisk) (v : Value) (cs : List Value) (R N B : Nat) (k : Nat) (W : World) : Prop where
  x : VN W w.heap.size 31 cs
  r : MBox W R 0 0
  no : MBox W N (-1) 0
  best : MBox W B (heldB (bestP D k)).1 (heldB (bestP D k)).2
  below : Below w.heap.size w W
  lo : w.heap.size < R
  rn : R < N
  nb : N < B
theorem BL.on {w : World} {D : PDisk} {v : Value} {cs : List Value} {R N B : Nat} {k : Nat} {W W' : World} (h : BL w D v cs R N B k W) (hb : Below W.heap.size W W') : BL w D v cs R N B k W' :=
  ⟨h.x.below hb, h.r.below hb, h.no.below hb, h.best.below hb, h.below.trans (hb.mono h.below.size), h.lo, h.rn, h.nb⟩

set_option maxHeartbeats 8000000 in
theorem implBest_any (v : Value) (D : PDisk) (w : World) (h : KView w v D) (hf : KFine D) (hy : ∀ n : Int, ∀ i, i < (readB D n).length → 0 ≤ bf (readB D n) i ∧ bf (readB D n) i ≤ 255) :
    Calls Try.prog 16 #[v] w (MeTo w (bestP D 2)) := by
  have hkv := h
  have HF : Hid (KFine D) := hf
  have HKV := hkv
  have HS : Hid (∀ k, Sound (bestP D k)) := bestP_sound hy
  have HSR : Hid (∀ n, Sound (rootP D n)) := fun n => rootP_sound (hy n)
  obtain ⟨sa, sc, ca, cc, fa, fc, rfl, -, -, -⟩ := h.is
  replace HKV : Hid (KView w _ D) := HKV
  clear h hf hy
  obtain ⟨cs, hcs⟩ : ∃ cs : List Value, Hid (cs = [.slice sa D.secs.length sc, .slice ca D.cache.length cc, .int .i64 D.ops, .slice fa D.faults.length fc, .bool D.down]) := ⟨_, rfl⟩
  have hX := VN.new w 31 [.slice sa D.secs.length sc, .slice ca D.cache.length cc, .int .i64 D.ops, .slice fa D.faults.length fc, .bool D.down]
  have hb1 : Below w.heap.size w (w.alloc (.cells #[.slice sa D.secs.length sc, .slice ca D.cache.length cc, .int .i64 D.ops, .slice fa D.faults.length fc, .bool D.down] 31)) := (Below.refl _ _).alloc (Nat.le_refl _) _
  have s1 : (w.alloc (.cells #[.slice sa D.secs.length sc, .slice ca D.cache.length cc, .int .i64 D.ops, .slice fa D.faults.length fc, .bool D.down] 31)).heap.size = w.heap.size + 1 := by simp
  obtain ⟨W1, hW1⟩ : ∃ x, Hid (w.alloc (.cells #[.slice sa D.secs.length sc, .slice ca D.cache.length cc, .int .i64 D.ops, .slice fa D.faults.length fc, .bool D.down] 31) = x) := ⟨_, rfl⟩
  rw [hW1.out] at hX hb1 s1
  have hb2 : Below W1.heap.size W1 (W1.alloc (.cells #[.int .i64 0, .int .i64 0] 33)) := (Below.refl _ _).alloc (Nat.le_refl _) _
  have s2 : (W1.alloc (.cells #[.int .i64 0, .int .i64 0] 33)).heap.size = w.heap.size + 2 := by simp [s1]
  have hR := MBox.new W1 0 0
  obtain ⟨W2, hW2⟩ : ∃ x, Hid (W1.alloc (.cells #[.int .i64 0, .int .i64 0] 33) = x) := ⟨_, rfl⟩
  rw [hW2.out] at hR hb2 s2
  have hb3 : Below W2.heap.size W2 (W2.alloc (.cells #[.int .i64 (-1), .int .i64 0] 33)) := (Below.refl _ _).alloc (Nat.le_refl _) _
  have s3 : (W2.alloc (.cells #[.int .i64 (-1), .int .i64 0] 33)).heap.size = w.heap.size + 3 := by simp [s2]
  have hN := MBox.new W2 (-1) 0
  obtain ⟨W3, hW3⟩ : ∃ x, Hid (W2.alloc (.cells #[.int .i64 (-1), .int .i64 0] 33) = x) := ⟨_, rfl⟩
  rw [hW3.out] at hN hb3 s3
  have hb4 : Below W3.heap.size W3 (W3.alloc (.cells #[.int .i64 (-1), .int .i64 0] 33)) := (Below.refl _ _).alloc (Nat.le_refl _) _
  have hBst := MBox.new W3 (-1) 0
  obtain ⟨W4, hW4⟩ : ∃ x, Hid (W3.alloc (.cells #[.int .i64 (-1), .int .i64 0] 33) = x) := ⟨_, rfl⟩
  rw [hW4.out] at hBst hb4
  obtain ⟨n0, n1⟩ := hN.cells
  have hB12 := hb2.trans (hb3.mono hb2.size)
  have hB14 := hB12.trans (hb4.mono hB12.size)
  obtain ⟨R, hRe⟩ : ∃ x, Hid (W1.heap.size = x) := ⟨_, rfl⟩
  obtain ⟨N, hNe⟩ : ∃ x, Hid (W2.heap.size = x) := ⟨_, rfl⟩
  obtain ⟨B, hBe⟩ : ∃ x, Hid (W3.heap.size = x) := ⟨_, rfl⟩
  have hRo := hRe.out
  have hNo := hNe.out
  have hBo := hBe.out
  have hL : BL w D (.agg #[.slice sa D.secs.length sc, .slice ca D.cache.length cc, .int .i64 D.ops, .slice fa D.faults.length fc, .bool D.down]) cs R N B 0 W4 :=
    ⟨by rw [hcs.out]; exact hX.below hB14, by rw [← hRo]; exact hR.below (hb3.trans (hb4.mono hb3.size)), by rw [← hNo]; exact hN.below hb4, by rw [← hBo]; exact hBst, hb1.trans (hB14.mono hb1.size), by omega, by omega, by omega⟩
  have HL : Hid _ := hL
  clear hRo hNo hBo
  clear hL hBst hN hR hX hb1 hb2 hb3 hb4 hB12 hB14 hkv s1 s2 s3
  go_enter Try.func16, Try.ntmps16
  go_wp2_with (first | rw [hW1.out] | rw [hW2.out] | rw [hW3.out] | rw [hW4.out])
  rw [hRe.out, hNe.out, hBe.out]
  clear hW1 hW2 hW3 hW4 hRe hNe hBe n0 n1
  go_loopg [11] 2 (fun q i wr => ∃ k : Nat, k ≤ 2 ∧ q = 2 - k ∧ i = .int .i64 k ∧ BL w D (.agg #[.slice sa D.secs.length sc, .slice ca D.cache.length cc, .int .i64 D.ops, .slice fa D.faults.length fc, .bool D.down]) cs R N B k wr)
  case atStart => exact ⟨0, Nat.zero_le _, rfl, rfl, HL.out⟩
  case round =>
    clear HL
    obtain ⟨k, hk, rfl, rfl, hL⟩ := hrel
    by_cases hlt : k < 2
    · have hkz : (k : Int) < 2 := by omega
      have hR := rootIn_any _ D k wr (HKV.out.below hL.below) HF.out
      have HNX : Hid (heldB (bestP D (k + 1)) = if (rootP D k).2.2 = true ∧ (heldB (bestP D k)).1 < (rootP D k).1 then ((rootP D k).1, (rootP D k).2.1) else heldB (bestP D k)) := heldB_newer (HS.out k) (HSR.out k)
      have x0 : wr.cell? ⟨w.heap.size, 0, none⟩ = some (.slice sa D.secs.length sc) := by have := hL.x.cell 0; rw [hcs.out] at this; exact this
      have x1 : wr.cell? ⟨w.heap.size, 1, none⟩ = some (.slice ca D.cache.length cc) := by have := hL.x.cell 1; rw [hcs.out] at this; exact this
      have x2 : wr.cell? ⟨w.heap.size, 2, none⟩ = some (.int .i64 D.ops) := by have := hL.x.cell 2; rw [hcs.out] at this; exact this
      have x3 : wr.cell? ⟨w.heap.size, 3, none⟩ = some (.slice fa D.faults.length fc) := by have := hL.x.cell 3; rw [hcs.out] at this; exact this
      have x4 : wr.cell? ⟨w.heap.size, 4, none⟩ = some (.bool D.down) := by have := hL.x.cell 4; rw [hcs.out] at this; exact this
      obtain ⟨g, r, is, hP⟩ : ∃ g r is, Hid (rootP D k = (g, r, is)) := ⟨_, _, _, rfl⟩
      rw [hP.out] at hR HNX
      go_wp2_with fail
      refine hR.mono ?_
      rintro e w5 ⟨rfl, hb5⟩
      replace hL := hL.on hb5
      have hBM := hL.best.lt
      have hbM : Below w5.heap.size w5 (w5.alloc (.cells #[.int .i64 g, .int .i64 r] 33)) := (Below.refl _ _).alloc (Nat.le_refl _) _
      have hM := MBox.new w5 g r
      replace hL := hL.on hbM
      obtain ⟨W6, hW6⟩ : ∃ x, Hid (w5.alloc (.cells #[.int .i64 g, .int .i64 r] 33) = x) := ⟨_, rfl⟩
      rw [hW6.out] at hL hM
      obtain ⟨m0, m1⟩ := hM.cells
      obtain ⟨b0, b1⟩ := hL.best.cells
      obtain ⟨f0, f1⟩ := hL.best.frozen
      clear hR hP hb5 hbM x0 x1 x2 x3 x4
      obtain ⟨p, q, hpq⟩ : ∃ p q, Hid (heldB (bestP D k) = (p, q)) := ⟨_, _, rfl⟩
      rw [hpq.out] at b0 b1 HNX
      dsimp only at b0 b1 HNX
      have hnb := hL.nb
      have hrn := hL.rn
      have hlo := hL.lo
      by_cases hc : is = true ∧ p < g
      · have hnx : heldB (bestP D (k + 1)) = (g, r) := by rw [HNX.out, if_pos hc]
        have HL : Hid (BL w D (.agg #[.slice sa D.secs.length sc, .slice ca D.cache.length cc, .int .i64 D.ops, .slice fa D.faults.length fc, .bool D.down]) cs R N B (k + 1) ((W6.setCell ⟨B, 0, none⟩ (.int .i64 g)).setCell ⟨B, 1, none⟩ (.int .i64 r))) :=
          ⟨(hL.x.other (by omega)).other (by omega), (hL.r.other (by omega) _).other (by omega) _, (hL.no.other (by omega) _).other (by omega) _, by rw [hnx]; exact (hL.best.set0 g).set1 r, (hL.below.setCell (p := ⟨B, 0, none⟩) (by show _ ≤ B; omega) _).setCell (p := ⟨B, 1, none⟩) (by show _ ≤ B; omega) _, hlo, hrn, hnb⟩
        obtain ⟨rfl, hlt2⟩ := hc
        clear HNX hnx hL hM
        go_wp2_with (rw [hW6.out])
        go_roundg (2 - (k + 1))
        case measure => omega
        case rel => exact ⟨k + 1, by omega, rfl, by go_num, HL.out⟩
      · have hnx : heldB (bestP D (k + 1)) = heldB (bestP D k) := by rw [HNX.out, if_neg hc, hpq.out]
        have HL : Hid (BL w D (.agg #[.slice sa D.secs.length sc, .slice ca D.cache.length cc, .int .i64 D.ops, .slice fa D.faults.length fc, .bool D.down]) cs R N B (k + 1) W6) :=
          ⟨hL.x, hL.r, hL.no, by rw [hnx]; exact hL.best, hL.below, hlo, hrn, hnb⟩
        clear HNX hnx hL hM
        cases is with
        | false =>
          clear hc
          go_wp2_with (rw [hW6.out])
          go_roundg (2 - (k + 1))
          case measure => omega
          case rel => exact ⟨k + 1, by omega, rfl, by go_num, HL.out⟩
        | true =>
          have hlt2 : ¬ p < g := fun h => hc ⟨rfl, h⟩
          clear hc
          go_wp2_with (rw [hW6.out])
          go_roundg (2 - (k + 1))
          case measure => omega
          case rel => exact ⟨k + 1, by omega, rfl, by go_num, HL.out⟩
    · obtain rfl : k = 2 := by omega
      have hkz : ¬ ((2 : Nat) : Int) < 2 := by omega
      obtain ⟨b0, b1⟩ := hL.best.cells
      obtain ⟨n0, n1⟩ := hL.no.cells
      obtain ⟨r0, r1⟩ := hL.r.cells
      obtain ⟨f0, f1⟩ := hL.r.frozen
      have hrn := hL.rn
      have hnb := hL.nb
      have hlo := hL.lo
      have hB := hL.below
      have hs2 := HS.out 2
      obtain ⟨g, r, is, hP⟩ : ∃ g r is, Hid (bestP D 2 = (g, r, is)) := ⟨_, _, _, rfl⟩
      rw [hP.out] at b0 b1 hs2
      clear hL
      cases is with
      | true =>
        have hg : 0 ≤ g := by rcases hs2 with h | h; exact h.2.1; cases h
        simp only [heldB, if_true] at b0 b1
        have heq := fun W => eqM2 g r (-1) 0 W
        rw [show (decide (g = -1) && decide (r = 0)) = false by rw [decide_eq_false (by omega)]; rfl] at heq
        have hgs := stored2 (.int .i64 g) (.int .i64 r) r0 r1
        have HB : Hid (Below w.heap.size w ((wr.setCell ⟨R, 0, none⟩ (.int .i64 g)).setCell ⟨R, 1, none⟩ (.int .i64 r))) := (hB.setCell (p := ⟨R, 0, none⟩) (by show _ ≤ R; omega) _).setCell (p := ⟨R, 1, none⟩) (by show _ ≤ R; omega) _
        clear hB hs2
        go_wp2
        exact bodyPost_ret (v := .tuple #[.agg #[.int .i64 g, .int .i64 r], .bool true]) (by simp [results, Try.results16, go_sem, hgs]) rfl (by rw [hP.out]; exact ⟨rfl, HB.out⟩)
      | false =>
        obtain ⟨rfl, rfl⟩ : g = 0 ∧ r = 0 := by
          rcases hs2 with h | h
          · cases h.1
          · cases h; exact ⟨rfl, rfl⟩
        simp only [heldB] at b0 b1
        have heq := fun W => eqM2 (-1) 0 (-1) 0 W
        rw [show (decide ((-1 : Int) = -1) && decide ((0 : Int) = 0)) = true by decide] at heq
        have hgs := stored2 (.int .i64 0) (.int .i64 0) r0 r1
        have HB : Hid (Below w.heap.size w ((wr.setCell ⟨R, 0, none⟩ (.int .i64 0)).setCell ⟨R, 1, none⟩ (.int .i64 0))) := (hB.setCell (p := ⟨R, 0, none⟩) (by show _ ≤ R; omega) _).setCell (p := ⟨R, 1, none⟩) (by show _ ≤ R; omega) _
        clear hB hs2
        go_wp2
        exact bodyPost_ret (v := .tuple #[.agg #[.int .i64 0, .int .i64 0], .bool false]) (by simp [results, Try.results16, go_sem, hgs]) rfl (by rw [hP.out]; exact ⟨rfl, HB.out⟩)
end Go.Proofs.Ytdjaiappaghfnaa

/-
  A disk of the call's own whose cache and faults may grow in place.
-/
namespace Go.Proofs.Ytdjaiappaghfnaa
open Go.RowKit
set_option maxRecDepth 4000

def KOC (w : World) (B : Nat) (v : Value) (D : PDisk) : Prop := ∃ sa sc ca cc fa fc ss cs, v = dval D sa sc ca cc fa fc ∧ KO w B sa sc ca cc fa fc ss cs D ∧ w.ownsRow B 79 2 (.slice ca D.cache.length cc) D.cache.length (wcells D.cache cs) ∧ w.ownsRow B 70 3 (.slice fa D.faults.length fc) D.faults.length (fcells D.faults)
theorem own_rlF {W : World} {base T c N cap : Nat} {a : Option Addr} {xs : List Value} (h : W.ownsRow base T c (.slice a N cap) N xs) : RL T W base a xs := by
  obtain ⟨a', c', e, -, -, h3⟩ := own_rl h
  cases e
  exact h3
theorem KOC.own {w : World} {B : Nat} {v : Value} {D : PDisk} (h : KOC w B v D) : KOwn w B v D := by
  obtain ⟨sa, sc, ca, cc, fa, fc, ss, cs, e, hk, -⟩ := h
  exact ⟨sa, sc, ca, cc, fa, fc, ss, cs, e, hk⟩
end Go.Proofs.Ytdjaiappaghfnaa

/-
  A disk of the call's own whose cache alone may grow in place.
-/
namespace Go.Proofs.Ytdjaiappaghfnaa
open Go.RowKit
set_option maxRecDepth 4000

def KOW (w : World) (B : Nat) (v : Value) (D : PDisk) : Prop := ∃ sa sc ca cc fa fc ss cs, v = dval D sa sc ca cc fa fc ∧ KO w B sa sc ca cc fa fc ss cs D ∧ w.ownsRow B 79 2 (.slice ca D.cache.length cc) D.cache.length (wcells D.cache cs)
theorem KOW.own {w : World} {B : Nat} {v : Value} {D : PDisk} (h : KOW w B v D) : KOwn w B v D := by
  obtain ⟨sa, sc, ca, cc, fa, fc, ss, cs, e, hk, -⟩ := h
  exact ⟨sa, sc, ca, cc, fa, fc, ss, cs, e, hk⟩
end Go.Proofs.Ytdjaiappaghfnaa

