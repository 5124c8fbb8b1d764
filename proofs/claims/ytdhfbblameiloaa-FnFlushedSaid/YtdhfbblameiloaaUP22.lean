/-
  Together: ReadSecI, OzView, Big
-/
import Derived.Test.YtdhfbblameiloaaUP21
import Derived.Test.YtdhfbblameiloaaUP14
import Derived.Test.YtdhfbblameiloaaUP2
import Derived.Test.YtdhfbblameiloaaUP10
import Derived.Test.YtdhfbblameiloaaUP1
/-
  The program's ReadSec.
-/
namespace Go.Proofs.Ytdhfbblameiloaa
open Go.RowKit
set_option maxRecDepth 4000

attribute [local go_sem] Oper.semAt_some

theorem VN.ownK {W W' : World} {row : Option Nat} {B : Nat} {T : TypeId} {xs : List Value} (h : VN W B T xs) (hg : W.grownBy W' row) (hr : ∀ r, row = some r → ∃ o : Obj, W.heap[r]? = some o ∧ o.isCells = false) : VN W' B T xs :=
  (grownBy_keeps_cells hg hr h rfl).trans h
theorem OB.ownK {W W' : World} {row : Option Nat} {B : Nat} {v : Value} {l : List Int} (h : OB W B v l) (hg : W.grownBy W' row) (hr : ∀ r, row = some r → ∃ o : Obj, W.heap[r]? = some o ∧ o.isCells = false) : OB W' B v l := by
  obtain ⟨a, c, e, h1, h2, h3, h4⟩ := h.is
  refine ⟨a, c, e, h1, h2, h3, ?_⟩
  rcases h4 with h4 | ⟨g, ea, hb, hrow⟩
  · exact .inl h4
  · obtain ⟨cur, hcur, hx⟩ := hrow
    exact .inr ⟨g, ea, hb, cur, (grownBy_keeps_cells hg hr hcur rfl).trans hcur, hx⟩
/-- What stops behind others that were passed by. -/
theorem prefix_fin {n : Nat} {pre : List (Fin n)} {x : Fin n} (h : pre ++ [x] <+: List.finRange n) : ∀ y : Fin n, y.1 < x.1 → y ∈ pre := by
  obtain ⟨t, ht⟩ := h
  have hlen : pre.length < n := by
    have := congrArg List.length ht
    simp at this
    omega
  have hx : x.1 = pre.length := by
    have e1 : (List.finRange n)[pre.length]? = some x := by rw [← ht, List.append_assoc, List.getElem?_append_right (Nat.le_refl _)]; simp
    rw [List.getElem?_eq_getElem (by simpa using hlen)] at e1
    simp at e1
    rw [← e1]
  intro y hy
  have e2 : (List.finRange n)[y.1]? = some y := by rw [List.getElem?_eq_getElem (by simp)]; simp
  rw [← ht, List.append_assoc, List.getElem?_append_left (by omega)] at e2
  exact List.mem_of_getElem? e2
/-- Writes that are passed by. -/
theorem lastW_pass {l : List (Int × List Int)} {n : Int} {i : Nat} : ∀ {k : Nat}, i ≤ k → k ≤ l.length → (∀ j, i ≤ j → j < k → (l.getD j (0, [])).1 ≠ n) → lastW l n k = lastW l n i
  | 0, h, _, _ => by rw [show i = 0 by omega]
  | k + 1, h, hl, hm => by
    by_cases e : i = k + 1
    · rw [e]
    · have h1 := hm k (by omega) (by omega)
      have hk : k < l.length := by omega
      rw [lastW_miss hk (by simpa [hk] using h1)]
      exact lastW_pass (by omega) (by omega) (fun j hj hj' => hm j hj (by omega))

set_option maxHeartbeats 1000000 in
theorem hasSec_any (v : Value) (D : PDisk) (n : Int) (w : World) (h : KView w v D) :
    Calls Try.prog 62 #[v, .int .i64 n] w fun e w' => ∃ r : Bool, e = .returned (.bool r) ∧ (r = true ↔ HasS D n) ∧ Below w.heap.size w w' := by
  obtain ⟨sa, sc, ca, cc, fa, fc, rfl, -, -, -⟩ := h.is
  clear h
  have hb : Below w.heap.size w (w.alloc (.cells #[.slice sa D.secs.length sc, .slice ca D.cache.length cc, .int .i64 D.ops, .slice fa D.faults.length fc, .bool D.down] 32)) := (Below.refl _ _).alloc (Nat.le_refl _) _
  by_cases h0 : 0 ≤ n
  · go_enter Try.func62, Try.ntmps62
    go_wp2
    go_ret
    exact ⟨decide (n < D.secs.length), rfl, by simp [HasS, h0], hb⟩
  · go_enter Try.func62, Try.ntmps62
    go_wp2
    go_ret
    exact .inl ⟨rfl, fun h => by have := h.1; omega, hb⟩

set_option linter.unusedSimpArgs false in
set_option maxRecDepth 100000 in
set_option maxHeartbeats 4000000 in
theorem implReadSec_any (v : Value) (D : PDisk) (n : Int) (w : World) (h : KView w v D) (hf : KFine D) :
    Calls Try.prog 23 #[v, .int .i64 n] w (ReadTo w D n) := by
  have HK : Hid (KView w v D ∧ KFine D) := ⟨h, hf⟩
  obtain ⟨sa, sc, ca, cc, fa, fc, rfl, hs, hc, -⟩ := h.is
  have HS : Hid (SView w sa sc D.secs) := hs
  obtain ⟨us, hus, hlv⟩ := wcells_of hc
  have hns := hf.ns
  have hnc := hf.nc
  have HL : Hid ((∀ i (hi : i < D.cache.length), LV w (us i) (D.cache[i]).2) ∧ KFine D) := ⟨hlv, hf⟩
  clear h hf hs hc hlv
  obtain ⟨fn, hfn⟩ : ∃ fn : Nat → Int, Hid (fn = fun i => (D.cache.getD i (0, [])).1) := ⟨_, rfl⟩
  rw [← hfn.out] at hus
  have hB0 : Below w.heap.size w ((((w.alloc (.cells #[.slice sa D.secs.length sc, .slice ca D.cache.length cc, .int .i64 D.ops, .slice fa D.faults.length fc, .bool D.down] 32)).alloc (.cells #[.int .i64 n] 3)).alloc (.cells #[.slice none 0 0] 27)).alloc (.cells #[.bool false] 4)) := ((((Below.refl _ _).alloc (Nat.le_refl _) _).alloc (by simp) _).alloc (by simp; omega) _).alloc (by simp; omega) _
  refine (callsIn_wide (n := 6)).1 ?_
  refine callsIn_of_wp_marks Try.func23 rfl trivial ?_ rfl
  simp only [Try.ntmps23, List.size_toArray, List.length_cons, List.length_nil, Nat.reduceAdd, Nat.reduceSub, Array.replicate_succ, Array.replicate_zero, List.push_toArray, List.append_toArray, List.nil_append, List.cons_append]
  have hH := fun W (hb : Below w.heap.size w W) => hasSec_any _ D n W (HK.out.1.below hb)
  have bD := (((VN.new w 32 [.slice sa D.secs.length sc, .slice ca D.cache.length cc, .int .i64 D.ops, .slice fa D.faults.length fc, .bool D.down]).below ((Below.refl _ _).alloc (Nat.le_refl _) (.cells #[.int .i64 n] 3))).below ((Below.refl _ _).alloc (Nat.le_refl _) (.cells #[.slice none 0 0] 27))).below ((Below.refl _ _).alloc (Nat.le_refl _) (.cells #[.bool false] 4))
  have bN := ((VN.new (w.alloc (.cells #[.slice sa D.secs.length sc, .slice ca D.cache.length cc, .int .i64 D.ops, .slice fa D.faults.length fc, .bool D.down] 32)) 3 [.int .i64 n]).below ((Below.refl _ _).alloc (Nat.le_refl _) (.cells #[.slice none 0 0] 27))).below ((Below.refl _ _).alloc (Nat.le_refl _) (.cells #[.bool false] 4))
  have bR := (VN.new ((w.alloc (.cells #[.slice sa D.secs.length sc, .slice ca D.cache.length cc, .int .i64 D.ops, .slice fa D.faults.length fc, .bool D.down] 32)).alloc (.cells #[.int .i64 n] 3)) 27 [.slice none 0 0]).below ((Below.refl _ _).alloc (Nat.le_refl _) (.cells #[.bool false] 4))
  have bQ := VN.new (((w.alloc (.cells #[.slice sa D.secs.length sc, .slice ca D.cache.length cc, .int .i64 D.ops, .slice fa D.faults.length fc, .bool D.down] 32)).alloc (.cells #[.int .i64 n] 3)).alloc (.cells #[.slice none 0 0] 27)) 4 [.bool false]
  simp only [World.size_alloc] at bN bR bQ
  by_cases hr : HasS D n
  case neg =>
    have HR : Hid (¬ HasS D n) := hr
    gi_wp2_with (refine ⟨trivial, ?_⟩; gi_at_call 62; refine (callsIn_wide.2 (hH _ hB0)).mono ?_; rintro e w1 ⟨r, rfl, hr1, hb1⟩; obtain rfl : r = false := (by cases r with | false => rfl | true => exact absurd (hr1.1 rfl) hr); clear hr1; have bR1 := (bR.below hb1).below ((Below.refl _ _).alloc (Nat.le_refl _) (.cells #[] 5)); have cR : (w1.alloc (.cells #[] 5)).cell? ⟨w.heap.size + 1 + 1, 0, none⟩ = some (.slice none 0 0) := bR1.cell 0; have fR := bR1.fz 0; have bQ1 := ((bQ.below hb1).below ((Below.refl _ _).alloc (Nat.le_refl _) (.cells #[] 5))).other (C := w.heap.size + 1 + 1) (i := 0) (u := .slice (some ⟨w1.heap.size, 0, none⟩) 0 0) (by omega); have cQ : ((w1.alloc (.cells #[] 5)).setCell ⟨w.heap.size + 1 + 1, 0, none⟩ (.slice (some ⟨w1.heap.size, 0, none⟩) 0 0)).cell? ⟨w.heap.size + 1 + 1 + 1, 0, none⟩ = some (.bool false) := bQ1.cell 0; have fQ := bQ1.fz 0)
    have c4 := (bR1.set 0 (.slice (some ⟨w1.heap.size, 0, none⟩) 0 0)).other (C := w.heap.size + 1 + 1 + 1) (i := 0) (u := .bool false) (by omega)
    have c5 := bQ1.set 0 (.bool false)
    simp only [List.set] at c4 c5
    have c4' : (((w1.alloc (.cells #[] 5)).setCell ⟨w.heap.size + 1 + 1, 0, none⟩ (.slice (some ⟨w1.heap.size, 0, none⟩) 0 0)).setCell ⟨w.heap.size + 1 + 1 + 1, 0, none⟩ (.bool false)).cell? ⟨w.heap.size + 1 + 1, 0, none⟩ = some (.slice (some ⟨w1.heap.size, 0, none⟩) 0 0) := c4.cell 0
    have c5' : (((w1.alloc (.cells #[] 5)).setCell ⟨w.heap.size + 1 + 1, 0, none⟩ (.slice (some ⟨w1.heap.size, 0, none⟩) 0 0)).setCell ⟨w.heap.size + 1 + 1 + 1, 0, none⟩ (.bool false)).cell? ⟨w.heap.size + 1 + 1 + 1, 0, none⟩ = some (.bool false) := c5.cell 0
    have hBB : Below w.heap.size w w1 := hB0.trans (hb1.mono hB0.size)
    refine ⟨.tuple #[.slice (some ⟨w1.heap.size, 0, none⟩) 0 0, .bool false], ?_, _, false, rfl, by simpa using HR.out, by rw [readB_none HR.out]; exact ⟨_, 0, rfl, Nat.le_refl _, (fun e => by cases e), by simp, .inl rfl⟩, ((hBB.alloc hBB.size _).setCell (p := ⟨w.heap.size + 1 + 1, 0, none⟩) (by show w.heap.size ≤ w.heap.size + 1 + 1; omega) _).setCell (p := ⟨w.heap.size + 1 + 1 + 1, 0, none⟩) (by show w.heap.size ≤ w.heap.size + 1 + 1 + 1; omega) _⟩
    simp [results, Try.f23, go_sem, c4', c5']
  have HR : Hid (HasS D n) := hr
  gi_wp2_with (first
    | (refine ⟨trivial, ?_⟩; gi_at_call 62; refine (callsIn_wide.2 (hH _ hB0)).mono ?_; rintro e w1 ⟨r, rfl, hr1, hb1⟩; obtain rfl : r = true := hr1.2 hr; clear hr1; have bD1 := bD.below hb1; have d1 : w1.cell? ⟨w.heap.size, 1, none⟩ = some (.slice ca D.cache.length cc) := bD1.cell 1)
    | (refine ⟨trivial, ?_⟩; gi_at_call 87; refine (backward_in _ _ _ _ _).mono ?_; rintro e w' ⟨rfl, rfl⟩))
  have bN1 := bN.below hb1
  have bR1 := bR.below hb1
  have bQ1 := bQ.below hb1
  have hs0 := hb1.size
  simp only [World.size_alloc] at hs0
  have hBB : Below w.heap.size w w1 := hB0.trans (hb1.mono hB0.size)
  have hbA : Below w1.heap.size w1 (w1.alloc (.cells #[.slice ca D.cache.length cc] 29)) := (Below.refl _ _).alloc (Nat.le_refl _) _
  have bD2 := bD1.below hbA
  have bN2 := bN1.below hbA
  have bR2 := bR1.below hbA
  have bQ2 := bQ1.below hbA
  have bL := Boxed.new w1 29 (.slice ca D.cache.length cc)
  have hsz : (w1.alloc (.cells #[.slice ca D.cache.length cc] 29)).heap.size = w1.heap.size + 1 := by simp
  have hB2 : Below w.heap.size w (w1.alloc (.cells #[.slice ca D.cache.length cc] 29)) := hBB.trans (hbA.mono hBB.size)
  clear d1 hH bD bN bR bQ bD1 bN1 bR1 bQ1 hb1 hB0
  obtain ⟨W0, hW0⟩ : ∃ W0, w1.alloc (.cells #[.slice ca D.cache.length cc] 29) = W0 := ⟨_, rfl⟩
  rw [hW0] at hbA bD2 bN2 bR2 bQ2 bL hsz hB2 ⊢
  clear hW0
  have husA := hus.below hBB
  obtain ⟨A, hA⟩ : ∃ A, w1.heap.size = A := ⟨_, rfl⟩
  rw [hA] at bL hsz hs0 hbA ⊢
  have husB : WCells w1 ca D.cache.length fn us := husA
  have hbA' : Below w1.heap.size w1 W0 := by rw [hA]; exact hbA
  refine wpIn_rangeFunc_ownH rfl (by decide) (gf := 126) (lb := #[.pointer (some ⟨A, 0, none⟩)]) rfl trivial (enters_of Try.func126 (by kernel_rfl) rfl)
    (back_stops (6 - 1) (by decide) A ca D.cache.length cc fn us w1 husB (by omega) W0 hbA' bL) (fun h k => KpB.trans h k) (KpB.put (by omega) (by omega) (by omega)) (Below.refl _ _) (fun _ => rfl)
    (fun pre W => (∀ x ∈ pre, fn (D.cache.length - 1 - x.1) ≠ n) ∧ KpB w1.heap.size A A W0 W)
    (fun c pre W => c = .ret ∧ (∃ pre0 x v, (pre = pre0 ++ [x] ∧ (∀ y ∈ pre0, fn (D.cache.length - 1 - y.1) ≠ n) ∧ fn (D.cache.length - 1 - x.1) = n) ∧ VN W (w.heap.size + 1 + 1) 27 [v] ∧ VN W (w.heap.size + 1 + 1 + 1) 4 [.bool true] ∧ ∃ l, D.cache[D.cache.length - 1 - x.1]? = some l ∧ OB W w.heap.size v l.2) ∧ Below w.heap.size W0 W)
    (OwnFrom.and (fun s X Y row hs hg hr => hs) (ownFrom_kpB (by omega) (by omega) (by omega) (Nat.le_refl _)))
    (fun c s X Y row hs hg hr => ⟨hs.1, by obtain ⟨pre0, x, v, h1, h2, h3, l, h4, h5⟩ := hs.2.1; exact ⟨pre0, x, v, h1, h2.ownK hg (fun r e => (hr r e).2), h3.ownK hg (fun r e => (hr r e).2), l, h4, h5.ownK hg (fun r e => (hr r e).2)⟩, ownFrom_below (w₀ := W0) (n₀ := w.heap.size) (B := W0.heap.size) (β := Unit) (by omega) (by omega) () X Y row hs.2.2 hg hr⟩)
    ⟨(fun x hx => by cases hx), KpB.refl _ _ _ _⟩
    (fun x a' W => ∃ Bw, VN W Bw 51 [.int .i64 (fn (D.cache.length - 1 - x.1)), us (D.cache.length - 1 - x.1)] ∧ a' = { tmps := #[.agg #[.slice sa D.secs.length sc, .slice ca D.cache.length cc, .int .i64 D.ops, .slice fa D.faults.length fc, .bool D.down], .int .i64 n, .pointer (some ⟨w.heap.size, 0, none⟩), .pointer (some ⟨w.heap.size + 1, 0, none⟩), .pointer (some ⟨w.heap.size + 1 + 1, 0, none⟩), .pointer (some ⟨w.heap.size + 1 + 1 + 1, 0, none⟩), undef, .pointer (some ⟨Bw, 0, none⟩), .agg #[.slice sa D.secs.length sc, .slice ca D.cache.length cc, .int .i64 D.ops, .slice fa D.faults.length fc, .bool D.down], .int .i64 n, .bool true, .bool false, undef, .pointer (some ⟨w.heap.size, 1, none⟩), .slice ca D.cache.length cc, .func (.func 126) #[] #[.pointer (some ⟨A, 0, none⟩)], .int .i64 ((D.cache.length - 1 - x.1 : Nat) : Int), .agg #[.int .i64 (fn (D.cache.length - 1 - x.1)), us (D.cache.length - 1 - x.1)], undef, undef, undef, undef, undef, undef, undef, undef, undef, undef, undef, undef, undef], defers := [] })
    (fun x a' _ X Y row hs hg hr => by obtain ⟨Bw, h1, h3⟩ := hs; exact ⟨Bw, h1.ownK hg (fun r e => (hr r e).2), h3⟩)
    ?assign ?body ?done ?stop
  case assign =>
    rintro l pre x W K ⟨hall, hk⟩ hK
    have hi : D.cache.length - 1 - x.1 < D.cache.length := by have := x.2; omega
    obtain ⟨a3, c3, e3, -, -⟩ := (HL.out.1 _ hi).is
    have HE3 : Hid (us (D.cache.length - 1 - x.1) = .slice a3 (D.cache[D.cache.length - 1 - x.1]).2.length c3) := e3
    dsimp only [encK]
    rw [e3]
    clear e3
    gi_wp2
    have hbN : Below W.heap.size W (W.alloc (.cells #[.int .i64 (fn (D.cache.length - 1 - x.1)), .slice a3 (D.cache[D.cache.length - 1 - x.1]).2.length c3] 51)) := (Below.refl _ _).alloc (Nat.le_refl _) _
    have hs1 := hk.below.size
    have hkk := KpB.ofBelow (n₀ := w1.heap.size) (Bl := A) (Bv := A) hbN (by omega) (by omega) (by omega)
    refine hK _ _ (KeepsFrom.ofBelow hbN) hkk ⟨hall, hk.trans hkk⟩ ⟨W.heap.size, by rw [HE3.out]; exact VN.new W _ _, ?_⟩
    rw [HE3.out]
    try simp
  case body =>
    rintro l pre x a' W hl ⟨r, hr⟩ ⟨hall, hk⟩ ⟨Bw, bW, rfl⟩ hlt
    have hi : D.cache.length - 1 - x.1 < D.cache.length := by have := x.2; omega
    have hs1 := hk.below.size
    have bD3 := bD2.block (hk.below.block _ (by omega))
    have bN3 := bN2.block (hk.below.block _ (by omega))
    have bR3 := bR2.block (hk.below.block _ (by omega))
    have bQ3 := bQ2.block (hk.below.block _ (by omega))
    have cN : W.cell? ⟨w.heap.size + 1, 0, none⟩ = some (.int .i64 n) := bN3.cell 0
    have HA : Hid (∀ x ∈ pre, fn (D.cache.length - 1 - x.1) ≠ n) := hall
    have hBW : Below w.heap.size w W := hB2.trans (hk.below.mono (by omega))
    obtain ⟨a3, c3, e3, v3, n3⟩ := ((HL.out.1 _ hi).below hBW).is
    have hpl := HL.out.2.cache _ (List.getElem_mem hi)
    rw [e3] at bW
    have cW0 : W.cell? ⟨Bw, 0, none⟩ = some (.int .i64 (fn (D.cache.length - 1 - x.1))) := bW.cell 0
    have cW1 : W.cell? ⟨Bw, 1, none⟩ = some (.slice a3 (D.cache[D.cache.length - 1 - x.1]).2.length c3) := bW.cell 1
    clear hall hr
    by_cases hN : fn (D.cache.length - 1 - x.1) = n
    case neg =>
      have hq : (fn (D.cache.length - 1 - x.1) == n) = false := beq_eq_false_iff_ne.2 hN
      gi_wp2
      refine ⟨KeepsFrom.ofBelow (Below.refl _ _), KpB.refl _ _ _ _, fun y hy => ?_, hk⟩
      rcases List.mem_append.1 hy with hy | hy
      · exact HA.out y hy
      · simp at hy; subst hy; exact hN
    have HN : Hid (fn (D.cache.length - 1 - x.1) = n) := hN
    rw [hN] at cW0
    have hq : (n == n) = true := beq_self_eq_true _
    have hP := putSec_any a3 c3 _ W v3 n3 hpl
    have HX : Hid (D.cache[D.cache.length - 1 - x.1]? = some D.cache[D.cache.length - 1 - x.1]) := List.getElem?_eq_getElem hi
    obtain ⟨L, hL⟩ := hidEx D.cache[D.cache.length - 1 - x.1]
    rw [hL.out] at HX hP cW1 hpl
    obtain ⟨N3, hN3⟩ := hidEx L.2.length
    rw [hN3.out] at hP cW1 hpl
    clear hN v3
    gi_wp2_with (refine ⟨trivial, ?_⟩; gi_at_call 66; refine (CallsIn.inRound l (callsIn_wide.2 hP)).mono ?_; rintro e w2 ⟨rfl, hO2, hb2, -⟩; have bR4 := bR3.below hb2; have cR : w2.cell? ⟨w.heap.size + 1 + 1, 0, none⟩ = some (.slice none 0 0) := bR4.cell 0; have fR := bR4.fz 0; have bQ4 := (bQ3.below hb2).other (C := w.heap.size + 1 + 1) (i := 0) (u := .slice (some ⟨W.heap.size, 0, none⟩) N3 N3) (by omega); have cQ : (w2.setCell ⟨w.heap.size + 1 + 1, 0, none⟩ (.slice (some ⟨W.heap.size, 0, none⟩) N3 N3)).cell? ⟨w.heap.size + 1 + 1 + 1, 0, none⟩ = some (.bool false) := bQ4.cell 0; have fQ := bQ4.fz 0)
    have c4 := (bR4.set 0 (.slice (some ⟨W.heap.size, 0, none⟩) N3 N3)).other (C := w.heap.size + 1 + 1 + 1) (i := 0) (u := .bool true) (by omega)
    have c5 := bQ4.set 0 (.bool true)
    simp only [List.set] at c4 c5
    have hOO : OB ((w2.setCell ⟨w.heap.size + 1 + 1, 0, none⟩ (.slice (some ⟨W.heap.size, 0, none⟩) N3 N3)).setCell ⟨w.heap.size + 1 + 1 + 1, 0, none⟩ (.bool true)) w.heap.size (.slice (some ⟨W.heap.size, 0, none⟩) N3 N3) L.2 := ((hO2.up (Up.set (by omega))).up (Up.set (by omega))).mono (by omega)
    refine ⟨((KeepsFrom.ofBelow hb2).trans ((KeepsOthers.setCell _ _ _).from _)).trans ((KeepsOthers.setCell _ _ _).from _), rfl, ⟨pre, x, _, ⟨rfl, HA.out, HN.out⟩, c4, c5, L, HX.out, hOO⟩, ?_⟩
    exact (((hk.below.mono (by omega)).trans (hb2.mono (by omega))).setCell (p := ⟨w.heap.size + 1 + 1, 0, none⟩) (by show w.heap.size ≤ w.heap.size + 1 + 1; omega) _).setCell (p := ⟨w.heap.size + 1 + 1 + 1, 0, none⟩) (by show w.heap.size ≤ w.heap.size + 1 + 1 + 1; omega) _
  case done =>
    rintro D' ys W hD rfl ⟨hall, hk⟩ hK
    have hs1 := hk.below.size
    have hBW : Below w.heap.size w W := hB2.trans (hk.below.mono (by omega))
    have bD3 := bD2.block (hk.below.block _ (by omega))
    have bN3 := bN2.block (hk.below.block _ (by omega))
    have bR3 := bR2.block (hk.below.block _ (by omega))
    have bQ3 := bQ2.block (hk.below.block _ (by omega))
    have cN : W.cell? ⟨w.heap.size + 1, 0, none⟩ = some (.int .i64 n) := bN3.cell 0
    have cD : W.cell? ⟨w.heap.size, 0, none⟩ = some (.slice sa D.secs.length sc) := bD3.cell 0
    obtain ⟨m, hm⟩ : ∃ m : Nat, n = m := ⟨n.toNat, by have := HR.out.1; omega⟩
    have hml : m < D.secs.length := by have := HR.out.2; omega
    have HB : Hid (readB D n = D.secs[m]) := by
      show _ = _
      have hl0 : lastW D.cache n D.cache.length = none := by
        rw [lastW_pass (i := 0) (Nat.zero_le _) (Nat.le_refl _) (fun j _ hj => ?_)]
        · rfl
        · have := hall ⟨D.cache.length - 1 - j, by omega⟩ (List.mem_finRange _)
          rw [hfn.out] at this
          have e : D.cache.length - 1 - (D.cache.length - 1 - j) = j := by omega
          simpa only [e] using this
      subst hm
      exact readB_sec HR.out hl0 hml
    obtain ⟨b1, o1, a3, c3, esa, hb1', x0, v3, n3⟩ := sview_at (sview_below HS.out hBW) hml
    have hpl := HL.out.2.sec _ (List.getElem_mem hml)
    have hP := putSec_any a3 c3 _ W v3 n3 hpl
    rw [esa] at cD
    obtain ⟨L, hL⟩ := hidEx D.secs[m]
    rw [hL.out] at HB hP x0 hpl
    obtain ⟨N3, hN3⟩ := hidEx L.length
    rw [hN3.out] at hP x0 hpl
    rw [hm] at cN
    have hmz : (m : Int) < (D.secs.length : Int) := by omega
    clear hall v3
    gi_wp2_with (refine ⟨trivial, ?_⟩; gi_at_call 66; refine (callsIn_wide.2 hP).mono ?_; rintro e w2 ⟨rfl, hO2, hb2, -⟩; have bR4 := bR3.below hb2; have cR : w2.cell? ⟨w.heap.size + 1 + 1, 0, none⟩ = some (.slice none 0 0) := bR4.cell 0; have fR := bR4.fz 0; have bQ4 := (bQ3.below hb2).other (C := w.heap.size + 1 + 1) (i := 0) (u := .slice (some ⟨W.heap.size, 0, none⟩) N3 N3) (by omega); have cQ : (w2.setCell ⟨w.heap.size + 1 + 1, 0, none⟩ (.slice (some ⟨W.heap.size, 0, none⟩) N3 N3)).cell? ⟨w.heap.size + 1 + 1 + 1, 0, none⟩ = some (.bool false) := bQ4.cell 0; have fQ := bQ4.fz 0)
    have c4 := (bR4.set 0 (.slice (some ⟨W.heap.size, 0, none⟩) N3 N3)).other (C := w.heap.size + 1 + 1 + 1) (i := 0) (u := .bool true) (by omega)
    have c5 := bQ4.set 0 (.bool true)
    simp only [List.set] at c4 c5
    have hOO : OB ((w2.setCell ⟨w.heap.size + 1 + 1, 0, none⟩ (.slice (some ⟨W.heap.size, 0, none⟩) N3 N3)).setCell ⟨w.heap.size + 1 + 1 + 1, 0, none⟩ (.bool true)) w.heap.size (.slice (some ⟨W.heap.size, 0, none⟩) N3 N3) L := ((hO2.up (Up.set (by omega))).up (Up.set (by omega))).mono (by omega)
    have hDl : D' < W.heap.size := (Array.getElem?_eq_some_iff.1 hK).1
    have hK2 : w2.heap[D']? = some (.deferred (some [])) := (hb2.block D' hDl).trans hK
    have hK' := (KeepsOthers.setCell (w2.setCell ⟨w.heap.size + 1 + 1, 0, none⟩ (.slice (some ⟨W.heap.size, 0, none⟩) N3 N3)) ⟨w.heap.size + 1 + 1 + 1, 0, none⟩ (.bool true)).same D' _ ((KeepsOthers.setCell w2 ⟨w.heap.size + 1 + 1, 0, none⟩ (.slice (some ⟨W.heap.size, 0, none⟩) N3 N3)).same D' _ hK2 rfl) rfl
    have c4' : ((w2.setCell ⟨w.heap.size + 1 + 1, 0, none⟩ (.slice (some ⟨W.heap.size, 0, none⟩) N3 N3)).setCell ⟨w.heap.size + 1 + 1 + 1, 0, none⟩ (.bool true)).cell? ⟨w.heap.size + 1 + 1, 0, none⟩ = some (.slice (some ⟨W.heap.size, 0, none⟩) N3 N3) := c4.cell 0
    have c5' : ((w2.setCell ⟨w.heap.size + 1 + 1, 0, none⟩ (.slice (some ⟨W.heap.size, 0, none⟩) N3 N3)).setCell ⟨w.heap.size + 1 + 1 + 1, 0, none⟩ (.bool true)).cell? ⟨w.heap.size + 1 + 1 + 1, 0, none⟩ = some (.bool true) := c5.cell 0
    have hbe : Below w.heap.size w ((w2.setCell ⟨w.heap.size + 1 + 1, 0, none⟩ (.slice (some ⟨W.heap.size, 0, none⟩) N3 N3)).setCell ⟨w.heap.size + 1 + 1 + 1, 0, none⟩ (.bool true)) := ((hBW.trans (hb2.mono hBW.size)).setCell (p := ⟨w.heap.size + 1 + 1, 0, none⟩) (by show w.heap.size ≤ w.heap.size + 1 + 1; omega) _).setCell (p := ⟨w.heap.size + 1 + 1 + 1, 0, none⟩) (by show w.heap.size ≤ w.heap.size + 1 + 1 + 1; omega) _
    refine ⟨by simp, .inl ⟨_, _, rfl, run_takeDeferred hK', ?_⟩⟩
    have d4 := cell_kept c4' (grownBy_putObj' _ D' (.deferred none)) (fun r e => by cases e; exact ⟨_, hK', rfl⟩)
    have d5 := cell_kept c5' (grownBy_putObj' _ D' (.deferred none)) (fun r e => by cases e; exact ⟨_, hK', rfl⟩)
    refine ⟨.tuple #[(.slice (some ⟨W.heap.size, 0, none⟩) N3 N3), .bool true], ?_, _, true, rfl, by simpa using HR.out, by rw [HB.out]; exact hOO.ownK (grownBy_putObj' _ D' (.deferred none)) (fun r e => by cases e; exact ⟨_, hK', rfl⟩), Below.put' hbe (by omega) hK'⟩
    simp [results, Try.f23, go_sem, d4, d5]
  case stop =>
    rintro D' c pre W hD hpre ⟨rfl, ⟨pre0, x, v, ⟨rfl, hno, hx⟩, bV, bT, L, hL, hO⟩, hk⟩ hK
    have HB : Hid (readB D n = L.2) := by
      show _ = _
      refine readB_hit HR.out ?_
      have hi : D.cache.length - 1 - x.1 < D.cache.length := by have := x.2; omega
      rw [lastW_pass (i := D.cache.length - 1 - x.1 + 1) (by omega) (Nat.le_refl _) (fun j hj hj' => ?_)]
      · rw [lastW_hit hi ?_]
        · rw [List.getElem?_eq_getElem hi] at hL
          rw [Option.some.inj hL]
        · rw [hfn.out] at hx
          simpa [hi] using hx
      · have := hno ⟨D.cache.length - 1 - j, by omega⟩ (prefix_fin hpre _ (by show D.cache.length - 1 - j < x.1; omega))
        rw [hfn.out] at this
        have e : D.cache.length - 1 - (D.cache.length - 1 - j) = j := by omega
        simpa only [e] using this
    have hk0 := hB2.trans hk
    clear hno hx hpre hL hk
    gi_wp2
    have c4' : W.cell? ⟨w.heap.size + 1 + 1, 0, none⟩ = some v := bV.cell 0
    have c5' : W.cell? ⟨w.heap.size + 1 + 1 + 1, 0, none⟩ = some (.bool true) := bT.cell 0
    refine ⟨by simp, .inl ⟨_, _, rfl, run_takeDeferred hK, ?_⟩⟩
    have d4 := cell_kept c4' (grownBy_putObj' _ D' (.deferred none)) (fun r e => by cases e; exact ⟨_, hK, rfl⟩)
    have d5 := cell_kept c5' (grownBy_putObj' _ D' (.deferred none)) (fun r e => by cases e; exact ⟨_, hK, rfl⟩)
    have h1 : v.oneCell' = true := by
      obtain ⟨a', c', rfl, -⟩ := hO.is
      rfl
    refine ⟨.tuple #[v, .bool true], ?_, _, true, rfl, by simpa using HR.out, by rw [HB.out]; exact hO.ownK (grownBy_putObj' _ D' (.deferred none)) (fun r e => by cases e; exact ⟨_, hK, rfl⟩), Below.put' hk0 (by omega) hK⟩
    simp [results, Try.f23, go_sem, d4, d5, h1]
end Go.Proofs.Ytdhfbblameiloaa

/-
  Bytes of an answer read.
-/
namespace Go.Proofs.Ytdhfbblameiloaa
open Go.RowKit
set_option maxRecDepth 4000

theorem oz_view {w : World} {B : Nat} {v : Value} {l : List Int} (h : OZ w B v l) : ∃ a c, v = .slice a l.length c ∧ View w a l.length c (bf l) := by
  obtain ⟨a, c, e, h1, h2, h3, h4⟩ := h.is
  refine ⟨a, c, e, ?_⟩
  rcases h4 with rfl | ⟨g, rfl, hg, hr⟩
  · exact ⟨by simp, fun i hi => absurd hi (Nat.not_lt_zero _), fun h => absurd h (Nat.lt_irrefl _)⟩
  · exact hr.view h1 (bytes_of_list h3)

end Go.Proofs.Ytdhfbblameiloaa

/-
  Whether a code is too long.
-/
namespace Go.Proofs.Ytdhfbblameiloaa
open Go.RowKit
set_option maxRecDepth 4000

theorem big_any (ao : Option Addr) (n cap : Nat) (w : World) (_hn : n ≤ 9223372036854775807) :
    Calls Try.prog 19 #[.slice ao n cap] w fun e w' => e = .returned (.bool (decide ((1048576 : Int) < (n : Int)))) ∧ w = w' := by
  go_enter Try.func19, Try.ntmps19
  go_wp2
  go_ret
  exact ⟨rfl, rfl⟩

end Go.Proofs.Ytdhfbblameiloaa

