/-
  The draw of two rows of values, as far as a law leans on it.
-/
import Derived.Test.YthjddmhcppdleaaDrawTwo
import Derived.Test.YthjddmhcppdleaaVView
namespace Go.Proofs.Ythjddmhcppdleaa
open Go.RowKit

/-- The six cells of two values. -/
def pairF (k m : Int) (s : ByteArray) (k' m' : Int) (s' : ByteArray) : Nat → Value
  | 0 => .int .i64 k
  | 1 => .int .i64 m
  | 2 => .string s
  | 3 => .int .i64 k'
  | 4 => .int .i64 m'
  | _ => .string s'
def Pair (w : World) (B : Nat) (k m : Int) (s : ByteArray) (k' m' : Int) (s' : ByteArray) : Prop := w.rowIs B 42 6 (pairF k m s k' m' s')
section
variable {w w' : World} {B g : Nat} {k m : Int} {s : ByteArray} {k' m' : Int} {s' : ByteArray}
theorem Pair.new (w : World) (k m : Int) (s : ByteArray) (k' m' : Int) (s' : ByteArray) : Pair (w.alloc (.cells #[.int .i64 k, .int .i64 m, .string s, .int .i64 k', .int .i64 m', .string s'] 42)) w.heap.size k m s k' m' s' :=
  World.rowIs_alloc w _ 42 (pairF k m s k' m' s') (fun j hj => by match j, hj with | 0, _ => rfl | 1, _ => rfl | 2, _ => rfl | 3, _ => rfl | 4, _ => rfl | 5, _ => rfl)
theorem Pair.lt (h : Pair w B k m s k' m' s') : B < w.heap.size := World.rowIs.lt h
theorem Pair.but (h : Pair w B k m s k' m' s') (hb : But g w w') (hne : B ≠ g) : Pair w' B k m s k' m' s' := h.of_block (hb.block B h.lt hne)
theorem Pair.below (h : Pair w B k m s k' m' s') (hb : Below w.heap.size w w') : Pair w' B k m s k' m' s' := h.of_block (hb.block B h.lt)
theorem Pair.drew (h : Pair w B k m s k' m' s') : Pair w.drew B k m s k' m' s' := h
theorem Pair.cells (h : Pair w B k m s k' m' s') : w.cell? ⟨B, 0, none⟩ = some (.int .i64 k) ∧ w.cell? ⟨B, 1, none⟩ = some (.int .i64 m) ∧ w.cell? ⟨B, 2, none⟩ = some (.string s) ∧ w.cell? ⟨B, 3, none⟩ = some (.int .i64 k') ∧ w.cell? ⟨B, 4, none⟩ = some (.int .i64 m') ∧ w.cell? ⟨B, 5, none⟩ = some (.string s') :=
  ⟨h.cell (i := 0) (by decide), h.cell (i := 1) (by decide), h.cell (i := 2) (by decide), h.cell (i := 3) (by decide), h.cell (i := 4) (by decide), h.cell (i := 5) (by decide)⟩
end

/-- Two values as a slice of them. -/
def at2 {α : Type} (a b : α) (i : Nat) : α := if i = 0 then a else b
theorem vview2 {w : World} {B c : Nat} {k m : Int} {s : ByteArray} {k' m' : Int} {s' : ByteArray} (hlt : B < w.heap.size) (hc : 2 ≤ c) (h : w.cell? ⟨B, 0, none⟩ = some (.int .i64 k) ∧ w.cell? ⟨B, 1, none⟩ = some (.int .i64 m) ∧ w.cell? ⟨B, 2, none⟩ = some (.string s) ∧ w.cell? ⟨B, 3, none⟩ = some (.int .i64 k') ∧ w.cell? ⟨B, 4, none⟩ = some (.int .i64 m') ∧ w.cell? ⟨B, 5, none⟩ = some (.string s')) :
    VView w (some ⟨B, 0, none⟩) 2 c (at2 k k') (at2 m m') (at2 s s') := by
  obtain ⟨c0, c1, c2, c3, c4, c5⟩ := h
  refine ⟨hc, fun _ => ⟨B, 0, rfl, hlt, fun i hi => ?_⟩⟩
  match i, hi with
  | 0, _ => exact ⟨c0, c1, c2⟩
  | 1, _ => exact ⟨c3, c4, c5⟩
theorem Pair.view {w : World} {B c : Nat} {k m : Int} {s : ByteArray} {k' m' : Int} {s' : ByteArray} (h : Pair w B k m s k' m' s') (hc : 2 ≤ c) : VView w (some ⟨B, 0, none⟩) 2 c (at2 k k') (at2 m m') (at2 s s') := vview2 h.lt hc h.cells

def pairL (k m : Int) (s : ByteArray) (k' m' : Int) (s' : ByteArray) : List Value := [.int .i64 k, .int .i64 m, .string s, .int .i64 k', .int .i64 m', .string s']
theorem own_pair {w : World} {base : Nat} {v : Value} {k m : Int} {s : ByteArray} {k' m' : Int} {s' : ByteArray} (h : w.ownsRow base 42 3 v 2 (pairL k m s k' m' s')) :
    ∃ B c, v = .slice (some ⟨B, 0, none⟩) 2 c ∧ VView w (some ⟨B, 0, none⟩) 2 c (at2 k k') (at2 m m') (at2 s s') := by
  obtain ⟨hl, h⟩ := h
  rcases h with ⟨_, h0⟩ | ⟨g, c, cur, rfl, hb, hg, hnc, _, hcs, ht⟩
  · omega
  · refine ⟨g, c, rfl, vview2 (Array.getElem?_eq_some_iff.1 hg).1 hnc ?_⟩
    have key : ∀ i, i < 6 → w.cell? ⟨g, i, none⟩ = (pairL k m s k' m' s')[i]? := by
      intro i hi
      rw [World.cell?, hg]
      have e := congrArg (fun l : List Value => l[i]?) ht
      simp only [List.getElem?_take] at e
      rw [if_pos (by omega)] at e
      simpa using e
    exact ⟨key 0 (by omega), key 1 (by omega), key 2 (by omega), key 3 (by omega), key 4 (by omega), key 5 (by omega)⟩

theorem Try.infoVal : (Try.prog.info? 42).map (fun i => (i.zero, i.size, i.bytes)) = some (some (.agg #[.int .i64 0, .int .i64 0, .string ⟨#[]⟩]), 3, 32) := by kernel_rfl

set_option linter.unusedSimpArgs false in
set_option maxHeartbeats 4000000 in
theorem drawSameRow_any (ao : Option Addr) (n cap : Nat) (f : Nat → Int) (w : World) (hn : n ≤ 1048576) (hv : View w ao n cap f) :
    Calls Try.prog 20 #[.slice ao n cap] w fun e w' => (∃ (b1 c1 b2 c2 : Nat) (fk fn : Nat → Int) (fs : Nat → ByteArray) (gk gn : Nat → Int) (gs : Nat → ByteArray), e = .returned (.tuple #[.slice (some ⟨b1, 0, none⟩) 2 c1, .slice (some ⟨b2, 0, none⟩) 2 c2]) ∧ VView w' (some ⟨b1, 0, none⟩) 2 c1 fk fn fs ∧ VView w' (some ⟨b2, 0, none⟩) 2 c2 gk gn gs) ∧ Below w.heap.size w w' := by
  obtain ⟨i0, hi, hz0, hz1, hz2⟩ := info_parts Try.infoVal
  go_enter Try.func20, Try.ntmps20
  go_wp2_with fail
  refine (l1New_any ao n cap f w hn hv).mono ?_
  rintro e w1 ⟨rfl, hC1, hb1⟩
  have hs1 := hb1.size
  go_wp2_with fail
  refine (l2Any_any w.heap.size ao n cap f w1 hn hC1).mono ?_
  rintro e w2 ⟨k, m, s, rfl, hD2⟩
  have hB2 := hD2.but
  have hC2 := hD2.cur
  clear hD2 hC1
  go_wp2_with fail
  refine (l2Any_any w.heap.size ao n cap f w2 hn hC2).mono ?_
  rintro e w3 ⟨k', m', s', rfl, hD3⟩
  have hB3 := hB2.trans hD3.but
  have hC3 := hD3.cur
  have hl3 := hC3.lt
  clear hD3 hC2 hB2
  have hb4 : Below w3.heap.size w3 (w3.alloc (.cells #[.int .i64 k, .int .i64 m, .string s, .int .i64 k', .int .i64 m', .string s'] 42)) := (Below.refl _ _).alloc (Nat.le_refl _) _
  go_wp2_with fail
  refine (l1Once_any w.heap.size ao n cap f 2 (w3.alloc (.cells #[.int .i64 k, .int .i64 m, .string s, .int .i64 k', .int .i64 m', .string s'] 42)) hn (by omega) (by omega) (hC3.below hb4)).mono ?_
  rintro e w5 ⟨b, rfl, hC5, hO5⟩
  have hV5 := (Pair.new w3 k m s k' m' s').but (But.ofOnly hO5) (by omega)
  have hB5 : Below w.heap.size w w5 := hb1.trans (((hB3.trans (But.ofBelow hb4)).trans (But.ofOnly hO5)).below (Nat.le_refl _) hs1)
  have hlt5 := hV5.lt
  clear hO5 hb4 hC3 hB3 hb1
  cases b with
  | true =>
    have hown0 := World.ownsRow_lit (base := w.heap.size) (e := 42) (size := 3) w5 #[] 0 hB5.size (Nat.zero_le _) rfl
    have hb6 : Below w5.heap.size w5 (w5.alloc (.cells #[] 42)) := (Below.refl _ _).alloc (Nat.le_refl _) _
    have hV6 := hV5.below hb6
    have hB6 := hB5.trans (hb6.mono hB5.size)
    have hcl : ∀ j u, (pairL k m s k' m' s')[j]? = some u → (w5.alloc (.cells #[] 42)).cell? ((⟨w3.heap.size, 0, none⟩ : Addr).add j) = some u := by
      intro j u hj
      obtain ⟨c0, c1, c2, c3, c4, c5⟩ := hV6.cells
      match j, hj with
      | 0, hj => cases hj; exact c0
      | 1, hj => cases hj; exact c1
      | 2, hj => cases hj; exact c2
      | 3, hj => cases hj; exact c3
      | 4, hj => cases hj; exact c4
      | 5, hj => cases hj; exact c5
      | (j + 6), hj => simp [pairL] at hj
    have hone : ∀ u ∈ pairL k m s k' m' s', u.oneCell' = true := by
      intro u hu
      simp only [pairL, List.mem_cons, List.not_mem_nil, or_false] at hu
      rcases hu with rfl | rfl | rfl | rfl | rfl | rfl <;> rfl
    have hsz : (w5.alloc (.cells #[] 42)).heap.size = w5.heap.size + 1 := by simp
    have hs5 := hB5.size
    clear hC5 hb6 hV5
    go_wp2_with (at_builtin; go_must (refine wpList_append_own _ rfl (.tmp 16) (.tmp 17) 45 rfl w.heap.size 42 i0 (.agg #[.int .i64 0, .int .i64 0, .string ⟨#[]⟩]) 3 32 Try.underlying45 hi hz0 hz1 hz2 rfl (by decide) (.slice (some ⟨w5.heap.size, 0, none⟩) 0 0) 0 [] rfl hown0 ⟨w3.heap.size, 0, none⟩ 2 2 (pairL k m s k' m' s') rfl rfl hcl hone (by unfold maxLen; omega) (by omega) (by rw [hsz]; omega) ?_); intro v7 w7 hown7 hgr7 _)
    simp only [Nat.zero_add, List.nil_append] at hown7
    obtain ⟨B, c, rfl, hVB⟩ := own_pair hown7
    have hB7 : Below w.heap.size w w7 := hB6.grown hgr7 (by rw [hsz]; omega) (fun j hj => by simp only [Value.ownBlock, Option.some.injEq] at hj; omega)
    have hV7 : Pair w7 w3.heap.size k m s k' m' s' := hV6.of_block (hgr7.block w3.heap.size hV6.lt (fun e => by simp only [Value.ownBlock, Option.some.injEq] at e; omega))
    go_ret2
    exact ⟨⟨_, _, _, _, _, _, _, _, _, _, rfl, hV7.view (Nat.le_refl _), hVB⟩, hB7⟩
  | false =>
    have hV := fun W h => l2Any_any w.heap.size ao n cap f W hn h
    go_wp2_with fail
    refine wp_region_held_drew (S := fun W => Pair W w3.heap.size k m s k' m' s') (by kernel_rfl) hV5.drew (fun hHeld => ?_)
    refine' wpAnyH_take (i := 0) (v := _) rfl (by kernel_rfl) (by kernel_rfl) (by kernel_rfl) (fun _ _ _ h => h) (Or.inl ⟨by kernel_rfl, ?hy0⟩) (by assumption) ?rest0
    case hy0 => intro W hW; go_simp; all_goals with_reducible rfl
    change wpAnyH _ _ _ _ _ _ _ (Act.put _ (some 19) _) _
    simp only [Act.put, List.setIfInBounds_toArray, List.set_cons_zero, List.set_cons_succ]
    refine' wpAnyH_take (i := 1) (v := _) rfl (by kernel_rfl) (by kernel_rfl) (by kernel_rfl) (fun _ _ _ h => h) (Or.inl ⟨by kernel_rfl, ?hy1⟩) (by assumption) ?rest1
    case hy1 => intro W hW; go_simp; all_goals with_reducible rfl
    change wpAnyH _ _ _ _ _ _ _ (Act.put _ (some 20) _) _
    simp only [Act.put, List.setIfInBounds_toArray, List.set_cons_zero, List.set_cons_succ]
    refine' wpAnyH_take (i := 2) (v := _) rfl (by kernel_rfl) (by kernel_rfl) (by kernel_rfl) (fun _ _ _ h => h) (Or.inl ⟨by kernel_rfl, ?hy2⟩) (by assumption) ?rest2
    case hy2 => intro W hW; go_simp; all_goals with_reducible rfl
    change wpAnyH _ _ _ _ _ _ _ (Act.put _ (some 21) _) _
    simp only [Act.put, List.setIfInBounds_toArray, List.set_cons_zero, List.set_cons_succ]
    refine' wpAnyH_take (i := 3) (v := _) rfl (by kernel_rfl) (by kernel_rfl) (by kernel_rfl) (fun _ _ _ h => h) (Or.inl ⟨by kernel_rfl, ?hy3⟩) (by assumption) ?rest3
    case hy3 => intro W hW; obtain ⟨c0, c1, c2, c3, c4, c5⟩ := Pair.cells hW; go_simp; all_goals with_reducible rfl
    change wpAnyH _ _ _ _ _ _ _ (Act.put _ (some 22) _) _
    simp only [Act.put, List.setIfInBounds_toArray, List.set_cons_zero, List.set_cons_succ]
    refine' wpAnyH_take (i := 4) (v := _) rfl (by kernel_rfl) (by kernel_rfl) (by kernel_rfl) (fun _ _ _ h => h) (Or.inl ⟨by kernel_rfl, ?hy4⟩) (by assumption) ?rest4
    case hy4 => intro W hW; go_simp; all_goals with_reducible rfl
    change wpAnyH _ _ _ _ _ _ _ (Act.put _ (some 23) _) _
    simp only [Act.put, List.setIfInBounds_toArray, List.set_cons_zero, List.set_cons_succ]
    refine wpAnyH_ready (rs := [5]) (by kernel_rfl) (by simp) ?_
    refine AllReadyH.cons rfl (fun KK hK => ?_) AllReadyH.nil
    go_simp
    refine (hV _ hC5.drew).mono ?_
    rintro e w6 ⟨k2, m2, s2, rfl, hD⟩
    have hV6 := hV5.drew.but hD.but (by omega)
    have hB6 : Below w.heap.size w w6 := hB5.drew.trans (hD.but.below (Nat.le_refl _) hB5.drew.size)
    have hb7 : Below w6.heap.size w6 (w6.alloc (.cells #[.int .i64 k, .int .i64 m, .string s, .int .i64 k2, .int .i64 m2, .string s2] 42)) := (Below.refl _ _).alloc (Nat.le_refl _) _
    have hV7 := hV6.below hb7
    have hU7 := Pair.new w6 k m s k2 m2 s2
    have hB7 := hB6.trans (hb7.mono hB6.size)
    clear hD hV5 hB5 hC5 hV hB6 hb7
    go_wp2_with fail
    refine hK.out _ _ hV6 (fun hHeld => ?_)
    clear hK KK
    try simp only [Act.put, List.setIfInBounds_toArray, List.set_cons_zero, List.set_cons_succ]
    refine' wpAnyH_take (i := 7) (v := _) rfl (by kernel_rfl) (by kernel_rfl) (by kernel_rfl) (fun _ _ _ h => h) (Or.inl ⟨by kernel_rfl, ?hy7⟩) (by assumption) ?rest7
    case hy7 => intro W hW; go_simp; all_goals with_reducible rfl
    change wpAnyH _ _ _ _ _ _ _ (Act.put _ (some 2) _) _
    simp only [Act.put, List.setIfInBounds_toArray, List.set_cons_zero, List.set_cons_succ]
    refine wpAnyH_ready (rs := [6]) (by kernel_rfl) (by simp) ?_
    refine AllReadyH.cons rfl (fun KK hK => ?_) AllReadyH.nil
    go_simp
    refine hK.out _ _ hV7 (fun hHeld => ?_)
    clear hK KK
    try simp only [Act.put, List.setIfInBounds_toArray, List.set_cons_zero, List.set_cons_succ]
    refine' wpAnyH_take (i := 8) (v := _) rfl (by kernel_rfl) (by kernel_rfl) (by kernel_rfl) (fun _ _ _ h => h) (Or.inl ⟨by kernel_rfl, ?hy8⟩) (by assumption) ?rest8
    case hy8 => intro W hW; go_simp; all_goals with_reducible rfl
    change wpAnyH _ _ _ _ _ _ _ (Act.put _ (some 3) _) _
    simp only [Act.put, List.setIfInBounds_toArray, List.set_cons_zero, List.set_cons_succ]
    refine wpAnyH_done (by kernel_rfl) ?_ _
    go_wp2
    go_ret2
    exact ⟨⟨_, _, _, _, _, _, _, _, _, _, rfl, hV7.view (Nat.le_refl _), hU7.view (Nat.le_refl _)⟩, hB7⟩
end Go.Proofs.Ythjddmhcppdleaa
