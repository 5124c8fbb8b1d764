/-
  Together: MarkToks, HeldToks, Jumps, TokMore
-/
import Derived.Test.YtbpkonneliidiasPack1
import Derived.Deep.LoopGhost
import Derived.Deep.RegionHeld3
import Derived.Scope
import Derived.WalkMore
/-
  What the law's own helper markTokenS comes to: it writes counts into a row of tokens of the call's own.
-/
namespace Go.Proofs.Ytbpkonneliidias
open Go.RowKit
set_option maxRecDepth 4000

/-- Block b is a row of tokens of the call's own, none frozen; its first cells are F 0, F 1 .. (two a token). -/
def RowT (w : World) (b n : Nat) (F : Nat → Value) : Prop :=
  ∃ c : Array Value, w.heap[b]? = some (.cells c 54 (0, 0)) ∧ n * 2 ≤ c.size ∧ ∀ i, i < n * 2 → c[i]? = some (F i)
namespace RowT
variable {w w' : World} {b n : Nat} {F G : Nat → Value}
theorem cell (h : RowT w b n F) {i : Nat} (hi : i < n * 2) : w.cell? ⟨b, i, none⟩ = some (F i) := by
  obtain ⟨c, hb, _, hc⟩ := h
  simp [World.cell?, hb, hc i hi]
theorem frozen (h : RowT w b n F) (i : Nat) : w.frozen? ⟨b, i, none⟩ = false := by
  obtain ⟨c, hb, _, _⟩ := h
  simp [World.frozen?, hb]
theorem lt (h : RowT w b n F) : b < w.heap.size := by
  obtain ⟨c, hb, _, _⟩ := h
  exact (Array.getElem?_eq_some_iff.1 hb).1
theorem of_block (h : RowT w b n F) (e : w'.heap[b]? = w.heap[b]?) : RowT w' b n F := by
  obtain ⟨c, hb, r⟩ := h
  exact ⟨c, e.trans hb, r⟩
theorem congr (h : RowT w b n F) (e : ∀ i, i < n * 2 → F i = G i) : RowT w b n G := by
  obtain ⟨c, h1, h2, h3⟩ := h
  exact ⟨c, h1, h2, fun i hi => by rw [h3 i hi, e i hi]⟩
theorem set (h : RowT w b n F) (i : Nat) (u : Value) : RowT (w.setCell ⟨b, i, none⟩ u) b n (fun j => if j = i then u else F j) := by
  obtain ⟨c, hb, hs, hc⟩ := h
  refine ⟨c.setIfInBounds i u, ?_, by simpa using hs, fun j hj => ?_⟩
  · simp [World.setCell, Array.getElem?_modify, hb]
  · rw [Array.getElem?_setIfInBounds]
    by_cases e : j = i
    · subst e
      have : j < c.size := by omega
      simp [this]
    · rw [if_neg (fun h => e h.symm)]
      show c[j]? = some (if j = i then u else F j)
      rw [if_neg e]
      exact hc j hj
/-- A row of the call's own that is no nil slice. -/
theorem ofOwn {base : Nat} {v : Value} {xs : List Value} (h : w.ownsRow base 54 2 v n xs) (hne : v ≠ .slice none 0 0) : ∃ b c, v = .slice (some ⟨b, 0, none⟩) n c ∧ base ≤ b ∧ n ≤ c ∧ RowT w b n (fun i => xs.getD i .nilFunc) := by
  obtain ⟨hl, h⟩ := h
  rcases h with ⟨h0, _⟩ | ⟨g, c, cur, rfl, hb, hg, hnc, hcm, hcs, ht⟩
  · exact absurd h0 hne
  · refine ⟨g, c, rfl, hb, hnc, cur, hg, by rw [hcs]; omega, fun i hi => ?_⟩
    have hx : xs[i]? = some (xs.getD i .nilFunc) := by
      have : i < xs.length := by omega
      simp [this]
    rw [← ht, List.getElem?_take, if_pos hi] at hx
    rw [← ht]
    simpa using hx
theorem belowAll (h : RowT w b n F) (hb : Below w.heap.size w w') : RowT w' b n F := h.of_block (hb.block b h.lt)
theorem but {g : Nat} (h : RowT w b n F) (hb : But g w w') (hne : b ≠ g) : RowT w' b n F := h.of_block (hb.block b h.lt hne)
theorem tview {c : Nat} {gk : Nat → Int} {gs : Nat → ByteArray} (h : RowT w b n (fun i => (rowK gk gs n).getD i .nilFunc)) (hc : n ≤ c) : TView w (some ⟨b, 0, none⟩) n c gk gs := by
  refine ⟨hc, fun _ => ⟨b, 0, rfl, h.lt, fun i hi => ?_⟩⟩
  have c0 := h.cell (i := i * 2) (by omega)
  have c1 := h.cell (i := i * 2 + 1) (by omega)
  obtain ⟨g0, g1⟩ := rowK_get gk gs n i hi
  simp only [List.getD, g0, g1, Option.getD_some] at c0 c1
  simp only [Nat.zero_add]
  exact ⟨c0, c1⟩
end RowT

/-- What is written into a cell. -/
def markTok (k : Int) (i : Nat) : Value := if i % 2 = 1 then .string (markT (k + i)) else .int .i64 (k + i)

structure MarkedT (w wr : World) (b n : Nat) (F : Nat → Value) (k : Int) (j : Nat) : Prop where
  but : But b w wr
  row : RowT wr b n (fun i => if i < j * 2 then markTok k i else F i)
theorem MarkedT.put {w wr : World} {b n : Nat} {F : Nat → Value} {k : Int} {j : Nat} (h : MarkedT w wr b n F k j) {wr2 : World} (hb : Below wr.heap.size (wr.setCell ⟨b, j * 2, none⟩ (.int .i64 (k + 2 * j))) wr2) :
    MarkedT w (wr2.setCell ⟨b, j * 2 + 1, none⟩ (.string (markT (k + 2 * j + 1)))) b n F k (j + 1) := by
  have hs : ∀ (W : World) (a : Addr) (u : Value), (W.setCell a u).heap.size = W.heap.size := fun W a u => by simp
  have o1 : Only b wr (wr.setCell ⟨b, j * 2, none⟩ (.int .i64 (k + 2 * j))) := (Only.refl _ _).setCell _
  have hlt := h.row.lt
  have hbut2 : But b wr wr2 := (But.ofOnly o1).trans (But.ofBelow (by rw [hs]; exact hb))
  have hr2 : RowT wr2 b n _ := (h.row.set (j * 2) (.int .i64 (k + 2 * j))).of_block (hb.block b hlt)
  refine ⟨(h.but.trans hbut2).trans (But.ofOnly ((Only.refl _ _).setCell _)), (hr2.set (j * 2 + 1) _).congr (fun i _ => ?_)⟩
  by_cases e1 : i = j * 2 + 1
  · subst e1
    rw [if_pos rfl, if_pos (by omega)]
    unfold markTok
    rw [if_pos (by omega)]
    congr 2
    push_cast
    omega
  by_cases e0 : i = j * 2
  · subst e0
    rw [if_neg (by omega), if_pos rfl, if_pos (by omega)]
    unfold markTok
    rw [if_neg (by omega)]
    congr 1
    push_cast
    omega
  · rw [if_neg e1, if_neg e0]
    by_cases hlt : i < j * 2
    · rw [if_pos hlt, if_pos (by omega)]
    · rw [if_neg hlt, if_neg (by omega)]

set_option maxHeartbeats 2000000 in
theorem markTokenS_any (b n cap : Nat) (F : Nat → Value) (k : Int) (w : World) (hr : RowT w b n F) (hk : 0 ≤ k) (hk1 : k + 2 * n ≤ 4611686018427387904) :
    Calls Try.prog 31 #[.slice (some ⟨b, 0, none⟩) n cap, .int .i64 k] w fun e w' => e = .returned (.int .i64 (k + 2 * n)) ∧ RowT w' b n (markTok k) ∧ But b w w' := by
  go_enter Try.func31, Try.ntmps31
  go_wp2
  go_loopg [1, 5] n (fun g s i wr => ∃ j : Nat, j ≤ n ∧ g = n - j ∧ s = .int .i64 (k + 2 * j) ∧ i = .int .i64 j ∧ MarkedT w wr b n F k j)
  case atStart => exact ⟨0, Nat.zero_le _, rfl, by simp, rfl, But.refl _ _, hr.congr (fun i _ => by simp)⟩
  case round =>
    obtain ⟨j, hj, rfl, rfl, rfl, hM⟩ := hrel
    clear hr
    by_cases hlt : j < n
    · have hjz : (j : Int) < (n : Int) := by omega
      have z0 := hM.row.cell (i := j * 2) (by omega)
      have f0 := hM.row.frozen (j * 2)
      have hbl := hM.row.lt
      have hr2 := hM.row.set (j * 2) (.int .i64 (k + 2 * j))
      go_wp2_with fail
      refine (markText_any _ _ (by omega)).mono ?_
      rintro e w2 ⟨rfl, hb⟩
      have hb' : Below wr.heap.size (wr.setCell ⟨b, j * 2, none⟩ (.int .i64 (k + 2 * j))) w2 := by
        have e : (wr.setCell ⟨b, j * 2, none⟩ (.int .i64 (k + 2 * j))).heap.size = wr.heap.size := by simp
        rw [e] at hb
        exact hb
      have hr3 := hr2.of_block (hb'.block b hbl)
      have z2 := hr3.cell (i := j * 2 + 1) (by omega)
      have f2 := hr3.frozen (j * 2 + 1)
      have hS : Hid (MarkedT w (w2.setCell ⟨b, j * 2 + 1, none⟩ (.string (markT (k + 2 * j + 1)))) b n F k (j + 1)) := hM.put hb'
      clear hM hb hb' hr2 hr3 z0 f0
      go_wp2
      go_roundg (n - (j + 1))
      case measure => omega
      case rel => exact ⟨j + 1, by omega, rfl, by go_num, by go_num, hS.out⟩
    · obtain rfl : j = n := by omega
      have hF : Hid (RowT wr b j (markTok k)) := hM.row.congr (fun i hi => by rw [if_pos hi])
      have hO := hM.but
      clear hM
      go_wp2
      go_ret
      exact ⟨rfl, hF.out, hO⟩

/-- A row that was marked reads so. -/
theorem RowT.marked {w : World} {b n c : Nat} {k : Int} (h : RowT w b n (markTok k)) (hc : n ≤ c) : TView w (some ⟨b, 0, none⟩) n c (fun i => k + 2 * i) (fun i => markT (k + 2 * i + 1)) := by
  refine ⟨hc, fun _ => ⟨b, 0, rfl, h.lt, fun i hi => ?_⟩⟩
  have c0 := h.cell (i := i * 2) (by omega)
  have c1 := h.cell (i := i * 2 + 1) (by omega)
  unfold markTok at c0 c1
  rw [if_neg (by omega)] at c0
  rw [if_pos (by omega)] at c1
  simp only [Nat.zero_add]
  refine ⟨?_, ?_⟩
  · rw [c0]; congr 2; push_cast; omega
  · rw [c1]; congr 3; push_cast; omega
end Go.Proofs.Ytbpkonneliidias

/-
  What the law's own helper heldTokenS comes to on a row that was marked.
-/
namespace Go.Proofs.Ytbpkonneliidias
open Go.RowKit
set_option maxRecDepth 4000

theorem neStr_runT (s : ByteArray) (W : World) : (binOp .neq 9 (.string s) (.string s)).run Try.prog W = .ok (.bool false) W := by
  simp [go_sem, binOp, Op.stringOp]

set_option linter.unusedSimpArgs false in
set_option maxHeartbeats 2000000 in
theorem heldTokenS_any (ao : Option Addr) (n cap : Nat) (k : Int) (w : World) (hv : TView w ao n cap (fun i => k + 2 * i) (fun i => markT (k + 2 * i + 1))) (hk : 0 ≤ k) (hk1 : k + 2 * n ≤ 4611686018427387904) :
    Calls Try.prog 32 #[.slice ao n cap, .int .i64 k] w fun e w' => e = .returned (.int .i64 (k + 2 * n)) ∧ Below w.heap.size w w' := by
  go_enter Try.func32, Try.ntmps32
  go_wp2
  go_loopg [1, 5] n (fun g s i wr => ∃ j : Nat, j ≤ n ∧ g = n - j ∧ s = .int .i64 (k + 2 * j) ∧ i = .int .i64 j ∧ Below w.heap.size w wr)
  case atStart => exact ⟨0, Nat.zero_le _, rfl, by simp, rfl, Below.refl _ _⟩
  case round =>
    obtain ⟨j, hj, rfl, rfl, rfl, hB⟩ := hrel
    by_cases hlt : j < n
    · obtain ⟨b, off, rfl, hb, hc⟩ := (hv.below hB).cells (by omega)
      have hjz : (j : Int) < (n : Int) := by omega
      obtain ⟨x0, x2⟩ := hc j hlt
      have hT := fun W => markText_any (k + 2 * j + 1) W (by omega)
      obtain ⟨s, hs⟩ : ∃ s, Hid (markT (k + 2 * j + 1) = s) := ⟨_, rfl⟩
      rw [hs.out] at x2 hT
      have q0 : ((k + 2 * (j : Int)) != (k + 2 * (j : Int))) = false := by simp
      have q2 := neStr_runT s
      clear hc hv
      go_wp2_with fail
      refine wp_region_held_drew (S := fun W => W.cell? ⟨b, off + j * 2 + 1, none⟩ = some (.string s)) (by kernel_rfl) (x2) (fun hHeld => ?_)
      refine' wpAnyH_take (i := 0) (v := _) rfl (by kernel_rfl) (by kernel_rfl) (by kernel_rfl) (fun _ _ _ h => h) (Or.inl ⟨by kernel_rfl, ?ha0⟩) (by assumption) ?ra0
      case ha0 => intro W hW; go_simp; all_goals with_reducible rfl
      change wpAnyH _ _ _ _ _ _ _ (Act.put _ (some 21) _) _
      simp only [Act.put, List.setIfInBounds_toArray, List.set_cons_zero, List.set_cons_succ]
      refine' wpAnyH_take (i := 1) (v := _) rfl (by kernel_rfl) (by kernel_rfl) (by kernel_rfl) (fun _ _ _ h => h) (Or.inl ⟨by kernel_rfl, ?ha1⟩) (by assumption) ?ra1
      case ha1 => intro W hW; go_simp; all_goals with_reducible rfl
      change wpAnyH _ _ _ _ _ _ _ (Act.put _ (some 22) _) _
      simp only [Act.put, List.setIfInBounds_toArray, List.set_cons_zero, List.set_cons_succ]
      refine' wpAnyH_take (i := 2) (v := _) rfl (by kernel_rfl) (by kernel_rfl) (by kernel_rfl) (fun _ _ _ h => h) (Or.inl ⟨by kernel_rfl, ?ha2⟩) (by assumption) ?ra2
      case ha2 => intro W hW; go_simp; all_goals with_reducible rfl
      change wpAnyH _ _ _ _ _ _ _ (Act.put _ (some 23) _) _
      simp only [Act.put, List.setIfInBounds_toArray, List.set_cons_zero, List.set_cons_succ]
      refine' wpAnyH_take (i := 3) (v := _) rfl (by kernel_rfl) (by kernel_rfl) (by kernel_rfl) (fun _ _ _ h => h) (Or.inl ⟨by kernel_rfl, ?ha3⟩) (by assumption) ?ra3
      case ha3 => intro W hW; go_simp; all_goals with_reducible rfl
      change wpAnyH _ _ _ _ _ _ _ (Act.put _ (some 24) _) _
      simp only [Act.put, List.setIfInBounds_toArray, List.set_cons_zero, List.set_cons_succ]
      refine' wpAnyH_take (i := 4) (v := _) rfl (by kernel_rfl) (by kernel_rfl) (by kernel_rfl) (fun _ _ _ h => h) (Or.inl ⟨by kernel_rfl, ?ha4⟩) (by assumption) ?ra4
      case ha4 => intro W hW; go_simp; all_goals with_reducible rfl
      change wpAnyH _ _ _ _ _ _ _ (Act.put _ (some 25) _) _
      simp only [Act.put, List.setIfInBounds_toArray, List.set_cons_zero, List.set_cons_succ]
      refine' wpAnyH_take (i := 5) (v := _) rfl (by kernel_rfl) (by kernel_rfl) (by kernel_rfl) (fun _ _ _ h => h) (Or.inl ⟨by kernel_rfl, ?ha5⟩) (by assumption) ?ra5
      case ha5 => intro W hW; go_simp; all_goals with_reducible rfl
      change wpAnyH _ _ _ _ _ _ _ (Act.put _ (some 26) _) _
      simp only [Act.put, List.setIfInBounds_toArray, List.set_cons_zero, List.set_cons_succ]
      refine wpAnyH_ready (rs := [6]) (by kernel_rfl) (by simp) ?_
      refine AllReadyH.cons rfl (fun KK hK => ?_) AllReadyH.nil
      go_simp
      refine (hT _).mono ?_
      rintro e w2 ⟨rfl, hB2⟩
      go_wp2_with fail
      refine hK.out _ _ (by rw [hB2.cell hb]; exact x2) (fun hHeld => ?_)
      clear hK KK
      try simp only [Act.put, List.setIfInBounds_toArray, List.set_cons_zero, List.set_cons_succ]
      refine' wpAnyH_take (i := 7) (v := _) rfl (by kernel_rfl) (by kernel_rfl) (by kernel_rfl) (fun _ _ _ h => h) (Or.inl ⟨by kernel_rfl, ?ha7⟩) (by assumption) ?ra7
      case ha7 => intro W hW; go_simp; all_goals with_reducible rfl
      change wpAnyH _ _ _ _ _ _ _ (Act.put _ (some 28) _) _
      simp only [Act.put, List.setIfInBounds_toArray, List.set_cons_zero, List.set_cons_succ]
      refine wpAnyH_done (by kernel_rfl) ?_ _
      have hB3 : Hid (Below w.heap.size w w2) := hB.trans (Below.trans (Below.drew (Below.refl _ _)) (hB2.mono (by have := hB.size; exact this)))
      clear hHeld x0 x2 hT
      go_wp2
      go_roundg (n - (j + 1))
      case measure => omega
      case rel => exact ⟨j + 1, by omega, rfl, by go_num, by go_num, hB3.out⟩
    · obtain rfl : j = n := by omega
      go_wp2
      go_ret
      exact ⟨rfl, hB⟩
end Go.Proofs.Ytbpkonneliidias

/-
  A scope in which the run jumps from label to label: what holds at every jump, and a measure that every pass lowers.
-/
namespace Go.Proofs.Ytbpkonneliidias
open Go.RowKit
set_option maxRecDepth 4000

/-- As Q; by a goto to label l: J l. -/
def jumps (J : Nat → Act → World → Prop) (Q : Exit → Act → World → Prop) : Exit → Act → World → Prop
  | .goto l, a, w => J l a w
  | e, a, w => Q e a w
theorem jumps_normal {J : Nat → Act → World → Prop} {Q : Exit → Act → World → Prop} {a : Act} {w : World} : jumps J Q .normal a w = Q .normal a w := rfl
theorem jumps_ret {J : Nat → Act → World → Prop} {Q : Exit → Act → World → Prop} {a : Act} {w : World} : jumps J Q .ret a w = Q .ret a w := rfl
theorem jumps_exit {J : Nat → Act → World → Prop} {Q : Exit → Act → World → Prop} {i : Nat} {a : Act} {w : World} : jumps J Q (.exit i) a w = Q (.exit i) a w := rfl
theorem jumps_goto {J : Nat → Act → World → Prop} {Q : Exit → Act → World → Prop} {l : Nat} {a : Act} {w : World} : jumps J Q (.goto l) a w = J l a w := rfl

theorem wp_scope_labels {P : Program} {a : Act} {w : World} {Q : Exit → Act → World → Prop} {c : Code} (R : Nat → Code) (J : Nat → Act → World → Prop) (μ : Nat → Act → World → Nat)
    (hf : ∀ l a w, J l a w → findLabel c l = some (R l)) (first : c.wp P (jumps J Q) a w)
    (pass : ∀ l a w, J l a w → (R l).wp P (jumps (fun l' a' w' => J l' a' w' ∧ μ l' a' w' < μ l a w) Q) a w) : (Code.scope c).wp P Q a w := by
  intro b k cs
  have key : ∀ n l a w, μ l a w = n → J l a w → ∃ e a' w', Q e a' w' ∧ Arrives P (lone (b.at a (.code (R l) :: .inScope c :: k)) cs w) b k cs e a' w' := by
    intro n
    induction n using Nat.strongRecOn with
    | _ n ih =>
      intro l a w hn hJ
      obtain ⟨e, a₁, w₁, hq, harr⟩ := pass l a w hJ b (.inScope c :: k) cs
      cases e with
      | normal => exact ⟨.normal, a₁, w₁, hq, Steps.trans harr (.one step_inScope)⟩
      | exit id => exact ⟨.exit id, a₁, w₁, hq, fun k' hk => harr k' (by simp [exitTo, hk])⟩
      | goto l' =>
        obtain ⟨hJ', hlt⟩ := hq
        obtain ⟨e₂, a₂, w₂, hq₂, harr₂⟩ := ih _ (by omega) l' a₁ w₁ rfl hJ'
        have hg : gotoIn l' (.inScope c :: k) = some (.code (R l') :: .inScope c :: k) := by simp [gotoIn, hf l' a₁ w₁ hJ']
        exact ⟨e₂, a₂, w₂, hq₂, .of_steps (harr _ hg) harr₂⟩
      | ret => exact ⟨_, a₁, w₁, hq, harr⟩
      | panic ch => exact ⟨_, a₁, w₁, hq, harr⟩
      | outgrown => exact ⟨_, a₁, w₁, hq, harr⟩
  obtain ⟨e, a₁, w₁, hq, harr⟩ := first b (.inScope c :: k) cs
  cases e with
  | normal => exact ⟨.normal, a₁, w₁, hq, .head step_scope (Steps.trans harr (.one step_inScope))⟩
  | exit id => exact ⟨.exit id, a₁, w₁, hq, fun k' hk => .head step_scope (harr k' (by simp [exitTo, hk]))⟩
  | goto l' =>
    have hJ' : J l' a₁ w₁ := hq
    obtain ⟨e₂, a₂, w₂, hq₂, harr₂⟩ := key _ l' a₁ w₁ rfl hJ'
    have hg : gotoIn l' (.inScope c :: k) = some (.code (R l') :: .inScope c :: k) := by simp [gotoIn, hf l' a₁ w₁ hJ']
    exact ⟨e₂, a₂, w₂, hq₂, .of_steps (.head step_scope (harr _ hg)) harr₂⟩
  | ret => exact ⟨_, a₁, w₁, hq, .of_steps (.one step_scope) harr⟩
  | panic ch => exact ⟨_, a₁, w₁, hq, .of_steps (.one step_scope) harr⟩
  | outgrown => exact ⟨_, a₁, w₁, hq, .of_steps (.one step_scope) harr⟩

/-- The same, the code behind a label named where it is wanted; the way into the scope may run on into a label. -/
theorem wp_scope_goto {P : Program} {a : Act} {w : World} {Q : Exit → Act → World → Prop} {c : Code} (J : Nat → Act → World → Prop) (μ : Nat → Act → World → Nat)
    (hf : ∀ l a w, J l a w → ∃ X, findLabel c l = some (.seq .skip X))
    (pass : ∀ (T : Nat → Act → World → Prop) l a w X, findLabel c l = some (.seq .skip X) → J l a w → (∀ l' a' w', J l' a' w' → μ l' a' w' < μ l a w → T l' a' w') → X.wp P (jumps T Q) a w)
    (first : (∀ l a w X, findLabel c l = some (.seq .skip X) → J l a w → X.wp P (jumps J Q) a w) → c.wp P (jumps J Q) a w) : (Code.scope c).wp P Q a w := by
  refine wp_scope_labels (fun l => (findLabel c l).getD .skip) J μ (fun l a w h => ?_) (first (fun l a w X hr h => pass J l a w X hr h (fun _ _ _ h' _ => h'))) (fun l a w h => ?_)
  · obtain ⟨X, hr⟩ := hf l a w h
    rw [hr]; rfl
  · obtain ⟨X, hr⟩ := hf l a w h
    rw [hr]
    exact wp_seq (wp_skip (pass _ l a w X hr h (fun l' a' w' h1 h2 => ⟨h1, h2⟩)))
end Go.Proofs.Ytbpkonneliidias

/-
  Names and marks in a text, plainly.
-/
namespace Go.Proofs.Ytbpkonneliidias
open Go.RowKit
set_option maxRecDepth 4000

theorem endN_in {s : ByteArray} {p j : Nat} (h1 : p ≤ j) (h2 : j < endN s p) : inName (bt s j) = true := by
  by_cases h : p < s.size ∧ inName (bt s p) = true
  · by_cases e : p = j
    · subst e; exact h.2
    · rw [endN_step h.1 h.2] at h2
      exact endN_in (p := p + 1) (by omega) h2
  · rw [endN_stop h] at h2; omega
  termination_by s.size - p
  decreasing_by omega
/-- A name in a text is right just if it is not too long. -/
theorem name_ok {s : ByteArray} {i : Nat} (hi : i < s.size) (hsm : small (bt s i) = true) : nameOk (s.extract i (endN s (i + 1))) = decide (endN s (i + 1) - i ≤ 8) := by
  have hge := endN_ge s (i + 1)
  have hle := endN_le s (i + 1) (by omega)
  have hsz : (s.extract i (endN s (i + 1))).size = endN s (i + 1) - i := by rw [ByteArray.size_extract]; omega
  unfold nameOk
  rw [hsz, bt_extract hle (by omega), Nat.add_zero]
  by_cases h8 : endN s (i + 1) - i ≤ 8
  · rw [decide_eq_true h8]
    refine decide_eq_true ⟨by omega, h8, hsm, fun j hj => ?_⟩
    rw [bt_extract hle (by omega)]
    by_cases h0 : j = 0
    · subst h0; rw [Nat.add_zero]; unfold inName; rw [hsm]; rfl
    · exact endN_in (p := i + 1) (by omega) (by omega)
  · rw [decide_eq_false h8]
    exact decide_eq_false (fun h => h8 h.2.1)
theorem mark_ok {s : ByteArray} {i : Nat} (hi : i < s.size) : markOk (s.extract i (i + 1)) = markC (bt s i) := by
  have hsz : (s.extract i (i + 1)).size = 1 := by rw [ByteArray.size_extract]; omega
  unfold markOk
  rw [hsz, bt_extract (by omega) (by omega), Nat.add_zero]
  simp
theorem small_kind {s : ByteArray} {i : Nat} (h : small (bt s i) = true) : kindAt s i = 1 ∧ stopAt s i = endN s (i + 1) := by unfold kindAt stopAt; rw [h]; exact ⟨rfl, rfl⟩
theorem other_kind {s : ByteArray} {i : Nat} (h : small (bt s i) = false) : kindAt s i = 2 ∧ stopAt s i = i + 1 := by unfold kindAt stopAt; rw [h]; exact ⟨rfl, rfl⟩
theorem mark_not {c : Int} (h : markC c = true) : small c = false ∧ blank c = false := by
  unfold markC at h
  unfold small blank
  simp only [decide_eq_true_eq] at h
  exact ⟨decide_eq_false (by omega), decide_eq_false (by omega)⟩
theorem small_not {c : Int} (h : small c = true) : blank c = false := by
  unfold small at h
  unfold blank
  simp only [decide_eq_true_eq] at h
  exact decide_eq_false (by omega)
end Go.Proofs.Ytbpkonneliidias

