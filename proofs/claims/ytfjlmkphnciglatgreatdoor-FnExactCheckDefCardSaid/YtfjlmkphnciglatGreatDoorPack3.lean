/-
  Together: LawCheckDef, Jumps, TView, Info, TokBox, LexRow, TokMore
-/
import Derived.Test.YtfjlmkphnciglatGreatDoorPack1
import Derived.Test.YtfjlmkphnciglatGreatDoorPack2
import Derived.Deep.RegionHeld3
import Derived.Scope
import Derived.WalkMore
import Derived.Test.YtfjlmkphnciglatGreatDoorChecked
/-
  The law FnExactCheckDef, walked.
-/
namespace Go.Proofs.YtfjlmkphnciglatGreatDoor
open Go.RowKit
set_option maxRecDepth 4000

set_option maxHeartbeats 4000000 in
theorem lawCheckDef (v : Value) (D : PDef) (w : World) (h : DView w v D) (hm : DLim D)
    (hI : ∀ (W : World) (v' : Value), Below w.heap.size w W → DView W v' D → DFine D → Calls Tryz.prog 8 #[v'] W fun e w' => e = .returned (.int .i64 (checkF D)) ∧ Below W.heap.size W w') :
    Calls Tryz.prog 3 #[v] w fun e w' => e = .returned (.bool true) ∧ Below w.heap.size w w' := by
  have hv := h
  obtain ⟨ac, cc, ap, cp, ai, ci, rfl, -, -, -⟩ := h.is
  clear h
  have hB0 := box4_start w (.cells #[.string D.name, .slice ac D.nc cc, .slice ap D.np cp, .slice ai D.ni ci] 26)
  obtain ⟨hBw0, -⟩ := box4_below hB0
  have hZ := szDef_fine _ D 1048576 _ (hv.below hBw0) hm (by omega) (by omega)
  clear hm
  go_enter Tryz.func3, Tryz.ntmps3
  go_wp2_with fail
  refine hZ.mono ?_
  rintro e w1 ⟨L, rfl, hb1, hL⟩
  have hB1 := box4_on hB0 hb1
  obtain ⟨hBw1, hs1⟩ := box4_below hB1
  obtain ⟨x0, x1, x2, x3⟩ := box4 hB1
  clear hZ hb1 hB0 hBw0
  rcases hL with rfl | ⟨hL0, hL1, hf⟩
  · have HB : Hid (Below w.heap.size w w1) := hBw1
    clear hI hv hB1 hBw1
    go_wp2
    go_ret
    exact ⟨rfl, HB.out⟩
  have hLn : ¬ L < 0 := by omega
  have hT := toDef_any _ D w1 (hv.below hBw1) hf
  go_wp2_with fail
  refine hT.mono ?_
  rintro e w2 ⟨v2, rfl, hO2, hb2⟩
  have hB2 := box4_on hB1 hb2
  obtain ⟨hBw2, hs2⟩ := box4_below hB2
  have hP := specCheck_any v2 D w2 hO2.view hf
  obtain ⟨r, hr⟩ : ∃ r, Hid (checkF D = r) := ⟨_, rfl⟩
  simp only [hr.out] at hP hI
  clear hT hb2 hB1 hBw1 hs1 hO2 x0 x1 x2 x3
  go_wp2_with fail
  refine hP.mono ?_
  rintro e w3 ⟨rfl, hb3⟩
  have hB3 := box4_on hB2 hb3
  obtain ⟨hBw3, hs3⟩ := box4_below hB3
  obtain ⟨x0, x1, x2, x3⟩ := box4 hB3
  have hT := toDef_any _ D w3 (hv.below hBw3) hf
  clear hP hb3 hB2 hBw2 hs2
  go_wp2_with fail
  refine hT.mono ?_
  rintro e w4 ⟨v4, rfl, hO4, hb4⟩
  have hB4 := box4_on hB3 hb4
  obtain ⟨hBw4, hs4⟩ := box4_below hB4
  have hD4 := hO4.view
  obtain ⟨gc, kc, gp, kp, gi, ki, rfl, -, -, -, -, -⟩ := hO4.is
  have hbA : Below w4.heap.size w4 (w4.alloc (.cells #[.string D.name, .slice (some ⟨gc, 0, none⟩) D.nc kc, .slice (some ⟨gp, 0, none⟩) D.np kp, .slice (some ⟨gi, 0, none⟩) D.ni ki] 33)) := (Below.refl _ _).alloc (Nat.le_refl _) _
  have hB5 := box4_on hB4 hbA
  obtain ⟨hBw5, hs5⟩ := box4_below hB5
  have hG := hI _ _ hBw5 (hD4.below hbA) hf
  have C5 := box4_start w4 (.cells #[.string D.name, .slice (some ⟨gc, 0, none⟩) D.nc kc, .slice (some ⟨gp, 0, none⟩) D.np kp, .slice (some ⟨gi, 0, none⟩) D.ni ki] 33)
  clear hT hb4 hB3 hBw3 hs3 hO4 x0 x1 x2 x3 hI hB4 hBw4
  go_wp2_with fail
  refine hG.mono ?_
  rintro e w6 ⟨rfl, hb6⟩
  have hB6 := box4_on hB5 hb6
  obtain ⟨hBw6, hs6⟩ := box4_below hB6
  have C6 := box4_on C5 hb6
  obtain ⟨hCw6, ht6⟩ := box4_below C6
  have hD6 := hD4.below hCw6
  obtain ⟨x0, x1, x2, x3⟩ := box4 hB6
  obtain ⟨y0, y1, y2, y3⟩ := box4 C6
  have hE : ∀ W u, Below w6.heap.size w6 W → DView W u D → Calls Tryz.prog 9 #[.agg #[.string D.name, .slice (some ⟨gc, 0, none⟩) D.nc kc, .slice (some ⟨gp, 0, none⟩) D.np kp, .slice (some ⟨gi, 0, none⟩) D.ni ki], u] W fun e w' => e = .returned (.bool true) ∧ Below W.heap.size W w' := fun W u hb hu => eqDef_same _ u D W (hD6.below hb) hu hf
  have hT : ∀ W, Below w6.heap.size w6 W → Calls Tryz.prog 7 #[.agg #[.string D.name, .slice ac D.nc cc, .slice ap D.np cp, .slice ai D.ni ci]] W fun e w' => ∃ v', e = .returned v' ∧ DOwn w' W.heap.size v' D ∧ Below W.heap.size W w' := fun W hb => toDef_any _ D W (hv.below (hBw6.trans (hb.mono (by have := hBw6.size; exact this)))) hf
  have hq : (r != r) = false := bne_self_eq_false _
  obtain ⟨X, hX⟩ : ∃ X, Hid (w4.heap.size = X) := ⟨_, rfl⟩
  rw [hX.out] at y0 y1 y2 y3 ht6 ⊢
  have HWK : Hid (∀ W, Below w6.heap.size w6 W → (W.cell? ⟨w.heap.size, 0, none⟩ = some (.string D.name) ∧ W.cell? ⟨w.heap.size, 1, none⟩ = some (.slice ac D.nc cc) ∧ W.cell? ⟨w.heap.size, 2, none⟩ = some (.slice ap D.np cp) ∧ W.cell? ⟨w.heap.size, 3, none⟩ = some (.slice ai D.ni ci)) ∧ (W.cell? ⟨X, 0, none⟩ = some (.string D.name) ∧ W.cell? ⟨X, 1, none⟩ = some (.slice (some ⟨gc, 0, none⟩) D.nc kc) ∧ W.cell? ⟨X, 2, none⟩ = some (.slice (some ⟨gp, 0, none⟩) D.np kp) ∧ W.cell? ⟨X, 3, none⟩ = some (.slice (some ⟨gi, 0, none⟩) D.ni ki))) := by
    intro W hb
    refine ⟨⟨?_, ?_, ?_, ?_⟩, ?_, ?_, ?_, ?_⟩ <;> (rw [hb.cell (by first | exact hs6 | exact ht6)]; assumption)
  have HB6 : Hid (Below w.heap.size w w6) := hBw6
  clear hG hb6 hB5 hBw5 hs5 C5 C6 hCw6 hD6 hD4 hB6 hBw6 hbA hv hf hs4
  go_wp2_with fail
  go_region_held3 (fun WW => (WW.cell? ⟨w.heap.size, 0, none⟩ = some (.string D.name) ∧ WW.cell? ⟨w.heap.size, 1, none⟩ = some (.slice ac D.nc cc) ∧ WW.cell? ⟨w.heap.size, 2, none⟩ = some (.slice ap D.np cp) ∧ WW.cell? ⟨w.heap.size, 3, none⟩ = some (.slice ai D.ni ci)) ∧ (WW.cell? ⟨X, 0, none⟩ = some (.string D.name) ∧ WW.cell? ⟨X, 1, none⟩ = some (.slice (some ⟨gc, 0, none⟩) D.nc kc) ∧ WW.cell? ⟨X, 2, none⟩ = some (.slice (some ⟨gp, 0, none⟩) D.np kp) ∧ WW.cell? ⟨X, 3, none⟩ = some (.slice (some ⟨gi, 0, none⟩) D.ni ki))) (first | assumption | go_keep) (first
    | (go_at_call 7; refine (hT _ (by repeat (first | exact Below.refl _ _ | refine Below.drew ?_))).mono ?_; rintro e w7 ⟨v7, rfl, hO7, hB7⟩; have hb7 : Below w6.heap.size w6 w7 := Below.trans (by repeat (first | exact Below.refl _ _ | refine Below.drew ?_)) hB7; have hcells : (w7.cell? ⟨w.heap.size, 0, none⟩ = some (.string D.name) ∧ w7.cell? ⟨w.heap.size, 1, none⟩ = some (.slice ac D.nc cc) ∧ w7.cell? ⟨w.heap.size, 2, none⟩ = some (.slice ap D.np cp) ∧ w7.cell? ⟨w.heap.size, 3, none⟩ = some (.slice ai D.ni ci)) ∧ (w7.cell? ⟨X, 0, none⟩ = some (.string D.name) ∧ w7.cell? ⟨X, 1, none⟩ = some (.slice (some ⟨gc, 0, none⟩) D.nc kc) ∧ w7.cell? ⟨X, 2, none⟩ = some (.slice (some ⟨gp, 0, none⟩) D.np kp) ∧ w7.cell? ⟨X, 3, none⟩ = some (.slice (some ⟨gi, 0, none⟩) D.ni ki)) := HWK.out _ hb7)
    | (go_at_call 9; refine (hE _ _ (by repeat (first | exact hb7 | refine Below.drew ?_)) (by first | exact hO7.view | exact hO7.view.below (Below.refl _ _).drew)).mono ?_; rintro e w8 ⟨rfl, hB8⟩; have hb8 : Below w6.heap.size w6 w8 := Below.trans hb7 (Below.trans (by repeat (first | exact Below.refl _ _ | refine Below.drew ?_)) (hB8.mono (by have := hb7.size; exact this))); have hcells8 : (w8.cell? ⟨w.heap.size, 0, none⟩ = some (.string D.name) ∧ w8.cell? ⟨w.heap.size, 1, none⟩ = some (.slice ac D.nc cc) ∧ w8.cell? ⟨w.heap.size, 2, none⟩ = some (.slice ap D.np cp) ∧ w8.cell? ⟨w.heap.size, 3, none⟩ = some (.slice ai D.ni ci)) ∧ (w8.cell? ⟨X, 0, none⟩ = some (.string D.name) ∧ w8.cell? ⟨X, 1, none⟩ = some (.slice (some ⟨gc, 0, none⟩) D.nc kc) ∧ w8.cell? ⟨X, 2, none⟩ = some (.slice (some ⟨gp, 0, none⟩) D.np kp) ∧ w8.cell? ⟨X, 3, none⟩ = some (.slice (some ⟨gi, 0, none⟩) D.ni ki)) := HWK.out _ hb8))
  all_goals
    have HB : Hid (Below w.heap.size w w8) := HB6.out.trans (hb8.mono (by have := HB6.out.size; exact this))
    clear hb7 hb8 hB7 hB8 hcells hcells8 hT hE HWK HB6
    go_wp2
    go_ret
    exact ⟨rfl, by first | exact HB.out | exact HB.out.drew⟩
end Go.Proofs.YtfjlmkphnciglatGreatDoor

/-
  A scope in which the run jumps from label to label: what holds at every jump, and a measure that every pass lowers.
-/
namespace Go.Proofs.YtfjlmkphnciglatGreatDoor
open Go.RowKit
set_option maxRecDepth 4000

/-- As Q; by a goto to label l: J l. -/
def jumps (J : Nat → Act → World → Prop) (Q : Exit → Act → World → Prop) : Exit → Act → World → Prop
  | .goto l, a, w => J l a w
  | e, a, w => Q e a w
theorem jumps_normal {J : Nat → Act → World → Prop} {Q : Exit → Act → World → Prop} {a : Act} {w : World} : jumps J Q .normal a w = Q .normal a w := rfl
theorem jumps_ret {J : Nat → Act → World → Prop} {Q : Exit → Act → World → Prop} {a : Act} {w : World} : jumps J Q .ret a w = Q .ret a w := rfl
theorem jumps_exit {J : Nat → Act → World → Prop} {Q : Exit → Act → World → Prop} {i : Nat} {a : Act} {w : World} : jumps J Q (.exit i) a w = Q (.exit i) a w := rfl
theorem jumps_goto {J : Nat → Act → World → Prop} {Q : Exit → Act → World → Prop} {l : Nat} {a : Act} {w : World} : jumps J Q (.goto l) a w = J l a w := rfl

theorem wp_scope_labels {P : Program} {a : Act} {w : World} {Q : Exit → Act → World → Prop} {c : Code} (R : Nat → Code) (J : Nat → Act → World → Prop) (μ : Nat → Act → World → Nat)
    (hf : ∀ l a w, J l a w → findLabel c l = some (R l)) (first : c.wp P (jumps J Q) a w)
    (pass : ∀ l a w, J l a w → (R l).wp P (jumps (fun l' a' w' => J l' a' w' ∧ μ l' a' w' < μ l a w) Q) a w) : (Code.scope c).wp P Q a w := by
  intro b k cs
  have key : ∀ n l a w, μ l a w = n → J l a w → ∃ e a' w', Q e a' w' ∧ Arrives P (lone (b.at a (.code (R l) :: .inScope c :: k)) cs w) b k cs e a' w' := by
    intro n
    induction n using Nat.strongRecOn with
    | _ n ih =>
      intro l a w hn hJ
      obtain ⟨e, a₁, w₁, hq, harr⟩ := pass l a w hJ b (.inScope c :: k) cs
      cases e with
      | normal => exact ⟨.normal, a₁, w₁, hq, Steps.trans harr (.one step_inScope)⟩
      | exit id => exact ⟨.exit id, a₁, w₁, hq, fun k' hk => harr k' (by simp [exitTo, hk])⟩
      | goto l' =>
        obtain ⟨hJ', hlt⟩ := hq
        obtain ⟨e₂, a₂, w₂, hq₂, harr₂⟩ := ih _ (by omega) l' a₁ w₁ rfl hJ'
        have hg : gotoIn l' (.inScope c :: k) = some (.code (R l') :: .inScope c :: k) := by simp [gotoIn, hf l' a₁ w₁ hJ']
        exact ⟨e₂, a₂, w₂, hq₂, .of_steps (harr _ hg) harr₂⟩
      | ret => exact ⟨_, a₁, w₁, hq, harr⟩
      | panic ch => exact ⟨_, a₁, w₁, hq, harr⟩
      | outgrown => exact ⟨_, a₁, w₁, hq, harr⟩
  obtain ⟨e, a₁, w₁, hq, harr⟩ := first b (.inScope c :: k) cs
  cases e with
  | normal => exact ⟨.normal, a₁, w₁, hq, .head step_scope (Steps.trans harr (.one step_inScope))⟩
  | exit id => exact ⟨.exit id, a₁, w₁, hq, fun k' hk => .head step_scope (harr k' (by simp [exitTo, hk]))⟩
  | goto l' =>
    have hJ' : J l' a₁ w₁ := hq
    obtain ⟨e₂, a₂, w₂, hq₂, harr₂⟩ := key _ l' a₁ w₁ rfl hJ'
    have hg : gotoIn l' (.inScope c :: k) = some (.code (R l') :: .inScope c :: k) := by simp [gotoIn, hf l' a₁ w₁ hJ']
    exact ⟨e₂, a₂, w₂, hq₂, .of_steps (.head step_scope (harr _ hg)) harr₂⟩
  | ret => exact ⟨_, a₁, w₁, hq, .of_steps (.one step_scope) harr⟩
  | panic ch => exact ⟨_, a₁, w₁, hq, .of_steps (.one step_scope) harr⟩
  | outgrown => exact ⟨_, a₁, w₁, hq, .of_steps (.one step_scope) harr⟩

/-- The same, the code behind a label named where it is wanted; the way into the scope may run on into a label. -/
theorem wp_scope_goto {P : Program} {a : Act} {w : World} {Q : Exit → Act → World → Prop} {c : Code} (J : Nat → Act → World → Prop) (μ : Nat → Act → World → Nat)
    (hf : ∀ l a w, J l a w → ∃ X, findLabel c l = some (.seq .skip X))
    (pass : ∀ (T : Nat → Act → World → Prop) l a w X, findLabel c l = some (.seq .skip X) → J l a w → (∀ l' a' w', J l' a' w' → μ l' a' w' < μ l a w → T l' a' w') → X.wp P (jumps T Q) a w)
    (first : (∀ l a w X, findLabel c l = some (.seq .skip X) → J l a w → X.wp P (jumps J Q) a w) → c.wp P (jumps J Q) a w) : (Code.scope c).wp P Q a w := by
  refine wp_scope_labels (fun l => (findLabel c l).getD .skip) J μ (fun l a w h => ?_) (first (fun l a w X hr h => pass J l a w X hr h (fun _ _ _ h' _ => h'))) (fun l a w h => ?_)
  · obtain ⟨X, hr⟩ := hf l a w h
    rw [hr]; rfl
  · obtain ⟨X, hr⟩ := hf l a w h
    rw [hr]
    exact wp_seq (wp_skip (pass _ l a w X hr h (fun l' a' w' h1 h2 => ⟨h1, h2⟩)))
end Go.Proofs.YtfjlmkphnciglatGreatDoor

/-
  A slice of tokens that reads, by a function of the index, and how that is carried from one world to the next.
-/
namespace Go.Proofs.YtfjlmkphnciglatGreatDoor
open Go.RowKit
set_option maxRecDepth 4000

/-- The slice value '.slice ao n cap' reads, in the world w, as the n tokens f 0 up to f (n - 1). -/
structure TView (w : World) (ao : Option Addr) (n cap : Nat) (fk : Nat → Int) (fs : Nat → ByteArray) : Prop where
  le : n ≤ cap
  cells : 0 < n → ∃ b off, ao = some ⟨b, off, none⟩ ∧ b < w.heap.size ∧ ∀ i, i < n → w.cell? ⟨b, off + i * 2, none⟩ = some (.int .i64 (fk i)) ∧ w.cell? ⟨b, off + i * 2 + 1, none⟩ = some (.string (fs i))

theorem TView.below {w w' : World} {ao : Option Addr} {n cap : Nat} {fk : Nat → Int} {fs : Nat → ByteArray} (h : TView w ao n cap fk fs) (hb : Below w.heap.size w w') : TView w' ao n cap fk fs := by
  refine ⟨h.le, fun hn => ?_⟩
  obtain ⟨b, off, e, hlt, hc⟩ := h.cells hn
  refine ⟨b, off, e, Nat.lt_of_lt_of_le hlt hb.size, fun i hi => ?_⟩
  rw [hb.cell (p := ⟨b, off + i * 2, none⟩) hlt, hb.cell (p := ⟨b, off + i * 2 + 1, none⟩) hlt]
  exact hc i hi
theorem TView.but {w w' : World} {g : Nat} {ao : Option Addr} {n cap : Nat} {fk : Nat → Int} {fs : Nat → ByteArray} (h : TView w ao n cap fk fs) (hb : But g w w') (hne : ∀ a, ao = some a → a.block ≠ g) : TView w' ao n cap fk fs := by
  refine ⟨h.le, fun hn => ?_⟩
  obtain ⟨b, off, e, hlt, hc⟩ := h.cells hn
  refine ⟨b, off, e, Nat.lt_of_lt_of_le hlt hb.size, fun i hi => ?_⟩
  rw [World.cell?_of_block (w := w) (a := ⟨b, off + i * 2, none⟩) (hb.block b hlt (hne _ e)), World.cell?_of_block (w := w) (a := ⟨b, off + i * 2 + 1, none⟩) (hb.block b hlt (hne _ e))]
  exact hc i hi
theorem TView.congr {w : World} {ao : Option Addr} {n cap : Nat} {fk gk : Nat → Int} {fs gs : Nat → ByteArray} (h : TView w ao n cap fk fs) (e : ∀ i, i < n → fk i = gk i ∧ fs i = gs i) : TView w ao n cap gk gs := by
  refine ⟨h.le, fun hn => ?_⟩
  obtain ⟨b, off, ea, hlt, hc⟩ := h.cells hn
  exact ⟨b, off, ea, hlt, fun i hi => by rw [← (e i hi).1, ← (e i hi).2]; exact hc i hi⟩

/-- The cells of the first k tokens. -/
def rowK (gk : Nat → Int) (gs : Nat → ByteArray) : Nat → List Value
  | 0 => []
  | k + 1 => rowK gk gs k ++ [.int .i64 (gk k), .string (gs k)]
theorem rowK_len (gk : Nat → Int) (gs : Nat → ByteArray) : ∀ k, (rowK gk gs k).length = k * 2
  | 0 => rfl
  | k + 1 => by rw [rowK, List.length_append, rowK_len gk gs k]; simp; omega
theorem rowK_get (gk : Nat → Int) (gs : Nat → ByteArray) : ∀ k i, i < k → (rowK gk gs k)[i * 2]? = some (.int .i64 (gk i)) ∧ (rowK gk gs k)[i * 2 + 1]? = some (.string (gs i))
  | k + 1, i, hi => by
    have hl := rowK_len gk gs k
    by_cases e : i < k
    · obtain ⟨h1, h2⟩ := rowK_get gk gs k i e
      rw [rowK, List.getElem?_append_left (by omega), List.getElem?_append_left (by omega)]
      exact ⟨h1, h2⟩
    · obtain rfl : i = k := by omega
      rw [rowK, List.getElem?_append_right (by omega), List.getElem?_append_right (by omega), hl]
      simp [show i * 2 + 1 - i * 2 = 1 by omega]
theorem rowK_congr {gk : Nat → Int} {gs : Nat → ByteArray} {hk : Nat → Int} {hs : Nat → ByteArray} : ∀ {k : Nat}, (∀ i, i < k → gk i = hk i ∧ gs i = hs i) → rowK gk gs k = rowK hk hs k
  | 0, _ => rfl
  | k + 1, e => by
    obtain ⟨h1, h3⟩ := e k (by omega)
    rw [rowK, rowK, rowK_congr (fun i hi => e i (by omega)), h1, h3]

/-- A row of tokens of the call's own reads. -/
theorem tview_of_own {w : World} {base : Nat} {v : Value} {N : Nat} {gk : Nat → Int} {gs : Nat → ByteArray} (h : w.ownsRow base 132 2 v N (rowK gk gs N)) : ∃ a c, v = .slice a N c ∧ TView w a N c gk gs ∧ (v ≠ .slice none 0 0 → ∃ g, a = some ⟨g, 0, none⟩ ∧ base ≤ g) := by
  obtain ⟨hl, h⟩ := h
  rcases h with ⟨rfl, h0⟩ | ⟨g, c, cur, rfl, hb, hg, hnc, _, hcs, ht⟩
  · have hN : N = 0 := by have := h0; have := rowK_len gk gs N; omega
    subst hN
    exact ⟨none, 0, rfl, ⟨Nat.le_refl _, fun hn => absurd hn (Nat.lt_irrefl _)⟩, fun hne => absurd rfl hne⟩
  · refine ⟨_, c, rfl, ⟨hnc, fun hn => ⟨g, 0, rfl, ?_, fun i hi => ?_⟩⟩, fun _ => ⟨g, rfl, hb⟩⟩
    · exact (Array.getElem?_eq_some_iff.1 hg).1
    · have key : ∀ j x, j < N * 2 → (rowK gk gs N)[j]? = some x → w.cell? ⟨g, 0 + j, none⟩ = some x := by
        intro j x hj hx
        rw [← ht, List.getElem?_take, if_pos hj] at hx
        simp only [World.cell?, hg, Nat.zero_add]
        simpa using hx
      obtain ⟨h1, h2⟩ := rowK_get gk gs N i hi
      have k0 := key _ _ (by omega) h1
      have k1 := key _ _ (by omega) h2
      simp only [Nat.zero_add] at k0 k1 ⊢
      exact ⟨k0, k1⟩
end Go.Proofs.YtfjlmkphnciglatGreatDoor

/-
  What the table of the types says of the bytes.
-/
namespace Go.Proofs.YtfjlmkphnciglatGreatDoor
open Go.RowKit
set_option maxRecDepth 4000

theorem Tryz.info5 : (Tryz.prog.info? 5).map (fun i => (i.zero, i.size, i.bytes)) = some (some (.int .u8 0), 1, 1) := by kernel_rfl

end Go.Proofs.YtfjlmkphnciglatGreatDoor

/-
  A token in a variable of the call's own; a row of tokens grows by one.
-/
namespace Go.Proofs.YtfjlmkphnciglatGreatDoor
open Go.RowKit
set_option maxRecDepth 4000

/-- The two cells of a token. -/
def tokC (k : Int) (s : ByteArray) : Nat → Value
  | 0 => .int .i64 k
  | _ => .string s

/-- A token in a variable of the call's own. -/
def TBox (w : World) (B : Nat) (k : Int) (s : ByteArray) : Prop := w.rowIs B 132 2 (tokC k s)
theorem TBox.new (w : World) (k : Int) (s : ByteArray) : TBox (w.alloc (.cells #[.int .i64 k, .string s] 132)) w.heap.size k s :=
  World.rowIs_alloc w _ 132 (tokC k s) (fun j hj => by match j, hj with | 0, _ => rfl | 1, _ => rfl)
theorem TBox.cells {w : World} {B : Nat} {k : Int} {s : ByteArray} (h : TBox w B k s) : w.cell? ⟨B, 0, none⟩ = some (.int .i64 k) ∧ w.cell? ⟨B, 1, none⟩ = some (.string s) :=
  ⟨h.cell (i := 0) (by decide), h.cell (i := 1) (by decide)⟩
theorem TBox.frozen {w : World} {B : Nat} {k : Int} {s : ByteArray} (h : TBox w B k s) : w.frozen? ⟨B, 0, none⟩ = false ∧ w.frozen? ⟨B, 1, none⟩ = false :=
  ⟨World.rowIs.frozen h 0, World.rowIs.frozen h 1⟩
theorem TBox.lt {w : World} {B : Nat} {k : Int} {s : ByteArray} (h : TBox w B k s) : B < w.heap.size := World.rowIs.lt h
theorem TBox.below {w w' : World} {B : Nat} {k : Int} {s : ByteArray} (h : TBox w B k s) (hb : Below w.heap.size w w') : TBox w' B k s := h.of_block (hb.block B h.lt)
theorem TBox.but {w w' : World} {B g : Nat} {k : Int} {s : ByteArray} (h : TBox w B k s) (hb : But g w w') (hne : B ≠ g) : TBox w' B k s := h.of_block (hb.block B h.lt hne)
theorem TBox.set0 {w : World} {B : Nat} {k : Int} {s : ByteArray} (h : TBox w B k s) (x : Int) : TBox (w.setCell ⟨B, 0, none⟩ (.int .i64 x)) B x s :=
  (World.rowIs.set h 0 _).congr (fun j hj => by match j, hj with | 0, _ => rfl | 1, _ => rfl)
theorem TBox.set1 {w : World} {B : Nat} {k : Int} {s : ByteArray} (h : TBox w B k s) (t : ByteArray) : TBox (w.setCell ⟨B, 1, none⟩ (.string t)) B k t :=
  (World.rowIs.set h 1 _).congr (fun j hj => by match j, hj with | 0, _ => rfl | 1, _ => rfl)
theorem TBox.other {w : World} {B D i : Nat} {k : Int} {s : ByteArray} (h : TBox w B k s) (hne : B ≠ D) (u : Value) : TBox (w.setCell ⟨D, i, none⟩ u) B k s := h.of_block (Below.heap_setCell _ _ _ _ hne)

theorem infoTok2 : ∃ i, Tryz.prog.info? 132 = some i ∧ i.zero = some (.agg #[.int .i64 0, .string ⟨#[]⟩]) ∧ i.size = 2 ∧ i.bytes = 24 := by
  have h : (Tryz.prog.info? 132).map (fun i => (i.zero, i.size, i.bytes)) = some (some (.agg #[.int .i64 0, .string ⟨#[]⟩]), 2, 24) := by kernel_rfl
  obtain ⟨i, hi, hz⟩ := Option.map_eq_some_iff.1 h
  simp only [Prod.mk.injEq] at hz
  exact ⟨i, hi, hz.1, hz.2.1, hz.2.2⟩

/-- The cells of a new row of one token. -/
theorem cells_tok (W : World) (k : Int) (s : ByteArray) : ∀ j u, [Value.int .i64 k, .string s][j]? = some u → (W.alloc (.cells #[.int .i64 k, .string s] 132)).cell? ((⟨W.heap.size, 0, none⟩ : Addr).add j) = some u := by
  intro j u h
  obtain ⟨c0, c1⟩ := (TBox.new W k s).cells
  have ea : ∀ j, (⟨W.heap.size, 0, none⟩ : Addr).add j = ⟨W.heap.size, 0 + j, none⟩ := fun j => by unfold Addr.add; split <;> simp_all
  match j, h with
  | 0, h => cases h; rw [ea]; exact c0
  | 1, h => cases h; rw [ea]; exact c1
  | j + 2, h => simp at h
theorem one_tok (k : Int) (s : ByteArray) : ∀ u ∈ [Value.int .i64 k, .string s], u.oneCell' = true := by
  intro u hu
  simp at hu
  rcases hu with rfl | rfl <;> rfl
theorem own_below2 {w w' : World} {base : Nat} {t : TypeId} {v : Value} {n : Nat} {l : List Value} (h : w.ownsRow base t 2 v n l) (hb : Below w.heap.size w w') : w'.ownsRow base t 2 v n l := by
  refine h.kept (row := none) ⟨hb.os, hb.tape, hb.output, hb.size, fun k hk _ => hb.block k hk⟩ ?_
  cases hv : v.ownBlock with
  | none => exact Or.inl rfl
  | some k => exact Or.inr (fun e => by cases e)
end Go.Proofs.YtfjlmkphnciglatGreatDoor

/-
  What Lex comes to: tokens in a row of the call's own, and a place.
-/
namespace Go.Proofs.YtfjlmkphnciglatGreatDoor
open Go.RowKit
set_option maxRecDepth 4000

def tk (l : List (Int × ByteArray)) (i : Nat) : Int := (l.getD i (0, ⟨#[]⟩)).1
def ts (l : List (Int × ByteArray)) (i : Nat) : ByteArray := (l.getD i (0, ⟨#[]⟩)).2
/-- The cells of a list of tokens. -/
def rowL (l : List (Int × ByteArray)) : List Value := l.flatMap (fun t => [.int .i64 t.1, .string t.2])
theorem rowL_snoc (l : List (Int × ByteArray)) (t : Int × ByteArray) : rowL (l ++ [t]) = rowL l ++ [.int .i64 t.1, .string t.2] := by simp [rowL]
theorem tk_left {l m : List (Int × ByteArray)} {i : Nat} (h : i < l.length) : tk (l ++ m) i = tk l i ∧ ts (l ++ m) i = ts l i := by
  unfold tk ts; simp [List.getD, List.getElem?_append_left h]
theorem rowL_K : ∀ l : List (Int × ByteArray), rowL l = rowK (tk l) (ts l) l.length := by
  have key : ∀ (l : List (Int × ByteArray)) (k : Nat), k ≤ l.length → rowL (l.take k) = rowK (tk l) (ts l) k := by
    intro l k
    induction k with
    | zero => intro _; rfl
    | succ k ih =>
      intro hk
      have h1 : l.take (k + 1) = l.take k ++ [l[k]] := by rw [List.take_add_one, List.getElem?_eq_getElem (by omega)]; rfl
      have h2 : l.getD k (0, ⟨#[]⟩) = l[k] := by simp [List.getD, List.getElem?_eq_getElem (show k < l.length by omega)]
      rw [h1, rowL_snoc, ih (by omega), rowK]
      unfold tk ts
      rw [h2]
  intro l
  have := key l l.length (Nat.le_refl _)
  rw [List.take_length] at this
  exact this
/-- What Lex comes to. -/
def LexTo (w : World) (r : List (Int × ByteArray) × Int) (e : Ending) (w' : World) : Prop :=
  ∃ v, e = .returned (.tuple #[v, .int .i64 r.2]) ∧ v ≠ .slice none 0 0 ∧ w'.ownsRow w.heap.size 132 2 v r.1.length (rowL r.1) ∧ Below w.heap.size w w'
end Go.Proofs.YtfjlmkphnciglatGreatDoor

/-
  Names and marks in a text, plainly.
-/
namespace Go.Proofs.YtfjlmkphnciglatGreatDoor
open Go.RowKit
set_option maxRecDepth 4000

theorem endN_in {s : ByteArray} {p j : Nat} (h1 : p ≤ j) (h2 : j < endN s p) : inName (bt s j) = true := by
  by_cases h : p < s.size ∧ inName (bt s p) = true
  · by_cases e : p = j
    · subst e; exact h.2
    · rw [endN_step h.1 h.2] at h2
      exact endN_in (p := p + 1) (by omega) h2
  · rw [endN_stop h] at h2; omega
  termination_by s.size - p
  decreasing_by omega
/-- A name in a text is right just if it is not too long. -/
theorem name_ok {s : ByteArray} {i : Nat} (hi : i < s.size) (hsm : small (bt s i) = true) : nameOk (s.extract i (endN s (i + 1))) = decide (endN s (i + 1) - i ≤ 8) := by
  have hge := endN_ge s (i + 1)
  have hle := endN_le s (i + 1) (by omega)
  have hsz : (s.extract i (endN s (i + 1))).size = endN s (i + 1) - i := by rw [ByteArray.size_extract]; omega
  unfold nameOk
  rw [hsz, bt_extract hle (by omega), Nat.add_zero]
  by_cases h8 : endN s (i + 1) - i ≤ 8
  · rw [decide_eq_true h8]
    refine decide_eq_true ⟨by omega, h8, hsm, fun j hj => ?_⟩
    rw [bt_extract hle (by omega)]
    by_cases h0 : j = 0
    · subst h0; rw [Nat.add_zero]; unfold inName; rw [hsm]; rfl
    · exact endN_in (p := i + 1) (by omega) (by omega)
  · rw [decide_eq_false h8]
    exact decide_eq_false (fun h => h8 h.2.1)
theorem mark_ok {s : ByteArray} {i : Nat} (hi : i < s.size) : markOk (s.extract i (i + 1)) = markC (bt s i) := by
  have hsz : (s.extract i (i + 1)).size = 1 := by rw [ByteArray.size_extract]; omega
  unfold markOk
  rw [hsz, bt_extract (by omega) (by omega), Nat.add_zero]
  simp
theorem small_kind {s : ByteArray} {i : Nat} (h : small (bt s i) = true) : kindAt s i = 1 ∧ stopAt s i = endN s (i + 1) := by unfold kindAt stopAt; rw [h]; exact ⟨rfl, rfl⟩
theorem other_kind {s : ByteArray} {i : Nat} (h : small (bt s i) = false) : kindAt s i = 2 ∧ stopAt s i = i + 1 := by unfold kindAt stopAt; rw [h]; exact ⟨rfl, rfl⟩
theorem mark_not {c : Int} (h : markC c = true) : small c = false ∧ blank c = false := by
  unfold markC at h
  unfold small blank
  simp only [decide_eq_true_eq] at h
  exact ⟨decide_eq_false (by omega), decide_eq_false (by omega)⟩
theorem small_not {c : Int} (h : small c = true) : blank c = false := by
  unfold small at h
  unfold blank
  simp only [decide_eq_true_eq] at h
  exact decide_eq_false (by omega)
end Go.Proofs.YtfjlmkphnciglatGreatDoor

