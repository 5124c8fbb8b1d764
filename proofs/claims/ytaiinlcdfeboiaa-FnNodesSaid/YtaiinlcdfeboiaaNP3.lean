/-
  NodeDraw
-/
import Derived.Test.YtaiinlcdfeboiaaNP1
import Derived.Test.YtaiinlcdfeboiaaNP2
import Derived.Deep.RegionHeld3
import Derived.Deep.LoopGhost
/-
  The draw of a node.
-/
namespace Go.Proofs.Ytaiinlcdfeboiaa
open Go.RowKit
set_option maxRecDepth 4000

def nmL : List ByteArray := [⟨#[97]⟩, ⟨#[98]⟩, ⟨#[99]⟩, ⟨#[100]⟩, ⟨#[101]⟩, ⟨#[102]⟩]
def sufL : List ByteArray := [⟨#[]⟩, ⟨#[49]⟩, ⟨#[108, 111, 110, 103, 101, 114, 45, 97, 110, 100, 45, 108, 111, 110, 103, 101, 114, 45, 107, 101, 121]⟩]
def valL : List ByteArray := [⟨#[]⟩, ⟨#[118]⟩, ⟨#[118, 97, 108, 117, 101]⟩]
theorem few_of {l : List ByteArray} {k : Nat} {z : ByteArray} (h : z ∈ l) (hl : l.all (fun x => decide (x.size ≤ k)) = true) : z.size ≤ k := by
  have := List.all_eq_true.1 hl z h
  simpa using this
theorem okB_of {l : List ByteArray} {z : ByteArray} (h : z ∈ l) (hl : l.all OkB = true) : OkB z = true := List.all_eq_true.1 hl z h
theorem infoTxt : ∃ i, Try.prog.info? 9 = some i ∧ i.zero = some (.string ⟨#[]⟩) ∧ i.size = 1 ∧ i.bytes = 16 := by
  have h : (Try.prog.info? 9).map (fun i => (i.zero, i.size, i.bytes)) = some (some (.string ⟨#[]⟩), 1, 16) := by kernel_rfl
  obtain ⟨i, hi, hz⟩ := Option.map_eq_some_iff.1 h
  simp only [Prod.mk.injEq] at hz
  exact ⟨i, hi, hz.1, hz.2.1, hz.2.2⟩
theorem infoNum : ∃ i, Try.prog.info? 3 = some i ∧ i.zero = some (.int .i64 0) ∧ i.size = 1 ∧ i.bytes = 8 := by
  have h : (Try.prog.info? 3).map (fun i => (i.zero, i.size, i.bytes)) = some (some (.int .i64 0), 1, 8) := by kernel_rfl
  obtain ⟨i, hi, hz⟩ := Option.map_eq_some_iff.1 h
  simp only [Prod.mk.injEq] at hz
  exact ⟨i, hi, hz.1, hz.2.1, hz.2.2⟩
theorem oneS (s : ByteArray) : ∀ u ∈ [Value.string s], u.oneCell' = true := by intro u hu; simp at hu; subst hu; rfl
theorem oneI (s : Int) : ∀ u ∈ [Value.int .i64 s], u.oneCell' = true := by intro u hu; simp at hu; subst hu; rfl

/-- What the keys' loop keeps. -/
def S1 (w : World) (g : Nat) (ao : Option Addr) (n cap : Nat) (f : Nat → Int) (X NB : Nat) (b : Bool) (k : Nat) (W : World) : Prop :=
  ∃ (ks : List ByteArray) (kv : Value) (b2 : Nat), (∀ j, kv.ownBlock = some j → NB < j) ∧ ks.length ≤ k ∧ (∀ s ∈ ks, GoodK s) ∧ V4 W X 27 (.bool b) kv (.slice none 0 0) (.slice none 0 0) ∧ V4 W w.heap.size 27 (.bool false) (.slice none 0 0) (.slice none 0 0) (.slice none 0 0) ∧ W.rowIs NB 9 6 (fun i => .string (nmL.getD i ⟨#[]⟩)) ∧ RN w W b2 kv (.slice none 0 0) (.slice none 0 0) ⟨b, ks, [], []⟩ ∧ CN w g ao n cap f W
/-- What the second loop keeps. -/
def S2 (w : World) (g : Nat) (ao : Option Addr) (n cap : Nat) (f : Nat → Int) (X : Nat) (ka : Option Addr) (kc : Nat) (b : Bool) (ks : List ByteArray) (k : Nat) (W : World) : Prop :=
  ∃ (vs : List ByteArray) (ds : List Int) (vv dv : Value) (b2 : Nat), vs.length ≤ k ∧ (∀ s ∈ vs, s.size ≤ 30) ∧ ds.length ≤ k ∧ Hid (b = false → ds.length = k) ∧ (∀ y ∈ ds, 2 ≤ y ∧ y ≤ 41) ∧ V4 W X 27 (.bool b) (.slice ka ks.length kc) vv dv ∧ V4 W w.heap.size 27 (.bool false) (.slice none 0 0) (.slice none 0 0) (.slice none 0 0) ∧ RN w W b2 (.slice ka ks.length kc) vv dv ⟨b, ks, vs, ds⟩ ∧ CN w g ao n cap f W

set_option maxHeartbeats 16000000 in
theorem l14Draw_any (g : Nat) (ao : Option Addr) (n cap : Nat) (f : Nat → Int) (w : World) (hn : n ≤ 1048576) (hC : Cur w g ao n cap f) :
    Calls Try.prog 36 #[.pointer (some ⟨g, 0, none⟩)] w fun e w' => ∃ (L : NL) (b2 : Nat) (kv vv dv : Value), e = .returned (.agg #[.bool L.leaf, kv, vv, dv]) ∧ RN w w' b2 kv vv dv L ∧ Small 50 L ∧ CN w g ao n cap f w' := by
  obtain ⟨i0, hi, hz0, hz1, hz2⟩ := infoTxt
  obtain ⟨j0, hj, hy0, hy1, hy2⟩ := infoNum
  have hR0 := CN.start hC
  have hg := hR0.lt
  have hbA : Below w.heap.size w (w.alloc (.cells #[.bool false, .slice none 0 0, .slice none 0 0, .slice none 0 0] 27)) := (Below.refl _ _).alloc (Nat.le_refl _) _
  have hRR := V4.new w 27 (.bool false) (.slice none 0 0) (.slice none 0 0) (.slice none 0 0)
  have hR1 := hR0.below hbA
  have hsz : w.heap.size < (w.alloc (.cells #[.bool false, .slice none 0 0, .slice none 0 0, .slice none 0 0] 27)).heap.size := by simp
  clear hC hR0 hbA
  go_enter Try.func36, Try.ntmps36
  go_wp2_with fail
  obtain ⟨WA, hWA⟩ : ∃ x, Hid (w.alloc (.cells #[.bool false, .slice none 0 0, .slice none 0 0, .slice none 0 0] 27) = x) := ⟨_, rfl⟩
  rw [hWA.out] at hRR hR1 hsz ⊢
  refine (l1Once_any g ao n cap f 2 WA hn (by omega) (by omega) hR1.cur).mono ?_
  rintro e w1 ⟨b, rfl, hC1, hO1⟩
  have hb1 := But.ofOnly hO1
  have hR := hR1.next hC1 hb1
  replace hRR := hRR.butN hb1 (by omega)
  have hsz1 : w.heap.size < w1.heap.size := Nat.lt_of_lt_of_le hsz hb1.size
  clear hC1 hO1 hb1 hR1 hsz hWA
  have hbX : Below w1.heap.size w1 (w1.alloc (.cells #[.bool b, .slice none 0 0, .slice none 0 0, .slice none 0 0] 27)) := (Below.refl _ _).alloc (Nat.le_refl _) _
  have hX := V4.new w1 27 (.bool b) (.slice none 0 0) (.slice none 0 0) (.slice none 0 0)
  have hRX := hR.below hbX
  have hRRX := hRR.below hbX
  have hbN : Below (w1.alloc (.cells #[.bool b, .slice none 0 0, .slice none 0 0, .slice none 0 0] 27)).heap.size (w1.alloc (.cells #[.bool b, .slice none 0 0, .slice none 0 0, .slice none 0 0] 27)) ((w1.alloc (.cells #[.bool b, .slice none 0 0, .slice none 0 0, .slice none 0 0] 27)).alloc (.cells #[.string ⟨#[97]⟩, .string ⟨#[98]⟩, .string ⟨#[99]⟩, .string ⟨#[100]⟩, .string ⟨#[101]⟩, .string ⟨#[102]⟩] 9)) := (Below.refl _ _).alloc (Nat.le_refl _) _
  have hNm : ((w1.alloc (.cells #[.bool b, .slice none 0 0, .slice none 0 0, .slice none 0 0] 27)).alloc (.cells #[.string ⟨#[97]⟩, .string ⟨#[98]⟩, .string ⟨#[99]⟩, .string ⟨#[100]⟩, .string ⟨#[101]⟩, .string ⟨#[102]⟩] 9)).rowIs (w1.heap.size + 1) 9 6 (fun i => .string (nmL.getD i ⟨#[]⟩)) := by
    have := World.rowIs_alloc (w1.alloc (.cells #[.bool b, .slice none 0 0, .slice none 0 0, .slice none 0 0] 27)) #[.string ⟨#[97]⟩, .string ⟨#[98]⟩, .string ⟨#[99]⟩, .string ⟨#[100]⟩, .string ⟨#[101]⟩, .string ⟨#[102]⟩] 9 (fun i => .string (nmL.getD i ⟨#[]⟩)) (fun i hi => by
      match i, hi with
      | 0, _ => rfl | 1, _ => rfl | 2, _ => rfl | 3, _ => rfl | 4, _ => rfl | 5, _ => rfl)
    simpa using this
  replace hX := hX.below hbN
  replace hRX := hRX.below hbN
  replace hRRX := hRRX.below hbN
  obtain ⟨X, hXe⟩ : ∃ x, Hid (w1.heap.size = x) := ⟨_, rfl⟩
  obtain ⟨NB, hNBe⟩ : ∃ x, Hid (w1.heap.size + 1 = x) := ⟨_, rfl⟩
  have hXN : X ≠ NB := by rw [← hXe.out, ← hNBe.out]; omega
  rw [hNBe.out] at hNm
  rw [hXe.out] at hX hsz1
  have hNBw : w.heap.size < NB := by have := hNBe.out; have := hXe.out; omega
  have hS1 : S1 w g ao n cap f X NB b 0 ((w1.alloc (.cells #[.bool b, .slice none 0 0, .slice none 0 0, .slice none 0 0] 27)).alloc (.cells #[.string ⟨#[97]⟩, .string ⟨#[98]⟩, .string ⟨#[99]⟩, .string ⟨#[100]⟩, .string ⟨#[101]⟩, .string ⟨#[102]⟩] 9)) :=
    ⟨[], .slice none 0 0, w.heap.size, (fun j e => by cases e), Nat.le_refl _, by simp, hX, hRRX, hNm, ⟨World.ownsRow_nil _ _ _ _, World.ownsRow_nil _ _ _ _, World.ownsRow_nil _ _ _ _, (fun j e => by cases e), Nat.le_refl _, hRX.size⟩, hRX⟩
  obtain ⟨W3, hW3⟩ : ∃ x, Hid ((w1.alloc (.cells #[.bool b, .slice none 0 0, .slice none 0 0, .slice none 0 0] 27)).alloc (.cells #[.string ⟨#[97]⟩, .string ⟨#[98]⟩, .string ⟨#[99]⟩, .string ⟨#[100]⟩, .string ⟨#[101]⟩, .string ⟨#[102]⟩] 9) = x) := ⟨_, rfl⟩
  rw [hW3.out] at hS1
  have HS1 : Hid (S1 w g ao n cap f X NB b 0 W3) := hS1
  clear hS1 hX hRX hRRX hbX hbN hNm hR hRR
  go_wp2_with (rw [hW3.out])
  rw [hNBe.out, hXe.out]
  clear hW3 hXe hNBe
  go_loopg [5] 6 (fun q i wr => ∃ k : Nat, k ≤ 6 ∧ q = 6 - k ∧ i = .int .i64 k ∧ S1 w g ao n cap f X NB b k wr)
  case atStart => exact ⟨0, Nat.zero_le _, rfl, rfl, HS1.out⟩
  case round =>
    clear HS1
    obtain ⟨k, hk, rfl, rfl, hS⟩ := hrel
    by_cases hlt : k < 6
    · have hkz : (k : Int) < 6 := by omega
      obtain ⟨ks, kv, b2, hNk, hkl, hks, hX, hRR, hN, hRN, hCN⟩ := hS
      go_wp2_with fail
      refine (l1Once_any g ao n cap f 2 wr hn (by omega) (by omega) hCN.cur).mono ?_
      rintro e w4 ⟨b4, rfl, hC4, hO4⟩
      have hb4 := But.ofOnly hO4
      replace hX := hX.butN hb4 (by omega)
      replace hRR := hRR.butN hb4 (by omega)
      replace hN := hN.of_block (hb4.block NB hN.lt (by omega))
      replace hRN := hRN.but hb4 hg
      replace hCN := hCN.next hC4 hb4
      clear hC4 hO4 hb4
      cases b4 with
      | false =>
        have HS2 : Hid (S1 w g ao n cap f X NB b (k + 1) w4) := ⟨ks, kv, b2, hNk, by omega, hks, hX, hRR, hN, hRN, hCN⟩
        clear hX hRR hN hRN hCN
        go_wp2
        go_roundg (6 - (k + 1))
        case measure => omega
        case rel => exact ⟨k + 1, by omega, rfl, by go_num, HS2.out⟩
      | true =>
        obtain ⟨nm, hnm⟩ : ∃ x, Hid (nmL.getD k ⟨#[]⟩ = x) := ⟨_, rfl⟩
        have hnms : nm.size ≤ 1 := by rw [← hnm.out]; exact getD_of (P := fun s : ByteArray => s.size ≤ 1) (fun s hs => few_of hs (by decide)) (show k < nmL.length from hlt)
        have HNG : Hid (nm.size = 1 ∧ OkB nm = true) := by show _ ∧ _; rw [← hnm.out]; exact getD_of (P := fun s : ByteArray => s.size = 1 ∧ OkB s = true) (fun s hs => ⟨by have := few_of hs (k := 1) (by decide); have h2 := List.all_eq_true.1 (show nmL.all (fun x => decide (1 ≤ x.size)) = true by decide) s hs; simp at h2; omega, okB_of hs (by decide)⟩) (show k < nmL.length from hlt)
        have HNC : Hid (∀ W : World, W.rowIs NB 9 6 (fun i => .string (nmL.getD i ⟨#[]⟩)) → W.cell? ⟨NB, k, none⟩ = some (.string nm)) := fun W h => by rw [← hnm.out]; exact h.cell hlt
        have hc0 := HNC.out _ hN
        obtain ⟨ka, kc, ek, -⟩ := own_tx hRN.k
        subst ek
        dsimp only at hX hRN
        go_wp2_with fail
        as_aux_lemma =>
          refine wp_region_held_drew (S := fun WW => WW.cell? ⟨NB, k, none⟩ = some (.string nm)) (by kernel_rfl) hc0 (fun hHeld => ?_)
          have hbd : Below w4.heap.size w4 w4.drew := (Below.refl _ _).drew
          replace hX := hX.below hbd
          replace hRR := hRR.below hbd
          replace hN := hN.of_block (hbd.block NB hN.lt)
          replace hRN := hRN.below hbd
          replace hCN := hCN.below hbd
          clear hbd hc0
          obtain ⟨wd, hwd⟩ : ∃ x, Hid (w4.drew = x) := ⟨_, rfl⟩
          rw [hwd.out] at hX hRR hN hRN hCN hHeld ⊢
          clear hwd
          refine' wpAnyH_take (i := 0) (v := _) rfl (by kernel_rfl) (by kernel_rfl) (by kernel_rfl) (fun _ _ _ h => h) (Or.inl ⟨by kernel_rfl, ?hka1⟩) (by assumption) ?rka1
          case hka1 => intro W hW; go_simp; all_goals with_reducible rfl
          change wpAnyH _ _ _ _ _ _ _ (Act.put _ (some 19) _) _
          simp only [Act.put, List.setIfInBounds_toArray, List.set_cons_zero, List.set_cons_succ]
          refine' wpAnyH_take (i := 2) (v := _) rfl (by kernel_rfl) (by kernel_rfl) (by kernel_rfl) (fun _ _ _ h => h) (Or.inl ⟨by kernel_rfl, ?hka2⟩) (by assumption) ?rka2
          case hka2 => intro W hW; go_simp; all_goals with_reducible rfl
          change wpAnyH _ _ _ _ _ _ _ (Act.put _ (some 21) _) _
          simp only [Act.put, List.setIfInBounds_toArray, List.set_cons_zero, List.set_cons_succ]
          refine' wpAnyH_take (i := 3) (v := _) rfl (by kernel_rfl) (by kernel_rfl) (by kernel_rfl) (fun _ _ _ h => h) (Or.inl ⟨by kernel_rfl, ?hka3⟩) (by assumption) ?rka3
          case hka3 => intro W hW; go_simp; all_goals with_reducible rfl
          change wpAnyH _ _ _ _ _ _ _ (Act.put _ (some 22) _) _
          simp only [Act.put, List.setIfInBounds_toArray, List.set_cons_zero, List.set_cons_succ]
          refine' wpAnyH_take (i := 4) (v := _) rfl (by kernel_rfl) (by kernel_rfl) (by kernel_rfl) (fun _ _ _ h => h) (Or.inl ⟨by kernel_rfl, ?hka4⟩) (by assumption) ?rka4
          case hka4 => intro W hW; go_simp; all_goals with_reducible rfl
          change wpAnyH _ _ _ _ _ _ _ (Act.put _ (some 23) _) _
          simp only [Act.put, List.setIfInBounds_toArray, List.set_cons_zero, List.set_cons_succ]
          refine' wpAnyH_take (i := 5) (v := _) rfl (by kernel_rfl) (by kernel_rfl) (by kernel_rfl) (fun _ _ _ h => h) (Or.inl ⟨by kernel_rfl, ?hka5⟩) (by assumption) ?rka5
          case hka5 => intro W hW; go_simp; all_goals with_reducible rfl
          change wpAnyH _ _ _ _ _ _ _ (Act.put _ (some 24) _) _
          simp only [Act.put, List.setIfInBounds_toArray, List.set_cons_zero, List.set_cons_succ]
          refine' wpAnyH_take (i := 6) (v := _) rfl (by kernel_rfl) (by kernel_rfl) (by kernel_rfl) (fun _ _ _ h => h) (Or.inl ⟨by kernel_rfl, ?hka6⟩) (by assumption) ?rka6
          case hka6 => intro W hW; go_simp; all_goals with_reducible rfl
          change wpAnyH _ _ _ _ _ _ _ (Act.put _ (some 25) _) _
          simp only [Act.put, List.setIfInBounds_toArray, List.set_cons_zero, List.set_cons_succ]
          refine wpAnyH_ready (rs := [1, 7]) (by kernel_rfl) (by simp) ?_
          refine AllReadyH.cons rfl (fun KK hK => ?_) (AllReadyH.cons rfl (fun KK hK => ?_) AllReadyH.nil)
          ·
            have xl := hX.cells.2.1
            go_simp
            clear xl
            refine hK.out _ _ (HNC.out _ hN) (fun hHeld => ?_)
            clear hK KK
            try simp only [Act.put, List.setIfInBounds_toArray, List.set_cons_zero, List.set_cons_succ]
            refine wpAnyH_ready (rs := [7]) (by kernel_rfl) (by simp) ?_
            refine AllReadyH.cons rfl (fun KK hK => ?_) AllReadyH.nil
            have hSt := l1Str_mem g ao n cap f sufL wd.heap.size wd rfl hn (by decide) (by decide) hCN.cur
            unfold sufL at hSt
            go_simp
            have hbL : Below wd.heap.size wd (wd.alloc (.cells #[.string ⟨#[]⟩, .string ⟨#[49]⟩, .string ⟨#[108, 111, 110, 103, 101, 114, 45, 97, 110, 100, 45, 108, 111, 110, 103, 101, 114, 45, 107, 101, 121]⟩] 9)) := (Below.refl _ _).alloc (Nat.le_refl _) _
            have hNL : (wd.alloc (.cells #[.string ⟨#[]⟩, .string ⟨#[49]⟩, .string ⟨#[108, 111, 110, 103, 101, 114, 45, 97, 110, 100, 45, 108, 111, 110, 103, 101, 114, 45, 107, 101, 121]⟩] 9)).cell? ⟨NB, k, none⟩ = some (.string nm) := HNC.out _ (hN.of_block (hbL.block NB hN.lt))
            refine hK.out _ _ hNL (fun hHeld => ?_)
            clear hK KK
            try simp only [Act.put, List.setIfInBounds_toArray, List.set_cons_zero, List.set_cons_succ]
            refine wpAnyH_ready (rs := [8]) (by kernel_rfl) (by simp) ?_
            refine AllReadyH.cons rfl (fun KK hK => ?_) AllReadyH.nil
            go_simp
            refine hSt.mono ?_
            rintro e w8 ⟨z, rfl, hz, hCx, hBx⟩
            have hzs : z.size ≤ 25 := few_of hz (by decide)
            have HZG : Hid (z.size ≤ 21 ∧ OkB z = true) := ⟨few_of hz (by decide), okB_of hz (by decide)⟩
            replace hX := hX.butN hBx (by omega)
            replace hRR := hRR.butN hBx (by omega)
            replace hN := hN.of_block (hBx.block NB hN.lt (by omega))
            replace hRN := hRN.but hBx hg
            replace hCN := hCN.next hCx hBx
            clear hCx hBx hSt hz hbL hNL
            have hzl : ¬ (nm.size + z.size > 9223372036854775807) := by omega
            go_wp2_with fail
            refine hK.out _ _ (HNC.out _ hN) (fun hHeld => ?_)
            clear hK KK
            try simp only [Act.put, List.setIfInBounds_toArray, List.set_cons_zero, List.set_cons_succ]
            refine' wpAnyH_take (i := 9) (v := _) rfl (by kernel_rfl) (by kernel_rfl) (by kernel_rfl) (fun _ _ _ h => h) (Or.inl ⟨by kernel_rfl, ?hka7⟩) (by assumption) ?rka7
            case hka7 => intro W hW; go_simp; all_goals with_reducible rfl
            change wpAnyH _ _ _ _ _ _ _ (Act.put _ (some 28) _) _
            simp only [Act.put, List.setIfInBounds_toArray, List.set_cons_zero, List.set_cons_succ]
            refine wpAnyH_ready (rs := [10]) (by kernel_rfl) (by simp) ?_
            refine AllReadyH.cons rfl (fun KK hK => ?_) AllReadyH.nil
            go_simp
            have hbO : Below w8.heap.size w8 (w8.alloc (.cells #[.string (nm ++ z)] 9)) := (Below.refl _ _).alloc (Nat.le_refl _) _
            have hcl := cellNew w8 (.string (nm ++ z)) 9
            replace hX := hX.below hbO
            replace hRR := hRR.below hbO
            replace hN := hN.of_block (hbO.block NB hN.lt)
            replace hRN := hRN.below hbO
            replace hCN := hCN.below hbO
            clear hbO
            refine hK.out _ _ (HNC.out _ hN) (fun hHeld => ?_)
            clear hK KK
            try simp only [Act.put, List.setIfInBounds_toArray, List.set_cons_zero, List.set_cons_succ]
            obtain ⟨w9, hw9⟩ : ∃ x, Hid ((w8.alloc (.cells #[.string (nm ++ z)] 9)) = x) := ⟨_, rfl⟩
            obtain ⟨g9, hg9⟩ : ∃ x, Hid (w8.heap.size = x) := ⟨_, rfl⟩
            rw [hw9.out, hg9.out] at hcl
            rw [hw9.out] at hX hRR hN hRN hCN hHeld ⊢
            try rw [hg9.out]
            refine wpAnyH_ready (rs := [11]) (by kernel_rfl) (by simp) ?_
            refine AllReadyH.cons rfl (fun KK hK => ?_) AllReadyH.nil
            rw [if_pos (by kernel_rfl)]
            have hKO := own_base' hRN.k (base' := NB + 1) hNk
            refine wp_append_own _ (.tmp 20) (.tmp 29) 24 rfl (NB + 1) 9 i0 (.string ⟨#[]⟩) 1 16 Try.underlying24 hi hz0 hz1 hz2 rfl (by decide) (.slice ka ks.length kc) (ks.length) (txc ks) rfl hKO ⟨g9, 0, none⟩ 1 1 [.string (nm ++ z)] rfl rfl hcl (oneS _) (by unfold maxLen; omega) (by omega) (hN.lt) ?_
            intro v6 wa hOa hgra hnila
            obtain ⟨qa, qc, eq⟩ := own_form hOa
            subst eq
            replace hCN := hCN.grown hgra (fun j e => by have := (own_blkN hRN.k e).1; have := hRN.b2w.1; omega)
            have hXa := hX.grownN hgra (own_neV hRN.k hX (by decide))
            have hRa := hRR.grownN hgra (own_neV hRN.k hRR (by decide))
            have hNa : wa.rowIs NB 9 6 (fun i => .string (nmL.getD i ⟨#[]⟩)) := hN.of_block (hgra.block NB hN.lt (fun e => by have := hNk NB e.symm; omega))
            have hNk2 : ∀ j, (Value.slice qa (ks.length + 1) qc).ownBlock = some j → NB < j := fun j e => (own_blkN hOa e).1
            replace hOa := own_base' hOa (base' := w.heap.size) (fun j e => by have := hNk2 j e; omega)
            replace hRN := hRN.addK rfl hgra hOa
            dsimp only at hRN
            clear hX hRR hOa hgra hnila hcl hN hNk hKO
            refine hK.out _ _ (HNC.out _ hNa) (fun hHeld => ?_)
            clear hK KK
            change wpAnyH _ _ _ _ _ _ _ (Act.put _ (some 30) _) _
            try simp only [Act.put, List.setIfInBounds_toArray, List.set_cons_zero, List.set_cons_succ]
            refine' wpAnyH_take (i := 12) (v := _) rfl (by kernel_rfl) (by kernel_rfl) (by kernel_rfl) (fun _ _ _ h => h) (Or.inl ⟨by kernel_rfl, ?hka8⟩) (by assumption) ?rka8
            case hka8 => intro W hW; go_simp; all_goals with_reducible rfl
            change wpAnyH _ _ _ _ _ _ _ (Act.put _ (some 31) _) _
            simp only [Act.put, List.setIfInBounds_toArray, List.set_cons_zero, List.set_cons_succ]
            refine wpAnyH_ready (rs := [13]) (by kernel_rfl) (by simp) ?_
            refine AllReadyH.cons rfl (fun KK hK => ?_) AllReadyH.nil
            obtain ⟨y0, y1, y2, y3⟩ := hXa.cells
            obtain ⟨f0, f1, f2, f3⟩ := hXa.fz
            go_simp
            have hXb := hXa.set1 (.slice qa (ks.length + 1) qc)
            have hRb := hRa.other (C := X) (i := 1) (u := (.slice qa (ks.length + 1) qc)) (by omega)
            have hNb := hNa.setOther (a := ⟨X, 1, none⟩) (fun e => hXN e.symm) (.slice qa (ks.length + 1) qc)
            have hRNb := hRN.set (i := 1) (u := (.slice qa (ks.length + 1) qc)) hXa
            have hCb := hCN.set (X := X) (by omega) 1 (.slice qa (ks.length + 1) qc)
            clear y0 y1 y2 y3 f0 f1 f2 f3 hXa hRa hRN hCN hNa
            refine hK.out _ _ (HNC.out _ hNb) (fun hHeld => ?_)
            clear hK KK
            try simp only [Act.put, List.setIfInBounds_toArray, List.set_cons_zero, List.set_cons_succ]
            refine wpAnyH_done (by kernel_rfl) ?_ _
            clear hHeld
            have HS2 : Hid (S1 w g ao n cap f X NB b (k + 1) (wa.setCell ⟨X, 1, none⟩ (.slice qa (ks.length + 1) qc))) := ⟨ks ++ [nm ++ z], _, _, hNk2, by rw [List.length_append]; simp; omega, fun s hs => by
              rcases List.mem_append.1 hs with hs | hs
              · exact hks s hs
              · simp at hs; subst hs; have h1 := HNG.out; have h2 := HZG.out; exact ⟨by rw [ByteArray.size_append]; omega, okB_app h1.2 h2.2⟩, hXb, hRb, hNb, hRNb, hCb⟩
            clear hXb hRb hNb hRNb hCb hNk2
            go_wp2
            go_roundg (6 - (k + 1))
            case measure => omega
            case rel => exact ⟨k + 1, by omega, rfl, by go_num, HS2.out⟩
          ·
            have hSt := l1Str_mem g ao n cap f sufL wd.heap.size wd rfl hn (by decide) (by decide) hCN.cur
            unfold sufL at hSt
            go_simp
            have hbL : Below wd.heap.size wd (wd.alloc (.cells #[.string ⟨#[]⟩, .string ⟨#[49]⟩, .string ⟨#[108, 111, 110, 103, 101, 114, 45, 97, 110, 100, 45, 108, 111, 110, 103, 101, 114, 45, 107, 101, 121]⟩] 9)) := (Below.refl _ _).alloc (Nat.le_refl _) _
            have hNL : (wd.alloc (.cells #[.string ⟨#[]⟩, .string ⟨#[49]⟩, .string ⟨#[108, 111, 110, 103, 101, 114, 45, 97, 110, 100, 45, 108, 111, 110, 103, 101, 114, 45, 107, 101, 121]⟩] 9)).cell? ⟨NB, k, none⟩ = some (.string nm) := HNC.out _ (hN.of_block (hbL.block NB hN.lt))
            refine hK.out _ _ hNL (fun hHeld => ?_)
            clear hK KK
            try simp only [Act.put, List.setIfInBounds_toArray, List.set_cons_zero, List.set_cons_succ]
            refine wpAnyH_ready (rs := [1, 8]) (by kernel_rfl) (by simp) ?_
            refine AllReadyH.cons rfl (fun KK hK => ?_) (AllReadyH.cons rfl (fun KK hK => ?_) AllReadyH.nil)
            ·
              have xl := hX.cells.2.1
              have xl2 := (hX.below hbL).cells.2.1
              go_simp
              clear xl
              clear xl2
              refine hK.out _ _ hNL (fun hHeld => ?_)
              clear hK KK
              try simp only [Act.put, List.setIfInBounds_toArray, List.set_cons_zero, List.set_cons_succ]
              refine wpAnyH_ready (rs := [8]) (by kernel_rfl) (by simp) ?_
              refine AllReadyH.cons rfl (fun KK hK => ?_) AllReadyH.nil
              go_simp
              refine hSt.mono ?_
              rintro e w8 ⟨z, rfl, hz, hCx, hBx⟩
              have hzs : z.size ≤ 25 := few_of hz (by decide)
              have HZG : Hid (z.size ≤ 21 ∧ OkB z = true) := ⟨few_of hz (by decide), okB_of hz (by decide)⟩
              replace hX := hX.butN hBx (by omega)
              replace hRR := hRR.butN hBx (by omega)
              replace hN := hN.of_block (hBx.block NB hN.lt (by omega))
              replace hRN := hRN.but hBx hg
              replace hCN := hCN.next hCx hBx
              clear hCx hBx hSt hz hbL hNL
              have hzl : ¬ (nm.size + z.size > 9223372036854775807) := by omega
              go_wp2_with fail
              refine hK.out _ _ (HNC.out _ hN) (fun hHeld => ?_)
              clear hK KK
              try simp only [Act.put, List.setIfInBounds_toArray, List.set_cons_zero, List.set_cons_succ]
              refine' wpAnyH_take (i := 9) (v := _) rfl (by kernel_rfl) (by kernel_rfl) (by kernel_rfl) (fun _ _ _ h => h) (Or.inl ⟨by kernel_rfl, ?hka9⟩) (by assumption) ?rka9
              case hka9 => intro W hW; go_simp; all_goals with_reducible rfl
              change wpAnyH _ _ _ _ _ _ _ (Act.put _ (some 28) _) _
              simp only [Act.put, List.setIfInBounds_toArray, List.set_cons_zero, List.set_cons_succ]
              refine wpAnyH_ready (rs := [10]) (by kernel_rfl) (by simp) ?_
              refine AllReadyH.cons rfl (fun KK hK => ?_) AllReadyH.nil
              go_simp
              have hbO : Below w8.heap.size w8 (w8.alloc (.cells #[.string (nm ++ z)] 9)) := (Below.refl _ _).alloc (Nat.le_refl _) _
              have hcl := cellNew w8 (.string (nm ++ z)) 9
              replace hX := hX.below hbO
              replace hRR := hRR.below hbO
              replace hN := hN.of_block (hbO.block NB hN.lt)
              replace hRN := hRN.below hbO
              replace hCN := hCN.below hbO
              clear hbO
              refine hK.out _ _ (HNC.out _ hN) (fun hHeld => ?_)
              clear hK KK
              try simp only [Act.put, List.setIfInBounds_toArray, List.set_cons_zero, List.set_cons_succ]
              obtain ⟨w9, hw9⟩ : ∃ x, Hid ((w8.alloc (.cells #[.string (nm ++ z)] 9)) = x) := ⟨_, rfl⟩
              obtain ⟨g9, hg9⟩ : ∃ x, Hid (w8.heap.size = x) := ⟨_, rfl⟩
              rw [hw9.out, hg9.out] at hcl
              rw [hw9.out] at hX hRR hN hRN hCN hHeld ⊢
              try rw [hg9.out]
              refine wpAnyH_ready (rs := [11]) (by kernel_rfl) (by simp) ?_
              refine AllReadyH.cons rfl (fun KK hK => ?_) AllReadyH.nil
              rw [if_pos (by kernel_rfl)]
              have hKO := own_base' hRN.k (base' := NB + 1) hNk
              refine wp_append_own _ (.tmp 20) (.tmp 29) 24 rfl (NB + 1) 9 i0 (.string ⟨#[]⟩) 1 16 Try.underlying24 hi hz0 hz1 hz2 rfl (by decide) (.slice ka ks.length kc) (ks.length) (txc ks) rfl hKO ⟨g9, 0, none⟩ 1 1 [.string (nm ++ z)] rfl rfl hcl (oneS _) (by unfold maxLen; omega) (by omega) (hN.lt) ?_
              intro v6 wa hOa hgra hnila
              obtain ⟨qa, qc, eq⟩ := own_form hOa
              subst eq
              replace hCN := hCN.grown hgra (fun j e => by have := (own_blkN hRN.k e).1; have := hRN.b2w.1; omega)
              have hXa := hX.grownN hgra (own_neV hRN.k hX (by decide))
              have hRa := hRR.grownN hgra (own_neV hRN.k hRR (by decide))
              have hNa : wa.rowIs NB 9 6 (fun i => .string (nmL.getD i ⟨#[]⟩)) := hN.of_block (hgra.block NB hN.lt (fun e => by have := hNk NB e.symm; omega))
              have hNk2 : ∀ j, (Value.slice qa (ks.length + 1) qc).ownBlock = some j → NB < j := fun j e => (own_blkN hOa e).1
              replace hOa := own_base' hOa (base' := w.heap.size) (fun j e => by have := hNk2 j e; omega)
              replace hRN := hRN.addK rfl hgra hOa
              dsimp only at hRN
              clear hX hRR hOa hgra hnila hcl hN hNk hKO
              refine hK.out _ _ (HNC.out _ hNa) (fun hHeld => ?_)
              clear hK KK
              change wpAnyH _ _ _ _ _ _ _ (Act.put _ (some 30) _) _
              try simp only [Act.put, List.setIfInBounds_toArray, List.set_cons_zero, List.set_cons_succ]
              refine' wpAnyH_take (i := 12) (v := _) rfl (by kernel_rfl) (by kernel_rfl) (by kernel_rfl) (fun _ _ _ h => h) (Or.inl ⟨by kernel_rfl, ?hka10⟩) (by assumption) ?rka10
              case hka10 => intro W hW; go_simp; all_goals with_reducible rfl
              change wpAnyH _ _ _ _ _ _ _ (Act.put _ (some 31) _) _
              simp only [Act.put, List.setIfInBounds_toArray, List.set_cons_zero, List.set_cons_succ]
              refine wpAnyH_ready (rs := [13]) (by kernel_rfl) (by simp) ?_
              refine AllReadyH.cons rfl (fun KK hK => ?_) AllReadyH.nil
              obtain ⟨y0, y1, y2, y3⟩ := hXa.cells
              obtain ⟨f0, f1, f2, f3⟩ := hXa.fz
              go_simp
              have hXb := hXa.set1 (.slice qa (ks.length + 1) qc)
              have hRb := hRa.other (C := X) (i := 1) (u := (.slice qa (ks.length + 1) qc)) (by omega)
              have hNb := hNa.setOther (a := ⟨X, 1, none⟩) (fun e => hXN e.symm) (.slice qa (ks.length + 1) qc)
              have hRNb := hRN.set (i := 1) (u := (.slice qa (ks.length + 1) qc)) hXa
              have hCb := hCN.set (X := X) (by omega) 1 (.slice qa (ks.length + 1) qc)
              clear y0 y1 y2 y3 f0 f1 f2 f3 hXa hRa hRN hCN hNa
              refine hK.out _ _ (HNC.out _ hNb) (fun hHeld => ?_)
              clear hK KK
              try simp only [Act.put, List.setIfInBounds_toArray, List.set_cons_zero, List.set_cons_succ]
              refine wpAnyH_done (by kernel_rfl) ?_ _
              clear hHeld
              have HS2 : Hid (S1 w g ao n cap f X NB b (k + 1) (wa.setCell ⟨X, 1, none⟩ (.slice qa (ks.length + 1) qc))) := ⟨ks ++ [nm ++ z], _, _, hNk2, by rw [List.length_append]; simp; omega, fun s hs => by
                rcases List.mem_append.1 hs with hs | hs
                · exact hks s hs
                · simp at hs; subst hs; have h1 := HNG.out; have h2 := HZG.out; exact ⟨by rw [ByteArray.size_append]; omega, okB_app h1.2 h2.2⟩, hXb, hRb, hNb, hRNb, hCb⟩
              clear hXb hRb hNb hRNb hCb hNk2
              go_wp2
              go_roundg (6 - (k + 1))
              case measure => omega
              case rel => exact ⟨k + 1, by omega, rfl, by go_num, HS2.out⟩
            ·
              go_simp
              refine hSt.mono ?_
              rintro e w8 ⟨z, rfl, hz, hCx, hBx⟩
              have hzs : z.size ≤ 25 := few_of hz (by decide)
              have HZG : Hid (z.size ≤ 21 ∧ OkB z = true) := ⟨few_of hz (by decide), okB_of hz (by decide)⟩
              replace hX := hX.butN hBx (by omega)
              replace hRR := hRR.butN hBx (by omega)
              replace hN := hN.of_block (hBx.block NB hN.lt (by omega))
              replace hRN := hRN.but hBx hg
              replace hCN := hCN.next hCx hBx
              clear hCx hBx hSt hz hbL hNL
              have hzl : ¬ (nm.size + z.size > 9223372036854775807) := by omega
              go_wp2_with fail
              refine hK.out _ _ (HNC.out _ hN) (fun hHeld => ?_)
              clear hK KK
              try simp only [Act.put, List.setIfInBounds_toArray, List.set_cons_zero, List.set_cons_succ]
              refine' wpAnyH_take (i := 9) (v := _) rfl (by kernel_rfl) (by kernel_rfl) (by kernel_rfl) (fun _ _ _ h => h) (Or.inl ⟨by kernel_rfl, ?hka11⟩) (by assumption) ?rka11
              case hka11 => intro W hW; go_simp; all_goals with_reducible rfl
              change wpAnyH _ _ _ _ _ _ _ (Act.put _ (some 28) _) _
              simp only [Act.put, List.setIfInBounds_toArray, List.set_cons_zero, List.set_cons_succ]
              refine wpAnyH_ready (rs := [1, 10]) (by kernel_rfl) (by simp) ?_
              refine AllReadyH.cons rfl (fun KK hK => ?_) (AllReadyH.cons rfl (fun KK hK => ?_) AllReadyH.nil)
              ·
                have xl := hX.cells.2.1
                go_simp
                clear xl
                refine hK.out _ _ (HNC.out _ hN) (fun hHeld => ?_)
                clear hK KK
                try simp only [Act.put, List.setIfInBounds_toArray, List.set_cons_zero, List.set_cons_succ]
                refine wpAnyH_ready (rs := [10]) (by kernel_rfl) (by simp) ?_
                refine AllReadyH.cons rfl (fun KK hK => ?_) AllReadyH.nil
                go_simp
                have hbO : Below w8.heap.size w8 (w8.alloc (.cells #[.string (nm ++ z)] 9)) := (Below.refl _ _).alloc (Nat.le_refl _) _
                have hcl := cellNew w8 (.string (nm ++ z)) 9
                replace hX := hX.below hbO
                replace hRR := hRR.below hbO
                replace hN := hN.of_block (hbO.block NB hN.lt)
                replace hRN := hRN.below hbO
                replace hCN := hCN.below hbO
                clear hbO
                refine hK.out _ _ (HNC.out _ hN) (fun hHeld => ?_)
                clear hK KK
                try simp only [Act.put, List.setIfInBounds_toArray, List.set_cons_zero, List.set_cons_succ]
                obtain ⟨w9, hw9⟩ : ∃ x, Hid ((w8.alloc (.cells #[.string (nm ++ z)] 9)) = x) := ⟨_, rfl⟩
                obtain ⟨g9, hg9⟩ : ∃ x, Hid (w8.heap.size = x) := ⟨_, rfl⟩
                rw [hw9.out, hg9.out] at hcl
                rw [hw9.out] at hX hRR hN hRN hCN hHeld ⊢
                try rw [hg9.out]
                refine wpAnyH_ready (rs := [11]) (by kernel_rfl) (by simp) ?_
                refine AllReadyH.cons rfl (fun KK hK => ?_) AllReadyH.nil
                rw [if_pos (by kernel_rfl)]
                have hKO := own_base' hRN.k (base' := NB + 1) hNk
                refine wp_append_own _ (.tmp 20) (.tmp 29) 24 rfl (NB + 1) 9 i0 (.string ⟨#[]⟩) 1 16 Try.underlying24 hi hz0 hz1 hz2 rfl (by decide) (.slice ka ks.length kc) (ks.length) (txc ks) rfl hKO ⟨g9, 0, none⟩ 1 1 [.string (nm ++ z)] rfl rfl hcl (oneS _) (by unfold maxLen; omega) (by omega) (hN.lt) ?_
                intro v6 wa hOa hgra hnila
                obtain ⟨qa, qc, eq⟩ := own_form hOa
                subst eq
                replace hCN := hCN.grown hgra (fun j e => by have := (own_blkN hRN.k e).1; have := hRN.b2w.1; omega)
                have hXa := hX.grownN hgra (own_neV hRN.k hX (by decide))
                have hRa := hRR.grownN hgra (own_neV hRN.k hRR (by decide))
                have hNa : wa.rowIs NB 9 6 (fun i => .string (nmL.getD i ⟨#[]⟩)) := hN.of_block (hgra.block NB hN.lt (fun e => by have := hNk NB e.symm; omega))
                have hNk2 : ∀ j, (Value.slice qa (ks.length + 1) qc).ownBlock = some j → NB < j := fun j e => (own_blkN hOa e).1
                replace hOa := own_base' hOa (base' := w.heap.size) (fun j e => by have := hNk2 j e; omega)
                replace hRN := hRN.addK rfl hgra hOa
                dsimp only at hRN
                clear hX hRR hOa hgra hnila hcl hN hNk hKO
                refine hK.out _ _ (HNC.out _ hNa) (fun hHeld => ?_)
                clear hK KK
                change wpAnyH _ _ _ _ _ _ _ (Act.put _ (some 30) _) _
                try simp only [Act.put, List.setIfInBounds_toArray, List.set_cons_zero, List.set_cons_succ]
                refine' wpAnyH_take (i := 12) (v := _) rfl (by kernel_rfl) (by kernel_rfl) (by kernel_rfl) (fun _ _ _ h => h) (Or.inl ⟨by kernel_rfl, ?hka12⟩) (by assumption) ?rka12
                case hka12 => intro W hW; go_simp; all_goals with_reducible rfl
                change wpAnyH _ _ _ _ _ _ _ (Act.put _ (some 31) _) _
                simp only [Act.put, List.setIfInBounds_toArray, List.set_cons_zero, List.set_cons_succ]
                refine wpAnyH_ready (rs := [13]) (by kernel_rfl) (by simp) ?_
                refine AllReadyH.cons rfl (fun KK hK => ?_) AllReadyH.nil
                obtain ⟨y0, y1, y2, y3⟩ := hXa.cells
                obtain ⟨f0, f1, f2, f3⟩ := hXa.fz
                go_simp
                have hXb := hXa.set1 (.slice qa (ks.length + 1) qc)
                have hRb := hRa.other (C := X) (i := 1) (u := (.slice qa (ks.length + 1) qc)) (by omega)
                have hNb := hNa.setOther (a := ⟨X, 1, none⟩) (fun e => hXN e.symm) (.slice qa (ks.length + 1) qc)
                have hRNb := hRN.set (i := 1) (u := (.slice qa (ks.length + 1) qc)) hXa
                have hCb := hCN.set (X := X) (by omega) 1 (.slice qa (ks.length + 1) qc)
                clear y0 y1 y2 y3 f0 f1 f2 f3 hXa hRa hRN hCN hNa
                refine hK.out _ _ (HNC.out _ hNb) (fun hHeld => ?_)
                clear hK KK
                try simp only [Act.put, List.setIfInBounds_toArray, List.set_cons_zero, List.set_cons_succ]
                refine wpAnyH_done (by kernel_rfl) ?_ _
                clear hHeld
                have HS2 : Hid (S1 w g ao n cap f X NB b (k + 1) (wa.setCell ⟨X, 1, none⟩ (.slice qa (ks.length + 1) qc))) := ⟨ks ++ [nm ++ z], _, _, hNk2, by rw [List.length_append]; simp; omega, fun s hs => by
                  rcases List.mem_append.1 hs with hs | hs
                  · exact hks s hs
                  · simp at hs; subst hs; have h1 := HNG.out; have h2 := HZG.out; exact ⟨by rw [ByteArray.size_append]; omega, okB_app h1.2 h2.2⟩, hXb, hRb, hNb, hRNb, hCb⟩
                clear hXb hRb hNb hRNb hCb hNk2
                go_wp2
                go_roundg (6 - (k + 1))
                case measure => omega
                case rel => exact ⟨k + 1, by omega, rfl, by go_num, HS2.out⟩
              ·
                go_simp
                have hbO : Below w8.heap.size w8 (w8.alloc (.cells #[.string (nm ++ z)] 9)) := (Below.refl _ _).alloc (Nat.le_refl _) _
                have hcl := cellNew w8 (.string (nm ++ z)) 9
                replace hX := hX.below hbO
                replace hRR := hRR.below hbO
                replace hN := hN.of_block (hbO.block NB hN.lt)
                replace hRN := hRN.below hbO
                replace hCN := hCN.below hbO
                clear hbO
                refine hK.out _ _ (HNC.out _ hN) (fun hHeld => ?_)
                clear hK KK
                try simp only [Act.put, List.setIfInBounds_toArray, List.set_cons_zero, List.set_cons_succ]
                obtain ⟨w9, hw9⟩ : ∃ x, Hid ((w8.alloc (.cells #[.string (nm ++ z)] 9)) = x) := ⟨_, rfl⟩
                obtain ⟨g9, hg9⟩ : ∃ x, Hid (w8.heap.size = x) := ⟨_, rfl⟩
                rw [hw9.out, hg9.out] at hcl
                rw [hw9.out] at hX hRR hN hRN hCN hHeld ⊢
                try rw [hg9.out]
                refine wpAnyH_ready (rs := [1]) (by kernel_rfl) (by simp) ?_
                refine AllReadyH.cons rfl (fun KK hK => ?_) AllReadyH.nil
                have xl := hX.cells.2.1
                go_simp
                clear xl
                refine hK.out _ _ (HNC.out _ hN) (fun hHeld => ?_)
                clear hK KK
                try simp only [Act.put, List.setIfInBounds_toArray, List.set_cons_zero, List.set_cons_succ]
                refine wpAnyH_ready (rs := [11]) (by kernel_rfl) (by simp) ?_
                refine AllReadyH.cons rfl (fun KK hK => ?_) AllReadyH.nil
                rw [if_pos (by kernel_rfl)]
                have hKO := own_base' hRN.k (base' := NB + 1) hNk
                refine wp_append_own _ (.tmp 20) (.tmp 29) 24 rfl (NB + 1) 9 i0 (.string ⟨#[]⟩) 1 16 Try.underlying24 hi hz0 hz1 hz2 rfl (by decide) (.slice ka ks.length kc) (ks.length) (txc ks) rfl hKO ⟨g9, 0, none⟩ 1 1 [.string (nm ++ z)] rfl rfl hcl (oneS _) (by unfold maxLen; omega) (by omega) (hN.lt) ?_
                intro v6 wa hOa hgra hnila
                obtain ⟨qa, qc, eq⟩ := own_form hOa
                subst eq
                replace hCN := hCN.grown hgra (fun j e => by have := (own_blkN hRN.k e).1; have := hRN.b2w.1; omega)
                have hXa := hX.grownN hgra (own_neV hRN.k hX (by decide))
                have hRa := hRR.grownN hgra (own_neV hRN.k hRR (by decide))
                have hNa : wa.rowIs NB 9 6 (fun i => .string (nmL.getD i ⟨#[]⟩)) := hN.of_block (hgra.block NB hN.lt (fun e => by have := hNk NB e.symm; omega))
                have hNk2 : ∀ j, (Value.slice qa (ks.length + 1) qc).ownBlock = some j → NB < j := fun j e => (own_blkN hOa e).1
                replace hOa := own_base' hOa (base' := w.heap.size) (fun j e => by have := hNk2 j e; omega)
                replace hRN := hRN.addK rfl hgra hOa
                dsimp only at hRN
                clear hX hRR hOa hgra hnila hcl hN hNk hKO
                refine hK.out _ _ (HNC.out _ hNa) (fun hHeld => ?_)
                clear hK KK
                change wpAnyH _ _ _ _ _ _ _ (Act.put _ (some 30) _) _
                try simp only [Act.put, List.setIfInBounds_toArray, List.set_cons_zero, List.set_cons_succ]
                refine' wpAnyH_take (i := 12) (v := _) rfl (by kernel_rfl) (by kernel_rfl) (by kernel_rfl) (fun _ _ _ h => h) (Or.inl ⟨by kernel_rfl, ?hka13⟩) (by assumption) ?rka13
                case hka13 => intro W hW; go_simp; all_goals with_reducible rfl
                change wpAnyH _ _ _ _ _ _ _ (Act.put _ (some 31) _) _
                simp only [Act.put, List.setIfInBounds_toArray, List.set_cons_zero, List.set_cons_succ]
                refine wpAnyH_ready (rs := [13]) (by kernel_rfl) (by simp) ?_
                refine AllReadyH.cons rfl (fun KK hK => ?_) AllReadyH.nil
                obtain ⟨y0, y1, y2, y3⟩ := hXa.cells
                obtain ⟨f0, f1, f2, f3⟩ := hXa.fz
                go_simp
                have hXb := hXa.set1 (.slice qa (ks.length + 1) qc)
                have hRb := hRa.other (C := X) (i := 1) (u := (.slice qa (ks.length + 1) qc)) (by omega)
                have hNb := hNa.setOther (a := ⟨X, 1, none⟩) (fun e => hXN e.symm) (.slice qa (ks.length + 1) qc)
                have hRNb := hRN.set (i := 1) (u := (.slice qa (ks.length + 1) qc)) hXa
                have hCb := hCN.set (X := X) (by omega) 1 (.slice qa (ks.length + 1) qc)
                clear y0 y1 y2 y3 f0 f1 f2 f3 hXa hRa hRN hCN hNa
                refine hK.out _ _ (HNC.out _ hNb) (fun hHeld => ?_)
                clear hK KK
                try simp only [Act.put, List.setIfInBounds_toArray, List.set_cons_zero, List.set_cons_succ]
                refine wpAnyH_done (by kernel_rfl) ?_ _
                clear hHeld
                have HS2 : Hid (S1 w g ao n cap f X NB b (k + 1) (wa.setCell ⟨X, 1, none⟩ (.slice qa (ks.length + 1) qc))) := ⟨ks ++ [nm ++ z], _, _, hNk2, by rw [List.length_append]; simp; omega, fun s hs => by
                  rcases List.mem_append.1 hs with hs | hs
                  · exact hks s hs
                  · simp at hs; subst hs; have h1 := HNG.out; have h2 := HZG.out; exact ⟨by rw [ByteArray.size_append]; omega, okB_app h1.2 h2.2⟩, hXb, hRb, hNb, hRNb, hCb⟩
                clear hXb hRb hNb hRNb hCb hNk2
                go_wp2
                go_roundg (6 - (k + 1))
                case measure => omega
                case rel => exact ⟨k + 1, by omega, rfl, by go_num, HS2.out⟩
    · obtain rfl : k = 6 := by omega
      obtain ⟨ks, kv, b2, -, hkl, hks, hX, hRR, -, hRN, hCN⟩ := hS
      obtain ⟨ka, kc, ek, -⟩ := own_tx hRN.k
      subst ek
      dsimp only at hX hRN
      have HS2 : Hid (S2 w g ao n cap f X ka kc b ks 0 wr) := ⟨[], [], _, _, b2, Nat.le_refl _, by simp, Nat.le_refl _, (fun _ => rfl), by simp, hX, hRR, hRN, hCN⟩
      have HKS : Hid (∀ s ∈ ks, GoodK s) := hks
      clear hX hRR hRN hCN hks
      go_wp2
      go_loopg [6] (ks.length + 1) (fun q i wr => ∃ k : Nat, k ≤ ks.length + 1 ∧ q = ks.length + 1 - k ∧ i = .int .i64 k ∧ S2 w g ao n cap f X ka kc b ks k wr)
      case atStart => exact ⟨0, Nat.zero_le _, rfl, rfl, HS2.out⟩
      case round =>
        clear HS2
        obtain ⟨k, hk, rfl, rfl, hS⟩ := hrel
        obtain ⟨vs, ds, vv, dv, b2, hvl, hvs, hdl, hdk, hds, hX, hRR, hRN, hCN⟩ := hS
        obtain ⟨va, vc, ev, -⟩ := own_tx hRN.v
        subst ev
        obtain ⟨da, dc, ed, -⟩ := own_nu hRN.d
        subst ed
        dsimp only at hX hRN hvl hdl
        obtain ⟨x0, x1, x2, x3⟩ := hX.cells
        by_cases hlt : k < ks.length + 1
        · have hkz : (k : Int) ≤ (ks.length : Int) := by omega
          cases b with
          | false =>
            go_wp2_with fail
            as_aux_lemma =>
              clear x0 x1 x2 x3
              refine wp_region_held_drew (S := fun _ => True) (by kernel_rfl) trivial (fun hHeld => ?_)
              have hbd : Below wr.heap.size wr wr.drew := (Below.refl _ _).drew
              replace hX := hX.below hbd
              replace hRR := hRR.below hbd
              replace hRN := hRN.below hbd
              replace hCN := hCN.below hbd
              clear hbd
              obtain ⟨wd, hwd⟩ : ∃ x, Hid (wr.drew = x) := ⟨_, rfl⟩
              rw [hwd.out] at hX hRR hRN hCN ⊢
              clear hwd
              refine' wpAnyH_take (i := 0) (v := _) rfl (by kernel_rfl) (by kernel_rfl) (by kernel_rfl) (fun _ _ _ h => h) (Or.inl ⟨by kernel_rfl, ?hkb1⟩) (by assumption) ?rkb1
              case hkb1 => intro W hW; go_simp; all_goals with_reducible rfl
              change wpAnyH _ _ _ _ _ _ _ (Act.put _ (some 42) _) _
              simp only [Act.put, List.setIfInBounds_toArray, List.set_cons_zero, List.set_cons_succ]
              refine' wpAnyH_take (i := 2) (v := _) rfl (by kernel_rfl) (by kernel_rfl) (by kernel_rfl) (fun _ _ _ h => h) (Or.inl ⟨by kernel_rfl, ?hkb2⟩) (by assumption) ?rkb2
              case hkb2 => intro W hW; go_simp; all_goals with_reducible rfl
              change wpAnyH _ _ _ _ _ _ _ (Act.put _ (some 44) _) _
              simp only [Act.put, List.setIfInBounds_toArray, List.set_cons_zero, List.set_cons_succ]
              refine wpAnyH_ready (rs := [1, 3]) (by kernel_rfl) (by simp) ?_
              refine AllReadyH.cons rfl (fun KK hK => ?_) (AllReadyH.cons rfl (fun KK hK => ?_) AllReadyH.nil)
              ·
                have xl := hX.cells.2.2.2
                go_simp
                clear xl
                refine hK.out _ _ trivial (fun hHeld => ?_)
                clear hK KK
                try simp only [Act.put, List.setIfInBounds_toArray, List.set_cons_zero, List.set_cons_succ]
                refine wpAnyH_ready (rs := [3]) (by kernel_rfl) (by simp) ?_
                refine AllReadyH.cons rfl (fun KK hK => ?_) AllReadyH.nil
                go_simp
                refine (l1Below_any g ao n cap f 40 wd hn (by omega) (by omega) hCN.cur).mono ?_
                rintro e w8 ⟨z, rfl, hz0d, hz1d, hCx, hOx⟩
                have hBx := But.ofOnly hOx
                replace hX := hX.butN hBx (by omega)
                replace hRR := hRR.butN hBx (by omega)
                replace hRN := hRN.but hBx hg
                replace hCN := hCN.next hCx hBx
                clear hCx hBx hOx
                have hwz : IntKind.i64.wrap (2 + z) = 2 + z := by rw [IntKind.wrap_i64]; omega
                go_wp2_with fail
                refine hK.out _ _ trivial (fun hHeld => ?_)
                clear hK KK
                try simp only [Act.put, List.setIfInBounds_toArray, List.set_cons_zero, List.set_cons_succ]
                refine' wpAnyH_take (i := 4) (v := _) rfl (by kernel_rfl) (by kernel_rfl) (by kernel_rfl) (fun _ _ _ h => h) (Or.inl ⟨by kernel_rfl, ?hkb3⟩) (by assumption) ?rkb3
                case hkb3 => intro W hW; go_simp; all_goals with_reducible rfl
                change wpAnyH _ _ _ _ _ _ _ (Act.put _ (some 46) _) _
                simp only [Act.put, List.setIfInBounds_toArray, List.set_cons_zero, List.set_cons_succ]
                refine wpAnyH_ready (rs := [5]) (by kernel_rfl) (by simp) ?_
                refine AllReadyH.cons rfl (fun KK hK => ?_) AllReadyH.nil
                go_simp
                have hbO : Below w8.heap.size w8 (w8.alloc (.cells #[.int .i64 (2 + z)] 3)) := (Below.refl _ _).alloc (Nat.le_refl _) _
                have hcl := cellNew w8 (.int .i64 (2 + z)) 3
                replace hX := hX.below hbO
                replace hRR := hRR.below hbO
                replace hRN := hRN.below hbO
                replace hCN := hCN.below hbO
                clear hbO
                refine hK.out _ _ trivial (fun hHeld => ?_)
                clear hK KK
                try simp only [Act.put, List.setIfInBounds_toArray, List.set_cons_zero, List.set_cons_succ]
                obtain ⟨w9, hw9⟩ : ∃ x, Hid ((w8.alloc (.cells #[.int .i64 (2 + z)] 3)) = x) := ⟨_, rfl⟩
                obtain ⟨g9, hg9⟩ : ∃ x, Hid (w8.heap.size = x) := ⟨_, rfl⟩
                rw [hw9.out, hg9.out] at hcl
                rw [hw9.out] at hX hRR hRN hCN ⊢
                try rw [hg9.out]
                refine wpAnyH_ready (rs := [6]) (by kernel_rfl) (by simp) ?_
                refine AllReadyH.cons rfl (fun KK hK => ?_) AllReadyH.nil
                rw [if_pos (by kernel_rfl)]
                refine wp_append_own _ (.tmp 43) (.tmp 47) 25 rfl w.heap.size 3 j0 (.int .i64 0) 1 8 Try.underlying25 hj hy0 hy1 hy2 rfl (by decide) (.slice da ds.length dc) (ds.length) (nuc ds) rfl hRN.d ⟨g9, 0, none⟩ 1 1 [.int .i64 (2 + z)] rfl rfl hcl (oneI _) (by unfold maxLen; omega) (by omega) (hCN.size) ?_
                intro v6 wa hOa hgra hnila
                obtain ⟨qa, qc, eq⟩ := own_form hOa
                subst eq
                replace hCN := hCN.grown hgra (fun j e => by have := (own_blkN hRN.d e).1; have := hRN.b2w.1; omega)
                have hXa := hX.grownN hgra (own_neV hRN.d hX (by decide))
                have hRa := hRR.grownN hgra (own_neV hRN.d hRR (by decide))
                replace hRN := hRN.addD hgra hOa
                dsimp only at hRN
                clear hX hRR hOa hgra hnila hcl
                refine hK.out _ _ trivial (fun hHeld => ?_)
                clear hK KK
                change wpAnyH _ _ _ _ _ _ _ (Act.put _ (some 48) _) _
                try simp only [Act.put, List.setIfInBounds_toArray, List.set_cons_zero, List.set_cons_succ]
                refine' wpAnyH_take (i := 7) (v := _) rfl (by kernel_rfl) (by kernel_rfl) (by kernel_rfl) (fun _ _ _ h => h) (Or.inl ⟨by kernel_rfl, ?hkb4⟩) (by assumption) ?rkb4
                case hkb4 => intro W hW; go_simp; all_goals with_reducible rfl
                change wpAnyH _ _ _ _ _ _ _ (Act.put _ (some 49) _) _
                simp only [Act.put, List.setIfInBounds_toArray, List.set_cons_zero, List.set_cons_succ]
                refine wpAnyH_ready (rs := [8]) (by kernel_rfl) (by simp) ?_
                refine AllReadyH.cons rfl (fun KK hK => ?_) AllReadyH.nil
                obtain ⟨y0, y1, y2, y3⟩ := hXa.cells
                obtain ⟨f0, f1, f2, f3⟩ := hXa.fz
                go_simp
                have hXb := hXa.set3 (.slice qa (ds.length + 1) qc)
                have hRb := hRa.other (C := X) (i := 3) (u := (.slice qa (ds.length + 1) qc)) (by omega)
                have hRNb := hRN.set (i := 3) (u := (.slice qa (ds.length + 1) qc)) hXa
                have hCb := hCN.set (X := X) (by omega) 3 (.slice qa (ds.length + 1) qc)
                clear y0 y1 y2 y3 f0 f1 f2 f3 hXa hRa hRN hCN
                refine hK.out _ _ trivial (fun hHeld => ?_)
                clear hK KK
                try simp only [Act.put, List.setIfInBounds_toArray, List.set_cons_zero, List.set_cons_succ]
                refine wpAnyH_done (by kernel_rfl) ?_ _
                have HS3 : Hid (S2 w g ao n cap f X ka kc false ks (k + 1) (wa.setCell ⟨X, 3, none⟩ (.slice qa (ds.length + 1) qc))) := ⟨vs, ds ++ [2 + z], _, _, b2, by omega, hvs, by rw [List.length_append]; simp; omega, (fun _ => by have := hdk.out (by trivial); rw [List.length_append]; simp; omega), fun y hy => by
                  rcases List.mem_append.1 hy with hy | hy
                  · exact hds y hy
                  · simp at hy; omega, hXb, hRb, hRNb, hCb⟩
                clear hXb hRb hRNb hCb
                go_wp2
                go_roundg (ks.length + 1 - (k + 1))
                case measure => omega
                case rel => exact ⟨k + 1, by omega, rfl, by go_num, HS3.out⟩
              ·
                go_simp
                refine (l1Below_any g ao n cap f 40 wd hn (by omega) (by omega) hCN.cur).mono ?_
                rintro e w8 ⟨z, rfl, hz0d, hz1d, hCx, hOx⟩
                have hBx := But.ofOnly hOx
                replace hX := hX.butN hBx (by omega)
                replace hRR := hRR.butN hBx (by omega)
                replace hRN := hRN.but hBx hg
                replace hCN := hCN.next hCx hBx
                clear hCx hBx hOx
                have hwz : IntKind.i64.wrap (2 + z) = 2 + z := by rw [IntKind.wrap_i64]; omega
                go_wp2_with fail
                refine hK.out _ _ trivial (fun hHeld => ?_)
                clear hK KK
                try simp only [Act.put, List.setIfInBounds_toArray, List.set_cons_zero, List.set_cons_succ]
                refine' wpAnyH_take (i := 4) (v := _) rfl (by kernel_rfl) (by kernel_rfl) (by kernel_rfl) (fun _ _ _ h => h) (Or.inl ⟨by kernel_rfl, ?hkb5⟩) (by assumption) ?rkb5
                case hkb5 => intro W hW; go_simp; all_goals with_reducible rfl
                change wpAnyH _ _ _ _ _ _ _ (Act.put _ (some 46) _) _
                simp only [Act.put, List.setIfInBounds_toArray, List.set_cons_zero, List.set_cons_succ]
                refine wpAnyH_ready (rs := [1, 5]) (by kernel_rfl) (by simp) ?_
                refine AllReadyH.cons rfl (fun KK hK => ?_) (AllReadyH.cons rfl (fun KK hK => ?_) AllReadyH.nil)
                ·
                  have xl := hX.cells.2.2.2
                  go_simp
                  clear xl
                  refine hK.out _ _ trivial (fun hHeld => ?_)
                  clear hK KK
                  try simp only [Act.put, List.setIfInBounds_toArray, List.set_cons_zero, List.set_cons_succ]
                  refine wpAnyH_ready (rs := [5]) (by kernel_rfl) (by simp) ?_
                  refine AllReadyH.cons rfl (fun KK hK => ?_) AllReadyH.nil
                  go_simp
                  have hbO : Below w8.heap.size w8 (w8.alloc (.cells #[.int .i64 (2 + z)] 3)) := (Below.refl _ _).alloc (Nat.le_refl _) _
                  have hcl := cellNew w8 (.int .i64 (2 + z)) 3
                  replace hX := hX.below hbO
                  replace hRR := hRR.below hbO
                  replace hRN := hRN.below hbO
                  replace hCN := hCN.below hbO
                  clear hbO
                  refine hK.out _ _ trivial (fun hHeld => ?_)
                  clear hK KK
                  try simp only [Act.put, List.setIfInBounds_toArray, List.set_cons_zero, List.set_cons_succ]
                  obtain ⟨w9, hw9⟩ : ∃ x, Hid ((w8.alloc (.cells #[.int .i64 (2 + z)] 3)) = x) := ⟨_, rfl⟩
                  obtain ⟨g9, hg9⟩ : ∃ x, Hid (w8.heap.size = x) := ⟨_, rfl⟩
                  rw [hw9.out, hg9.out] at hcl
                  rw [hw9.out] at hX hRR hRN hCN ⊢
                  try rw [hg9.out]
                  refine wpAnyH_ready (rs := [6]) (by kernel_rfl) (by simp) ?_
                  refine AllReadyH.cons rfl (fun KK hK => ?_) AllReadyH.nil
                  rw [if_pos (by kernel_rfl)]
                  refine wp_append_own _ (.tmp 43) (.tmp 47) 25 rfl w.heap.size 3 j0 (.int .i64 0) 1 8 Try.underlying25 hj hy0 hy1 hy2 rfl (by decide) (.slice da ds.length dc) (ds.length) (nuc ds) rfl hRN.d ⟨g9, 0, none⟩ 1 1 [.int .i64 (2 + z)] rfl rfl hcl (oneI _) (by unfold maxLen; omega) (by omega) (hCN.size) ?_
                  intro v6 wa hOa hgra hnila
                  obtain ⟨qa, qc, eq⟩ := own_form hOa
                  subst eq
                  replace hCN := hCN.grown hgra (fun j e => by have := (own_blkN hRN.d e).1; have := hRN.b2w.1; omega)
                  have hXa := hX.grownN hgra (own_neV hRN.d hX (by decide))
                  have hRa := hRR.grownN hgra (own_neV hRN.d hRR (by decide))
                  replace hRN := hRN.addD hgra hOa
                  dsimp only at hRN
                  clear hX hRR hOa hgra hnila hcl
                  refine hK.out _ _ trivial (fun hHeld => ?_)
                  clear hK KK
                  change wpAnyH _ _ _ _ _ _ _ (Act.put _ (some 48) _) _
                  try simp only [Act.put, List.setIfInBounds_toArray, List.set_cons_zero, List.set_cons_succ]
                  refine' wpAnyH_take (i := 7) (v := _) rfl (by kernel_rfl) (by kernel_rfl) (by kernel_rfl) (fun _ _ _ h => h) (Or.inl ⟨by kernel_rfl, ?hkb6⟩) (by assumption) ?rkb6
                  case hkb6 => intro W hW; go_simp; all_goals with_reducible rfl
                  change wpAnyH _ _ _ _ _ _ _ (Act.put _ (some 49) _) _
                  simp only [Act.put, List.setIfInBounds_toArray, List.set_cons_zero, List.set_cons_succ]
                  refine wpAnyH_ready (rs := [8]) (by kernel_rfl) (by simp) ?_
                  refine AllReadyH.cons rfl (fun KK hK => ?_) AllReadyH.nil
                  obtain ⟨y0, y1, y2, y3⟩ := hXa.cells
                  obtain ⟨f0, f1, f2, f3⟩ := hXa.fz
                  go_simp
                  have hXb := hXa.set3 (.slice qa (ds.length + 1) qc)
                  have hRb := hRa.other (C := X) (i := 3) (u := (.slice qa (ds.length + 1) qc)) (by omega)
                  have hRNb := hRN.set (i := 3) (u := (.slice qa (ds.length + 1) qc)) hXa
                  have hCb := hCN.set (X := X) (by omega) 3 (.slice qa (ds.length + 1) qc)
                  clear y0 y1 y2 y3 f0 f1 f2 f3 hXa hRa hRN hCN
                  refine hK.out _ _ trivial (fun hHeld => ?_)
                  clear hK KK
                  try simp only [Act.put, List.setIfInBounds_toArray, List.set_cons_zero, List.set_cons_succ]
                  refine wpAnyH_done (by kernel_rfl) ?_ _
                  have HS3 : Hid (S2 w g ao n cap f X ka kc false ks (k + 1) (wa.setCell ⟨X, 3, none⟩ (.slice qa (ds.length + 1) qc))) := ⟨vs, ds ++ [2 + z], _, _, b2, by omega, hvs, by rw [List.length_append]; simp; omega, (fun _ => by have := hdk.out (by trivial); rw [List.length_append]; simp; omega), fun y hy => by
                    rcases List.mem_append.1 hy with hy | hy
                    · exact hds y hy
                    · simp at hy; omega, hXb, hRb, hRNb, hCb⟩
                  clear hXb hRb hRNb hCb
                  go_wp2
                  go_roundg (ks.length + 1 - (k + 1))
                  case measure => omega
                  case rel => exact ⟨k + 1, by omega, rfl, by go_num, HS3.out⟩
                ·
                  go_simp
                  have hbO : Below w8.heap.size w8 (w8.alloc (.cells #[.int .i64 (2 + z)] 3)) := (Below.refl _ _).alloc (Nat.le_refl _) _
                  have hcl := cellNew w8 (.int .i64 (2 + z)) 3
                  replace hX := hX.below hbO
                  replace hRR := hRR.below hbO
                  replace hRN := hRN.below hbO
                  replace hCN := hCN.below hbO
                  clear hbO
                  refine hK.out _ _ trivial (fun hHeld => ?_)
                  clear hK KK
                  try simp only [Act.put, List.setIfInBounds_toArray, List.set_cons_zero, List.set_cons_succ]
                  obtain ⟨w9, hw9⟩ : ∃ x, Hid ((w8.alloc (.cells #[.int .i64 (2 + z)] 3)) = x) := ⟨_, rfl⟩
                  obtain ⟨g9, hg9⟩ : ∃ x, Hid (w8.heap.size = x) := ⟨_, rfl⟩
                  rw [hw9.out, hg9.out] at hcl
                  rw [hw9.out] at hX hRR hRN hCN ⊢
                  try rw [hg9.out]
                  refine wpAnyH_ready (rs := [1]) (by kernel_rfl) (by simp) ?_
                  refine AllReadyH.cons rfl (fun KK hK => ?_) AllReadyH.nil
                  have xl := hX.cells.2.2.2
                  go_simp
                  clear xl
                  refine hK.out _ _ trivial (fun hHeld => ?_)
                  clear hK KK
                  try simp only [Act.put, List.setIfInBounds_toArray, List.set_cons_zero, List.set_cons_succ]
                  refine wpAnyH_ready (rs := [6]) (by kernel_rfl) (by simp) ?_
                  refine AllReadyH.cons rfl (fun KK hK => ?_) AllReadyH.nil
                  rw [if_pos (by kernel_rfl)]
                  refine wp_append_own _ (.tmp 43) (.tmp 47) 25 rfl w.heap.size 3 j0 (.int .i64 0) 1 8 Try.underlying25 hj hy0 hy1 hy2 rfl (by decide) (.slice da ds.length dc) (ds.length) (nuc ds) rfl hRN.d ⟨g9, 0, none⟩ 1 1 [.int .i64 (2 + z)] rfl rfl hcl (oneI _) (by unfold maxLen; omega) (by omega) (hCN.size) ?_
                  intro v6 wa hOa hgra hnila
                  obtain ⟨qa, qc, eq⟩ := own_form hOa
                  subst eq
                  replace hCN := hCN.grown hgra (fun j e => by have := (own_blkN hRN.d e).1; have := hRN.b2w.1; omega)
                  have hXa := hX.grownN hgra (own_neV hRN.d hX (by decide))
                  have hRa := hRR.grownN hgra (own_neV hRN.d hRR (by decide))
                  replace hRN := hRN.addD hgra hOa
                  dsimp only at hRN
                  clear hX hRR hOa hgra hnila hcl
                  refine hK.out _ _ trivial (fun hHeld => ?_)
                  clear hK KK
                  change wpAnyH _ _ _ _ _ _ _ (Act.put _ (some 48) _) _
                  try simp only [Act.put, List.setIfInBounds_toArray, List.set_cons_zero, List.set_cons_succ]
                  refine' wpAnyH_take (i := 7) (v := _) rfl (by kernel_rfl) (by kernel_rfl) (by kernel_rfl) (fun _ _ _ h => h) (Or.inl ⟨by kernel_rfl, ?hkb7⟩) (by assumption) ?rkb7
                  case hkb7 => intro W hW; go_simp; all_goals with_reducible rfl
                  change wpAnyH _ _ _ _ _ _ _ (Act.put _ (some 49) _) _
                  simp only [Act.put, List.setIfInBounds_toArray, List.set_cons_zero, List.set_cons_succ]
                  refine wpAnyH_ready (rs := [8]) (by kernel_rfl) (by simp) ?_
                  refine AllReadyH.cons rfl (fun KK hK => ?_) AllReadyH.nil
                  obtain ⟨y0, y1, y2, y3⟩ := hXa.cells
                  obtain ⟨f0, f1, f2, f3⟩ := hXa.fz
                  go_simp
                  have hXb := hXa.set3 (.slice qa (ds.length + 1) qc)
                  have hRb := hRa.other (C := X) (i := 3) (u := (.slice qa (ds.length + 1) qc)) (by omega)
                  have hRNb := hRN.set (i := 3) (u := (.slice qa (ds.length + 1) qc)) hXa
                  have hCb := hCN.set (X := X) (by omega) 3 (.slice qa (ds.length + 1) qc)
                  clear y0 y1 y2 y3 f0 f1 f2 f3 hXa hRa hRN hCN
                  refine hK.out _ _ trivial (fun hHeld => ?_)
                  clear hK KK
                  try simp only [Act.put, List.setIfInBounds_toArray, List.set_cons_zero, List.set_cons_succ]
                  refine wpAnyH_done (by kernel_rfl) ?_ _
                  have HS3 : Hid (S2 w g ao n cap f X ka kc false ks (k + 1) (wa.setCell ⟨X, 3, none⟩ (.slice qa (ds.length + 1) qc))) := ⟨vs, ds ++ [2 + z], _, _, b2, by omega, hvs, by rw [List.length_append]; simp; omega, (fun _ => by have := hdk.out (by trivial); rw [List.length_append]; simp; omega), fun y hy => by
                    rcases List.mem_append.1 hy with hy | hy
                    · exact hds y hy
                    · simp at hy; omega, hXb, hRb, hRNb, hCb⟩
                  clear hXb hRb hRNb hCb
                  go_wp2
                  go_roundg (ks.length + 1 - (k + 1))
                  case measure => omega
                  case rel => exact ⟨k + 1, by omega, rfl, by go_num, HS3.out⟩
          | true =>
            by_cases hl2 : (k : Int) < (ks.length : Int)
            · go_wp2_with fail
              as_aux_lemma =>
                clear x0 x1 x2 x3
                refine wp_region_held_drew (S := fun _ => True) (by kernel_rfl) trivial (fun hHeld => ?_)
                have hbd : Below wr.heap.size wr wr.drew := (Below.refl _ _).drew
                replace hX := hX.below hbd
                replace hRR := hRR.below hbd
                replace hRN := hRN.below hbd
                replace hCN := hCN.below hbd
                clear hbd
                obtain ⟨wd, hwd⟩ : ∃ x, Hid (wr.drew = x) := ⟨_, rfl⟩
                rw [hwd.out] at hX hRR hRN hCN ⊢
                clear hwd
                refine' wpAnyH_take (i := 0) (v := _) rfl (by kernel_rfl) (by kernel_rfl) (by kernel_rfl) (fun _ _ _ h => h) (Or.inl ⟨by kernel_rfl, ?hkc1⟩) (by assumption) ?rkc1
                case hkc1 => intro W hW; go_simp; all_goals with_reducible rfl
                change wpAnyH _ _ _ _ _ _ _ (Act.put _ (some 55) _) _
                simp only [Act.put, List.setIfInBounds_toArray, List.set_cons_zero, List.set_cons_succ]
                refine' wpAnyH_take (i := 2) (v := _) rfl (by kernel_rfl) (by kernel_rfl) (by kernel_rfl) (fun _ _ _ h => h) (Or.inl ⟨by kernel_rfl, ?hkc2⟩) (by assumption) ?rkc2
                case hkc2 => intro W hW; go_simp; all_goals with_reducible rfl
                change wpAnyH _ _ _ _ _ _ _ (Act.put _ (some 57) _) _
                simp only [Act.put, List.setIfInBounds_toArray, List.set_cons_zero, List.set_cons_succ]
                refine wpAnyH_ready (rs := [1, 3]) (by kernel_rfl) (by simp) ?_
                refine AllReadyH.cons rfl (fun KK hK => ?_) (AllReadyH.cons rfl (fun KK hK => ?_) AllReadyH.nil)
                ·
                  have xl := hX.cells.2.2.1
                  go_simp
                  clear xl
                  refine hK.out _ _ trivial (fun hHeld => ?_)
                  clear hK KK
                  try simp only [Act.put, List.setIfInBounds_toArray, List.set_cons_zero, List.set_cons_succ]
                  refine wpAnyH_ready (rs := [3]) (by kernel_rfl) (by simp) ?_
                  refine AllReadyH.cons rfl (fun KK hK => ?_) AllReadyH.nil
                  have hSt := l1Str_mem g ao n cap f valL wd.heap.size wd rfl hn (by decide) (by decide) hCN.cur
                  unfold valL at hSt
                  go_simp
                  have hbL : Below wd.heap.size wd (wd.alloc (.cells #[.string ⟨#[]⟩, .string ⟨#[118]⟩, .string ⟨#[118, 97, 108, 117, 101]⟩] 9)) := (Below.refl _ _).alloc (Nat.le_refl _) _
                  refine hK.out _ _ trivial (fun hHeld => ?_)
                  clear hK KK
                  try simp only [Act.put, List.setIfInBounds_toArray, List.set_cons_zero, List.set_cons_succ]
                  refine wpAnyH_ready (rs := [4]) (by kernel_rfl) (by simp) ?_
                  refine AllReadyH.cons rfl (fun KK hK => ?_) AllReadyH.nil
                  go_simp
                  refine hSt.mono ?_
                  rintro e w8 ⟨z, rfl, hz, hCx, hBx⟩
                  have hzs : z.size ≤ 25 := few_of hz (by decide)
                  replace hX := hX.butN hBx (by omega)
                  replace hRR := hRR.butN hBx (by omega)
                  replace hRN := hRN.but hBx hg
                  replace hCN := hCN.next hCx hBx
                  clear hCx hBx hSt hz hbL
                  go_wp2_with fail
                  refine hK.out _ _ trivial (fun hHeld => ?_)
                  clear hK KK
                  try simp only [Act.put, List.setIfInBounds_toArray, List.set_cons_zero, List.set_cons_succ]
                  refine wpAnyH_ready (rs := [5]) (by kernel_rfl) (by simp) ?_
                  refine AllReadyH.cons rfl (fun KK hK => ?_) AllReadyH.nil
                  go_simp
                  have hbO : Below w8.heap.size w8 (w8.alloc (.cells #[.string z] 9)) := (Below.refl _ _).alloc (Nat.le_refl _) _
                  have hcl := cellNew w8 (.string z) 9
                  replace hX := hX.below hbO
                  replace hRR := hRR.below hbO
                  replace hRN := hRN.below hbO
                  replace hCN := hCN.below hbO
                  clear hbO
                  refine hK.out _ _ trivial (fun hHeld => ?_)
                  clear hK KK
                  try simp only [Act.put, List.setIfInBounds_toArray, List.set_cons_zero, List.set_cons_succ]
                  obtain ⟨w9, hw9⟩ : ∃ x, Hid ((w8.alloc (.cells #[.string z] 9)) = x) := ⟨_, rfl⟩
                  obtain ⟨g9, hg9⟩ : ∃ x, Hid (w8.heap.size = x) := ⟨_, rfl⟩
                  rw [hw9.out, hg9.out] at hcl
                  rw [hw9.out] at hX hRR hRN hCN ⊢
                  try rw [hg9.out]
                  refine wpAnyH_ready (rs := [6]) (by kernel_rfl) (by simp) ?_
                  refine AllReadyH.cons rfl (fun KK hK => ?_) AllReadyH.nil
                  rw [if_pos (by kernel_rfl)]
                  refine wp_append_own _ (.tmp 56) (.tmp 60) 24 rfl b2 9 i0 (.string ⟨#[]⟩) 1 16 Try.underlying24 hi hz0 hz1 hz2 rfl (by decide) (.slice va vs.length vc) (vs.length) (txc vs) rfl hRN.v ⟨g9, 0, none⟩ 1 1 [.string z] rfl rfl hcl (oneS _) (by unfold maxLen; omega) (by omega) (hRN.b2w.2) ?_
                  intro v6 wa hOa hgra hnila
                  obtain ⟨qa, qc, eq⟩ := own_form hOa
                  subst eq
                  replace hCN := hCN.grown hgra (fun j e => by have := (own_blkN hRN.v e).1; have := hRN.b2w.1; omega)
                  have hXa := hX.grownN hgra (own_neV hRN.v hX (by decide))
                  have hRa := hRR.grownN hgra (own_neV hRN.v hRR (by decide))
                  replace hRN := hRN.addV hgra hOa
                  dsimp only at hRN
                  clear hX hRR hOa hgra hnila hcl
                  refine hK.out _ _ trivial (fun hHeld => ?_)
                  clear hK KK
                  change wpAnyH _ _ _ _ _ _ _ (Act.put _ (some 61) _) _
                  try simp only [Act.put, List.setIfInBounds_toArray, List.set_cons_zero, List.set_cons_succ]
                  refine' wpAnyH_take (i := 7) (v := _) rfl (by kernel_rfl) (by kernel_rfl) (by kernel_rfl) (fun _ _ _ h => h) (Or.inl ⟨by kernel_rfl, ?hkc3⟩) (by assumption) ?rkc3
                  case hkc3 => intro W hW; go_simp; all_goals with_reducible rfl
                  change wpAnyH _ _ _ _ _ _ _ (Act.put _ (some 62) _) _
                  simp only [Act.put, List.setIfInBounds_toArray, List.set_cons_zero, List.set_cons_succ]
                  refine wpAnyH_ready (rs := [8]) (by kernel_rfl) (by simp) ?_
                  refine AllReadyH.cons rfl (fun KK hK => ?_) AllReadyH.nil
                  obtain ⟨y0, y1, y2, y3⟩ := hXa.cells
                  obtain ⟨f0, f1, f2, f3⟩ := hXa.fz
                  go_simp
                  have hXb := hXa.set2 (.slice qa (vs.length + 1) qc)
                  have hRb := hRa.other (C := X) (i := 2) (u := (.slice qa (vs.length + 1) qc)) (by omega)
                  have hRNb := hRN.set (i := 2) (u := (.slice qa (vs.length + 1) qc)) hXa
                  have hCb := hCN.set (X := X) (by omega) 2 (.slice qa (vs.length + 1) qc)
                  clear y0 y1 y2 y3 f0 f1 f2 f3 hXa hRa hRN hCN
                  refine hK.out _ _ trivial (fun hHeld => ?_)
                  clear hK KK
                  try simp only [Act.put, List.setIfInBounds_toArray, List.set_cons_zero, List.set_cons_succ]
                  refine wpAnyH_done (by kernel_rfl) ?_ _
                  have HS3 : Hid (S2 w g ao n cap f X ka kc true ks (k + 1) (wa.setCell ⟨X, 2, none⟩ (.slice qa (vs.length + 1) qc))) := ⟨vs ++ [z], ds, _, _, b2, by rw [List.length_append]; simp; omega, fun s hs => by
                    rcases List.mem_append.1 hs with hs | hs
                    · exact hvs s hs
                    · simp at hs; subst hs; omega, by omega, (fun h => by cases h), hds, hXb, hRb, hRNb, hCb⟩
                  clear hXb hRb hRNb hCb
                  go_wp2
                  go_roundg (ks.length + 1 - (k + 1))
                  case measure => omega
                  case rel => exact ⟨k + 1, by omega, rfl, by go_num, HS3.out⟩
                ·
                  have hSt := l1Str_mem g ao n cap f valL wd.heap.size wd rfl hn (by decide) (by decide) hCN.cur
                  unfold valL at hSt
                  go_simp
                  have hbL : Below wd.heap.size wd (wd.alloc (.cells #[.string ⟨#[]⟩, .string ⟨#[118]⟩, .string ⟨#[118, 97, 108, 117, 101]⟩] 9)) := (Below.refl _ _).alloc (Nat.le_refl _) _
                  refine hK.out _ _ trivial (fun hHeld => ?_)
                  clear hK KK
                  try simp only [Act.put, List.setIfInBounds_toArray, List.set_cons_zero, List.set_cons_succ]
                  refine wpAnyH_ready (rs := [1, 4]) (by kernel_rfl) (by simp) ?_
                  refine AllReadyH.cons rfl (fun KK hK => ?_) (AllReadyH.cons rfl (fun KK hK => ?_) AllReadyH.nil)
                  ·
                    have xl := hX.cells.2.2.1
                    have xl2 := (hX.below hbL).cells.2.2.1
                    go_simp
                    clear xl
                    clear xl2
                    refine hK.out _ _ trivial (fun hHeld => ?_)
                    clear hK KK
                    try simp only [Act.put, List.setIfInBounds_toArray, List.set_cons_zero, List.set_cons_succ]
                    refine wpAnyH_ready (rs := [4]) (by kernel_rfl) (by simp) ?_
                    refine AllReadyH.cons rfl (fun KK hK => ?_) AllReadyH.nil
                    go_simp
                    refine hSt.mono ?_
                    rintro e w8 ⟨z, rfl, hz, hCx, hBx⟩
                    have hzs : z.size ≤ 25 := few_of hz (by decide)
                    replace hX := hX.butN hBx (by omega)
                    replace hRR := hRR.butN hBx (by omega)
                    replace hRN := hRN.but hBx hg
                    replace hCN := hCN.next hCx hBx
                    clear hCx hBx hSt hz hbL
                    go_wp2_with fail
                    refine hK.out _ _ trivial (fun hHeld => ?_)
                    clear hK KK
                    try simp only [Act.put, List.setIfInBounds_toArray, List.set_cons_zero, List.set_cons_succ]
                    refine wpAnyH_ready (rs := [5]) (by kernel_rfl) (by simp) ?_
                    refine AllReadyH.cons rfl (fun KK hK => ?_) AllReadyH.nil
                    go_simp
                    have hbO : Below w8.heap.size w8 (w8.alloc (.cells #[.string z] 9)) := (Below.refl _ _).alloc (Nat.le_refl _) _
                    have hcl := cellNew w8 (.string z) 9
                    replace hX := hX.below hbO
                    replace hRR := hRR.below hbO
                    replace hRN := hRN.below hbO
                    replace hCN := hCN.below hbO
                    clear hbO
                    refine hK.out _ _ trivial (fun hHeld => ?_)
                    clear hK KK
                    try simp only [Act.put, List.setIfInBounds_toArray, List.set_cons_zero, List.set_cons_succ]
                    obtain ⟨w9, hw9⟩ : ∃ x, Hid ((w8.alloc (.cells #[.string z] 9)) = x) := ⟨_, rfl⟩
                    obtain ⟨g9, hg9⟩ : ∃ x, Hid (w8.heap.size = x) := ⟨_, rfl⟩
                    rw [hw9.out, hg9.out] at hcl
                    rw [hw9.out] at hX hRR hRN hCN ⊢
                    try rw [hg9.out]
                    refine wpAnyH_ready (rs := [6]) (by kernel_rfl) (by simp) ?_
                    refine AllReadyH.cons rfl (fun KK hK => ?_) AllReadyH.nil
                    rw [if_pos (by kernel_rfl)]
                    refine wp_append_own _ (.tmp 56) (.tmp 60) 24 rfl b2 9 i0 (.string ⟨#[]⟩) 1 16 Try.underlying24 hi hz0 hz1 hz2 rfl (by decide) (.slice va vs.length vc) (vs.length) (txc vs) rfl hRN.v ⟨g9, 0, none⟩ 1 1 [.string z] rfl rfl hcl (oneS _) (by unfold maxLen; omega) (by omega) (hRN.b2w.2) ?_
                    intro v6 wa hOa hgra hnila
                    obtain ⟨qa, qc, eq⟩ := own_form hOa
                    subst eq
                    replace hCN := hCN.grown hgra (fun j e => by have := (own_blkN hRN.v e).1; have := hRN.b2w.1; omega)
                    have hXa := hX.grownN hgra (own_neV hRN.v hX (by decide))
                    have hRa := hRR.grownN hgra (own_neV hRN.v hRR (by decide))
                    replace hRN := hRN.addV hgra hOa
                    dsimp only at hRN
                    clear hX hRR hOa hgra hnila hcl
                    refine hK.out _ _ trivial (fun hHeld => ?_)
                    clear hK KK
                    change wpAnyH _ _ _ _ _ _ _ (Act.put _ (some 61) _) _
                    try simp only [Act.put, List.setIfInBounds_toArray, List.set_cons_zero, List.set_cons_succ]
                    refine' wpAnyH_take (i := 7) (v := _) rfl (by kernel_rfl) (by kernel_rfl) (by kernel_rfl) (fun _ _ _ h => h) (Or.inl ⟨by kernel_rfl, ?hkc4⟩) (by assumption) ?rkc4
                    case hkc4 => intro W hW; go_simp; all_goals with_reducible rfl
                    change wpAnyH _ _ _ _ _ _ _ (Act.put _ (some 62) _) _
                    simp only [Act.put, List.setIfInBounds_toArray, List.set_cons_zero, List.set_cons_succ]
                    refine wpAnyH_ready (rs := [8]) (by kernel_rfl) (by simp) ?_
                    refine AllReadyH.cons rfl (fun KK hK => ?_) AllReadyH.nil
                    obtain ⟨y0, y1, y2, y3⟩ := hXa.cells
                    obtain ⟨f0, f1, f2, f3⟩ := hXa.fz
                    go_simp
                    have hXb := hXa.set2 (.slice qa (vs.length + 1) qc)
                    have hRb := hRa.other (C := X) (i := 2) (u := (.slice qa (vs.length + 1) qc)) (by omega)
                    have hRNb := hRN.set (i := 2) (u := (.slice qa (vs.length + 1) qc)) hXa
                    have hCb := hCN.set (X := X) (by omega) 2 (.slice qa (vs.length + 1) qc)
                    clear y0 y1 y2 y3 f0 f1 f2 f3 hXa hRa hRN hCN
                    refine hK.out _ _ trivial (fun hHeld => ?_)
                    clear hK KK
                    try simp only [Act.put, List.setIfInBounds_toArray, List.set_cons_zero, List.set_cons_succ]
                    refine wpAnyH_done (by kernel_rfl) ?_ _
                    have HS3 : Hid (S2 w g ao n cap f X ka kc true ks (k + 1) (wa.setCell ⟨X, 2, none⟩ (.slice qa (vs.length + 1) qc))) := ⟨vs ++ [z], ds, _, _, b2, by rw [List.length_append]; simp; omega, fun s hs => by
                      rcases List.mem_append.1 hs with hs | hs
                      · exact hvs s hs
                      · simp at hs; subst hs; omega, by omega, (fun h => by cases h), hds, hXb, hRb, hRNb, hCb⟩
                    clear hXb hRb hRNb hCb
                    go_wp2
                    go_roundg (ks.length + 1 - (k + 1))
                    case measure => omega
                    case rel => exact ⟨k + 1, by omega, rfl, by go_num, HS3.out⟩
                  ·
                    go_simp
                    refine hSt.mono ?_
                    rintro e w8 ⟨z, rfl, hz, hCx, hBx⟩
                    have hzs : z.size ≤ 25 := few_of hz (by decide)
                    replace hX := hX.butN hBx (by omega)
                    replace hRR := hRR.butN hBx (by omega)
                    replace hRN := hRN.but hBx hg
                    replace hCN := hCN.next hCx hBx
                    clear hCx hBx hSt hz hbL
                    go_wp2_with fail
                    refine hK.out _ _ trivial (fun hHeld => ?_)
                    clear hK KK
                    try simp only [Act.put, List.setIfInBounds_toArray, List.set_cons_zero, List.set_cons_succ]
                    refine wpAnyH_ready (rs := [1, 5]) (by kernel_rfl) (by simp) ?_
                    refine AllReadyH.cons rfl (fun KK hK => ?_) (AllReadyH.cons rfl (fun KK hK => ?_) AllReadyH.nil)
                    ·
                      have xl := hX.cells.2.2.1
                      go_simp
                      clear xl
                      refine hK.out _ _ trivial (fun hHeld => ?_)
                      clear hK KK
                      try simp only [Act.put, List.setIfInBounds_toArray, List.set_cons_zero, List.set_cons_succ]
                      refine wpAnyH_ready (rs := [5]) (by kernel_rfl) (by simp) ?_
                      refine AllReadyH.cons rfl (fun KK hK => ?_) AllReadyH.nil
                      go_simp
                      have hbO : Below w8.heap.size w8 (w8.alloc (.cells #[.string z] 9)) := (Below.refl _ _).alloc (Nat.le_refl _) _
                      have hcl := cellNew w8 (.string z) 9
                      replace hX := hX.below hbO
                      replace hRR := hRR.below hbO
                      replace hRN := hRN.below hbO
                      replace hCN := hCN.below hbO
                      clear hbO
                      refine hK.out _ _ trivial (fun hHeld => ?_)
                      clear hK KK
                      try simp only [Act.put, List.setIfInBounds_toArray, List.set_cons_zero, List.set_cons_succ]
                      obtain ⟨w9, hw9⟩ : ∃ x, Hid ((w8.alloc (.cells #[.string z] 9)) = x) := ⟨_, rfl⟩
                      obtain ⟨g9, hg9⟩ : ∃ x, Hid (w8.heap.size = x) := ⟨_, rfl⟩
                      rw [hw9.out, hg9.out] at hcl
                      rw [hw9.out] at hX hRR hRN hCN ⊢
                      try rw [hg9.out]
                      refine wpAnyH_ready (rs := [6]) (by kernel_rfl) (by simp) ?_
                      refine AllReadyH.cons rfl (fun KK hK => ?_) AllReadyH.nil
                      rw [if_pos (by kernel_rfl)]
                      refine wp_append_own _ (.tmp 56) (.tmp 60) 24 rfl b2 9 i0 (.string ⟨#[]⟩) 1 16 Try.underlying24 hi hz0 hz1 hz2 rfl (by decide) (.slice va vs.length vc) (vs.length) (txc vs) rfl hRN.v ⟨g9, 0, none⟩ 1 1 [.string z] rfl rfl hcl (oneS _) (by unfold maxLen; omega) (by omega) (hRN.b2w.2) ?_
                      intro v6 wa hOa hgra hnila
                      obtain ⟨qa, qc, eq⟩ := own_form hOa
                      subst eq
                      replace hCN := hCN.grown hgra (fun j e => by have := (own_blkN hRN.v e).1; have := hRN.b2w.1; omega)
                      have hXa := hX.grownN hgra (own_neV hRN.v hX (by decide))
                      have hRa := hRR.grownN hgra (own_neV hRN.v hRR (by decide))
                      replace hRN := hRN.addV hgra hOa
                      dsimp only at hRN
                      clear hX hRR hOa hgra hnila hcl
                      refine hK.out _ _ trivial (fun hHeld => ?_)
                      clear hK KK
                      change wpAnyH _ _ _ _ _ _ _ (Act.put _ (some 61) _) _
                      try simp only [Act.put, List.setIfInBounds_toArray, List.set_cons_zero, List.set_cons_succ]
                      refine' wpAnyH_take (i := 7) (v := _) rfl (by kernel_rfl) (by kernel_rfl) (by kernel_rfl) (fun _ _ _ h => h) (Or.inl ⟨by kernel_rfl, ?hkc5⟩) (by assumption) ?rkc5
                      case hkc5 => intro W hW; go_simp; all_goals with_reducible rfl
                      change wpAnyH _ _ _ _ _ _ _ (Act.put _ (some 62) _) _
                      simp only [Act.put, List.setIfInBounds_toArray, List.set_cons_zero, List.set_cons_succ]
                      refine wpAnyH_ready (rs := [8]) (by kernel_rfl) (by simp) ?_
                      refine AllReadyH.cons rfl (fun KK hK => ?_) AllReadyH.nil
                      obtain ⟨y0, y1, y2, y3⟩ := hXa.cells
                      obtain ⟨f0, f1, f2, f3⟩ := hXa.fz
                      go_simp
                      have hXb := hXa.set2 (.slice qa (vs.length + 1) qc)
                      have hRb := hRa.other (C := X) (i := 2) (u := (.slice qa (vs.length + 1) qc)) (by omega)
                      have hRNb := hRN.set (i := 2) (u := (.slice qa (vs.length + 1) qc)) hXa
                      have hCb := hCN.set (X := X) (by omega) 2 (.slice qa (vs.length + 1) qc)
                      clear y0 y1 y2 y3 f0 f1 f2 f3 hXa hRa hRN hCN
                      refine hK.out _ _ trivial (fun hHeld => ?_)
                      clear hK KK
                      try simp only [Act.put, List.setIfInBounds_toArray, List.set_cons_zero, List.set_cons_succ]
                      refine wpAnyH_done (by kernel_rfl) ?_ _
                      have HS3 : Hid (S2 w g ao n cap f X ka kc true ks (k + 1) (wa.setCell ⟨X, 2, none⟩ (.slice qa (vs.length + 1) qc))) := ⟨vs ++ [z], ds, _, _, b2, by rw [List.length_append]; simp; omega, fun s hs => by
                        rcases List.mem_append.1 hs with hs | hs
                        · exact hvs s hs
                        · simp at hs; subst hs; omega, by omega, (fun h => by cases h), hds, hXb, hRb, hRNb, hCb⟩
                      clear hXb hRb hRNb hCb
                      go_wp2
                      go_roundg (ks.length + 1 - (k + 1))
                      case measure => omega
                      case rel => exact ⟨k + 1, by omega, rfl, by go_num, HS3.out⟩
                    ·
                      go_simp
                      have hbO : Below w8.heap.size w8 (w8.alloc (.cells #[.string z] 9)) := (Below.refl _ _).alloc (Nat.le_refl _) _
                      have hcl := cellNew w8 (.string z) 9
                      replace hX := hX.below hbO
                      replace hRR := hRR.below hbO
                      replace hRN := hRN.below hbO
                      replace hCN := hCN.below hbO
                      clear hbO
                      refine hK.out _ _ trivial (fun hHeld => ?_)
                      clear hK KK
                      try simp only [Act.put, List.setIfInBounds_toArray, List.set_cons_zero, List.set_cons_succ]
                      obtain ⟨w9, hw9⟩ : ∃ x, Hid ((w8.alloc (.cells #[.string z] 9)) = x) := ⟨_, rfl⟩
                      obtain ⟨g9, hg9⟩ : ∃ x, Hid (w8.heap.size = x) := ⟨_, rfl⟩
                      rw [hw9.out, hg9.out] at hcl
                      rw [hw9.out] at hX hRR hRN hCN ⊢
                      try rw [hg9.out]
                      refine wpAnyH_ready (rs := [1]) (by kernel_rfl) (by simp) ?_
                      refine AllReadyH.cons rfl (fun KK hK => ?_) AllReadyH.nil
                      have xl := hX.cells.2.2.1
                      go_simp
                      clear xl
                      refine hK.out _ _ trivial (fun hHeld => ?_)
                      clear hK KK
                      try simp only [Act.put, List.setIfInBounds_toArray, List.set_cons_zero, List.set_cons_succ]
                      refine wpAnyH_ready (rs := [6]) (by kernel_rfl) (by simp) ?_
                      refine AllReadyH.cons rfl (fun KK hK => ?_) AllReadyH.nil
                      rw [if_pos (by kernel_rfl)]
                      refine wp_append_own _ (.tmp 56) (.tmp 60) 24 rfl b2 9 i0 (.string ⟨#[]⟩) 1 16 Try.underlying24 hi hz0 hz1 hz2 rfl (by decide) (.slice va vs.length vc) (vs.length) (txc vs) rfl hRN.v ⟨g9, 0, none⟩ 1 1 [.string z] rfl rfl hcl (oneS _) (by unfold maxLen; omega) (by omega) (hRN.b2w.2) ?_
                      intro v6 wa hOa hgra hnila
                      obtain ⟨qa, qc, eq⟩ := own_form hOa
                      subst eq
                      replace hCN := hCN.grown hgra (fun j e => by have := (own_blkN hRN.v e).1; have := hRN.b2w.1; omega)
                      have hXa := hX.grownN hgra (own_neV hRN.v hX (by decide))
                      have hRa := hRR.grownN hgra (own_neV hRN.v hRR (by decide))
                      replace hRN := hRN.addV hgra hOa
                      dsimp only at hRN
                      clear hX hRR hOa hgra hnila hcl
                      refine hK.out _ _ trivial (fun hHeld => ?_)
                      clear hK KK
                      change wpAnyH _ _ _ _ _ _ _ (Act.put _ (some 61) _) _
                      try simp only [Act.put, List.setIfInBounds_toArray, List.set_cons_zero, List.set_cons_succ]
                      refine' wpAnyH_take (i := 7) (v := _) rfl (by kernel_rfl) (by kernel_rfl) (by kernel_rfl) (fun _ _ _ h => h) (Or.inl ⟨by kernel_rfl, ?hkc6⟩) (by assumption) ?rkc6
                      case hkc6 => intro W hW; go_simp; all_goals with_reducible rfl
                      change wpAnyH _ _ _ _ _ _ _ (Act.put _ (some 62) _) _
                      simp only [Act.put, List.setIfInBounds_toArray, List.set_cons_zero, List.set_cons_succ]
                      refine wpAnyH_ready (rs := [8]) (by kernel_rfl) (by simp) ?_
                      refine AllReadyH.cons rfl (fun KK hK => ?_) AllReadyH.nil
                      obtain ⟨y0, y1, y2, y3⟩ := hXa.cells
                      obtain ⟨f0, f1, f2, f3⟩ := hXa.fz
                      go_simp
                      have hXb := hXa.set2 (.slice qa (vs.length + 1) qc)
                      have hRb := hRa.other (C := X) (i := 2) (u := (.slice qa (vs.length + 1) qc)) (by omega)
                      have hRNb := hRN.set (i := 2) (u := (.slice qa (vs.length + 1) qc)) hXa
                      have hCb := hCN.set (X := X) (by omega) 2 (.slice qa (vs.length + 1) qc)
                      clear y0 y1 y2 y3 f0 f1 f2 f3 hXa hRa hRN hCN
                      refine hK.out _ _ trivial (fun hHeld => ?_)
                      clear hK KK
                      try simp only [Act.put, List.setIfInBounds_toArray, List.set_cons_zero, List.set_cons_succ]
                      refine wpAnyH_done (by kernel_rfl) ?_ _
                      have HS3 : Hid (S2 w g ao n cap f X ka kc true ks (k + 1) (wa.setCell ⟨X, 2, none⟩ (.slice qa (vs.length + 1) qc))) := ⟨vs ++ [z], ds, _, _, b2, by rw [List.length_append]; simp; omega, fun s hs => by
                        rcases List.mem_append.1 hs with hs | hs
                        · exact hvs s hs
                        · simp at hs; subst hs; omega, by omega, (fun h => by cases h), hds, hXb, hRb, hRNb, hCb⟩
                      clear hXb hRb hRNb hCb
                      go_wp2
                      go_roundg (ks.length + 1 - (k + 1))
                      case measure => omega
                      case rel => exact ⟨k + 1, by omega, rfl, by go_num, HS3.out⟩
            · have HS3 : Hid (S2 w g ao n cap f X ka kc true ks (k + 1) wr) := ⟨vs, ds, _, _, b2, by omega, hvs, by omega, (fun h => by cases h), hds, hX, hRR, hRN, hCN⟩
              clear hX hRR hRN hCN
              go_wp2
              go_roundg (ks.length + 1 - (k + 1))
              case measure => omega
              case rel => exact ⟨k + 1, by omega, rfl, by go_num, HS3.out⟩
        · have hkz : ¬ (k : Int) ≤ (ks.length : Int) := by omega
          obtain ⟨r0, r1, r2, r3⟩ := hRR.cells
          obtain ⟨z0, z1, z2, z3⟩ := hRR.fz
          have hRF := (((hRR.set0 (.bool b)).set1 (.slice ka ks.length kc)).set2 (.slice va vs.length vc)).set3 (.slice da ds.length dc)
          obtain ⟨m0, m1, m2, m3⟩ := hRF.cells
          have hr1 := hRN.set (i := 0) (u := .bool b) hRR
          have hr2 := hr1.set (i := 1) (u := .slice ka ks.length kc) (hRR.set0 (.bool b))
          have hr3 := hr2.set (i := 2) (u := .slice va vs.length vc) ((hRR.set0 (.bool b)).set1 (.slice ka ks.length kc))
          have hr4 := hr3.set (i := 3) (u := .slice da ds.length dc) (((hRR.set0 (.bool b)).set1 (.slice ka ks.length kc)).set2 (.slice va vs.length vc))
          have hc4 := (((hCN.set (Nat.le_refl _) 0 (.bool b)).set (Nat.le_refl _) 1 (.slice ka ks.length kc)).set (Nat.le_refl _) 2 (.slice va vs.length vc)).set (Nat.le_refl _) 3 (.slice da ds.length dc)
          have HE : Hid (RN w ((((wr.setCell ⟨w.heap.size, 0, none⟩ (.bool b)).setCell ⟨w.heap.size, 1, none⟩ (.slice ka ks.length kc)).setCell ⟨w.heap.size, 2, none⟩ (.slice va vs.length vc)).setCell ⟨w.heap.size, 3, none⟩ (.slice da ds.length dc)) b2 (.slice ka ks.length kc) (.slice va vs.length vc) (.slice da ds.length dc) ⟨b, ks, vs, ds⟩ ∧ Small 50 ⟨b, ks, vs, ds⟩ ∧ CN w g ao n cap f ((((wr.setCell ⟨w.heap.size, 0, none⟩ (.bool b)).setCell ⟨w.heap.size, 1, none⟩ (.slice ka ks.length kc)).setCell ⟨w.heap.size, 2, none⟩ (.slice va vs.length vc)).setCell ⟨w.heap.size, 3, none⟩ (.slice da ds.length dc))) :=
            ⟨hr4, ⟨fun _ => ⟨HKS.out, fun h => by have := hdk.out h; show ds.length = ks.length + 1; omega⟩, fun _ _ s hs => by have := (HKS.out s hs).1; omega, by show ks.length ≤ 50; omega, fun s hs => by have := (HKS.out s hs).1; omega, by show vs.length ≤ 50; omega, fun s hs => by have := hvs s hs; omega, by show ds.length ≤ 50; omega, fun y hy => by have := hds y hy; omega⟩, hc4⟩
          clear hX hRR hRN hCN hRF hr1 hr2 hr3 hr4 hc4
          go_wp2
          refine bodyPost_ret (v := .agg #[.bool b, .slice ka ks.length kc, .slice va vs.length vc, .slice da ds.length dc]) (by simp [results, Try.results36, go_sem, m0, m1, m2, m3]) rfl ⟨⟨b, ks, vs, ds⟩, b2, _, _, _, rfl, HE.out⟩
end Go.Proofs.Ytaiinlcdfeboiaa

