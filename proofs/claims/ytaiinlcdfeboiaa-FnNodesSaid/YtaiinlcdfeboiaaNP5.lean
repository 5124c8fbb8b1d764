/-
  NodeAny
-/
import Derived.Test.YtaiinlcdfeboiaaNP3
import Derived.Test.YtaiinlcdfeboiaaNP4
import Derived.Deep.CutBlock
import Derived.Deep.DeepCutAuto
/-
  The draw of a node, bent or not.
-/
namespace Go.Proofs.Ytaiinlcdfeboiaa
open Go.RowKit
set_option maxRecDepth 4000

/-- What is there behind the bending. -/
def SB (w : World) (g : Nat) (ao : Option Addr) (n cap : Nat) (f : Nat → Int) (X : Nat) (W : World) : Prop :=
  ∃ (L : NL) (kv vv dv : Value), V4 W X 27 (.bool L.leaf) kv vv dv ∧ V4 W w.heap.size 27 (.bool false) (.slice none 0 0) (.slice none 0 0) (.slice none 0 0) ∧ RV3 W kv vv dv L ∧ Small 100 L ∧ CN w g ao n cap f W ∧ GeB w.heap.size kv vv dv
theorem Small.short {L : NL} (h : Small 50 L) : ∀ s ∈ L.ks, s.size ≤ 48 := fun s hs => by have := ((h.kk rfl).1 s hs).1; omega
theorem Small.more {L : NL} (h : Small 50 L) : Small 100 L :=
  ⟨(fun e => by cases e), fun _ _ => h.short, by have := h.nk; omega, fun s hs => by have := h.ks s hs; omega, by have := h.nv; omega, fun s hs => by have := h.vs s hs; omega, by have := h.nd; omega, fun y hy => by have := h.ds y hy; omega⟩
theorem Small.leaf {L : NL} (h : Small 50 L) (b : Bool) : Small 100 { L with leaf := b } := ⟨(fun e => by cases e), fun _ _ => h.short, h.more.nk, h.more.ks, h.more.nv, h.more.vs, h.more.nd, h.more.ds⟩
theorem Small.addK {L : NL} (h : Small 50 L) {s : ByteArray} (hs : s.size ≤ 100) : Small 100 { L with ks := L.ks ++ [s] } :=
  ⟨(fun e => by cases e), (fun hl hd => by
    have h1 := (h.kk rfl).2 hl
    have h2 : L.ds.length = (L.ks ++ [s]).length + 1 := hd
    rw [List.length_append] at h2
    simp at h2
    omega), by have := h.nk; show (L.ks ++ [s]).length ≤ 100; simp; omega, fun t ht => by
    rcases List.mem_append.1 ht with ht | ht
    · have := h.ks t ht; omega
    · simp at ht; subst ht; exact hs, h.more.nv, h.more.vs, h.more.nd, h.more.ds⟩
theorem Small.addV {L : NL} (h : Small 50 L) {s : ByteArray} (hs : s.size ≤ 100) : Small 100 { L with vs := L.vs ++ [s] } :=
  ⟨(fun e => by cases e), fun _ _ => h.short, h.more.nk, h.more.ks, by have := h.nv; show (L.vs ++ [s]).length ≤ 100; simp; omega, fun t ht => by
    rcases List.mem_append.1 ht with ht | ht
    · have := h.vs t ht; omega
    · simp at ht; subst ht; exact hs, h.more.nd, h.more.ds⟩
theorem Small.addD {L : NL} (h : Small 50 L) {s : Int} (hs : -100 ≤ s ∧ s ≤ 100) : Small 100 { L with ds := L.ds ++ [s] } :=
  ⟨(fun e => by cases e), fun _ _ => h.short, h.more.nk, h.more.ks, h.more.nv, h.more.vs, by have := h.nd; show (L.ds ++ [s]).length ≤ 100; simp; omega, fun t ht => by
    rcases List.mem_append.1 ht with ht | ht
    · exact h.more.ds t ht
    · simp at ht; subst ht; exact hs⟩
/-- The rows read, a key being one more. -/
theorem RN.moreK {w W W' : World} {b2 : Nat} {kv vv dv k2 : Value} {L : NL} {s : ByteArray} (h : RN w W b2 kv vv dv L) (hg : W.grownBy W' kv.ownBlock) (hO : W'.ownsRow w.heap.size 9 1 k2 (L.ks.length + 1) (txc L.ks ++ [.string s])) : RV3 W' k2 vv dv { L with ks := L.ks ++ [s] } ∧ W'.ownsRow w.heap.size 9 1 k2 (L.ks.length + 1) (txc L.ks ++ [.string s]) :=
  ⟨⟨own_tx (l := L.ks ++ [s]) (by rw [List.length_append, txc_app]; exact hO), own_tx (own_grownN h.v hg (fun j e e' => by have := h.kb j e'; have := (own_blkN h.v e).1; omega)), own_nu (own_grownN h.d hg (own_neO h.k h.d (by decide)))⟩, hO⟩
theorem makeBs (m : Nat) (h : m ≤ 1048576) (w : World) : (Instr.makeSlice 22 (.int .i64 (m : Int)) (.int .i64 (m : Int))).run Try.prog w = .ok (.slice (some ⟨w.heap.size, 0, none⟩) m m) (w.alloc (.cells (madeCells #[.int .u8 0] m) 5)) :=
  run_make_row' (P := Try.prog) 22 5 (.int .u8 0) 1 Try.underlying22 Try.info5 rfl .i64 .i64 m (by omega) (by omega) w
theorem str_len (xs : List Int) : (strOfNums xs).size = xs.length := by simp [strOfNums, ByteArray.size]

set_option maxHeartbeats 16000000 in
theorem l14Any_any (g : Nat) (ao : Option Addr) (n cap : Nat) (f : Nat → Int) (w : World) (hn : n ≤ 1048576) (hC : Cur w g ao n cap f) :
    Calls Try.prog 29 #[.pointer (some ⟨g, 0, none⟩)] w fun e w' => ∃ (L : NL) (kv vv dv : Value), e = .returned (.agg #[.bool L.leaf, kv, vv, dv]) ∧ RV3 w' kv vv dv L ∧ Small 100 L ∧ CN w g ao n cap f w' ∧ GeB w.heap.size kv vv dv := by
  obtain ⟨i0, hi, hz0, hz1, hz2⟩ := infoTxt
  obtain ⟨j0, hj, hy0, hy1, hy2⟩ := infoNum
  have hmk49 : ∀ W : World, (Instr.makeSlice 22 (.int .i64 49) (.int .i64 49)).run Try.prog W = .ok (.slice (some ⟨W.heap.size, 0, none⟩) 49 49) (W.alloc (.cells (madeCells #[.int .u8 0] 49) 5)) := fun W => makeBs 49 (by omega) W
  have hmk61 : ∀ W : World, (Instr.makeSlice 22 (.int .i64 61) (.int .i64 61)).run Try.prog W = .ok (.slice (some ⟨W.heap.size, 0, none⟩) 61 61) (W.alloc (.cells (madeCells #[.int .u8 0] 61) 5)) := fun W => makeBs 61 (by omega) W
  have hR0 := CN.start hC
  have hg := hR0.lt
  have hbA : Below w.heap.size w (w.alloc (.cells #[.bool false, .slice none 0 0, .slice none 0 0, .slice none 0 0] 27)) := (Below.refl _ _).alloc (Nat.le_refl _) _
  have hRR := V4.new w 27 (.bool false) (.slice none 0 0) (.slice none 0 0) (.slice none 0 0)
  have hR1 := hR0.below hbA
  have hsz : w.heap.size < (w.alloc (.cells #[.bool false, .slice none 0 0, .slice none 0 0, .slice none 0 0] 27)).heap.size := by simp
  clear hC hR0 hbA
  go_enter Try.func29, Try.ntmps29
  go_wp2_with fail
  obtain ⟨WA, hWA⟩ : ∃ x, Hid (w.alloc (.cells #[.bool false, .slice none 0 0, .slice none 0 0, .slice none 0 0] 27) = x) := ⟨_, rfl⟩
  rw [hWA.out] at hRR hR1 hsz ⊢
  refine (l14Draw_any g ao n cap f WA hn hR1.cur).mono ?_
  rintro e w1 ⟨L, b2, kv, vv, dv, rfl, hRN, hSm, hC1⟩
  have hCN := hR1.next hC1.cur hC1.but
  replace hRR := hRR.butN hC1.but (by omega)
  have hsz1 : w.heap.size < w1.heap.size := Nat.lt_of_lt_of_le hsz hC1.size
  obtain ⟨ka, kc, ek, -⟩ := own_tx hRN.k
  subst ek
  obtain ⟨va, vc, ev, -⟩ := own_tx hRN.v
  subst ev
  obtain ⟨da, dc, ed, -⟩ := own_nu hRN.d
  subst ed
  clear hC1 hR1 hWA
  have hbX : Below w1.heap.size w1 (w1.alloc (.cells #[.bool L.leaf, (.slice ka L.ks.length kc), (.slice va L.vs.length vc), (.slice da L.ds.length dc)] 27)) := (Below.refl _ _).alloc (Nat.le_refl _) _
  have hX := V4.new w1 27 (.bool L.leaf) (.slice ka L.ks.length kc) (.slice va L.vs.length vc) (.slice da L.ds.length dc)
  replace hCN := hCN.below hbX
  replace hRR := hRR.below hbX
  replace hRN := hRN.below hbX
  obtain ⟨X, hXe⟩ : ∃ x, Hid (w1.heap.size = x) := ⟨_, rfl⟩
  rw [hXe.out] at hX hsz1
  clear hbX
  go_wp2_with fail
  obtain ⟨W2, hW2⟩ : ∃ x, Hid (w1.alloc (.cells #[.bool L.leaf, (.slice ka L.ks.length kc), (.slice va L.vs.length vc), (.slice da L.ds.length dc)] 27) = x) := ⟨_, rfl⟩
  rw [hW2.out] at hX hRR hRN hCN ⊢
  rw [hXe.out]
  clear hW2 hXe
  refine (l1Below_any g ao n cap f 12 W2 hn (by omega) (by omega) hCN.cur).mono ?_
  rintro e w3 ⟨t, rfl, ht0, ht1, hC3, hO3⟩
  have hb3 := But.ofOnly hO3
  replace hX := hX.butN hb3 (by omega)
  replace hRR := hRR.butN hb3 (by omega)
  replace hRN := hRN.but hb3 (by omega)
  replace hCN := hCN.next hC3 hb3
  clear hC3 hO3 hb3
  go_upto_block 0 with fail
  go_cut [] (fun wx => SB w g ao n cap f X wx)
  case first =>
    by_cases t0 : t = 0
    · subst t0
      obtain ⟨x0, x1, x2, x3⟩ := hX.cells
      obtain ⟨z0, z1, z2, z3⟩ := hX.fz
      have HS : Hid (SB w g ao n cap f X (w3.setCell ⟨X, 0, none⟩ (.bool (!L.leaf)))) := ⟨{ L with leaf := !L.leaf }, _, _, _, hX.set0 _, hRR.other (by omega), ⟨(hRN.set hX).rv.k, (hRN.set hX).rv.v, (hRN.set hX).rv.d⟩, hSm.leaf _, hCN.set (by omega) 0 _, hRN.ge (Nat.le_of_lt hsz)⟩
      clear hX hRR hRN hCN hmk49 hmk61
      go_wp2
      go_meet
      exact HS.out
    by_cases t1 : t = 1
    · subst t1
      go_wp2_with fail
      as_aux_lemma =>
        refine wp_region_held_drew (S := fun _ => True) (by kernel_rfl) trivial (fun hHeld => ?_)
        have hbd : Below w3.heap.size w3 w3.drew := (Below.refl _ _).drew
        replace hX := hX.below hbd
        replace hRR := hRR.below hbd
        replace hRN := hRN.below hbd
        replace hCN := hCN.below hbd
        clear hbd
        obtain ⟨wd, hwd⟩ : ∃ x, Hid (w3.drew = x) := ⟨_, rfl⟩
        rw [hwd.out] at hX hRR hRN hCN ⊢
        clear hwd
        refine' wpAnyH_take (i := 0) (v := _) rfl (by kernel_rfl) (by kernel_rfl) (by kernel_rfl) (fun _ _ _ h => h) (Or.inl ⟨by kernel_rfl, ?hna1⟩) (by assumption) ?rna1
        case hna1 => intro W hW; go_simp; all_goals with_reducible rfl
        change wpAnyH _ _ _ _ _ _ _ (Act.put _ (some 16) _) _
        simp only [Act.put, List.setIfInBounds_toArray, List.set_cons_zero, List.set_cons_succ]
        refine' wpAnyH_take (i := 2) (v := _) rfl (by kernel_rfl) (by kernel_rfl) (by kernel_rfl) (fun _ _ _ h => h) (Or.inl ⟨by kernel_rfl, ?hna2⟩) (by assumption) ?rna2
        case hna2 => intro W hW; go_simp; all_goals with_reducible rfl
        change wpAnyH _ _ _ _ _ _ _ (Act.put _ (some 18) _) _
        simp only [Act.put, List.setIfInBounds_toArray, List.set_cons_zero, List.set_cons_succ]
        refine wpAnyH_ready (rs := [1, 3]) (by kernel_rfl) (by simp) ?_
        refine AllReadyH.cons rfl (fun KK hK => ?_) (AllReadyH.cons rfl (fun KK hK => ?_) AllReadyH.nil)
        ·
          have xl := hX.cells.2.1
          go_simp
          clear xl
          refine hK.out _ _ trivial (fun hHeld => ?_)
          clear hK KK
          try simp only [Act.put, List.setIfInBounds_toArray, List.set_cons_zero, List.set_cons_succ]
          refine wpAnyH_ready (rs := [3]) (by kernel_rfl) (by simp) ?_
          refine AllReadyH.cons rfl (fun KK hK => ?_) AllReadyH.nil
          go_simp
          have hbM : Below wd.heap.size wd (wd.alloc (.cells (madeCells #[.int .u8 0] 49) 5)) := (Below.refl _ _).alloc (Nat.le_refl _) _
          have hrm := World.rowIs_made wd (.int .u8 0) 49 5
          replace hX := hX.below hbM
          replace hRR := hRR.below hbM
          replace hRN := hRN.below hbM
          replace hCN := hCN.below hbM
          clear hbM
          refine hK.out _ _ trivial (fun hHeld => ?_)
          clear hK KK
          try simp only [Act.put, List.setIfInBounds_toArray, List.set_cons_zero, List.set_cons_succ]
          obtain ⟨w4, hw4⟩ : ∃ x, Hid ((wd.alloc (.cells (madeCells #[.int .u8 0] 49) 5)) = x) := ⟨_, rfl⟩
          obtain ⟨g4, hg4⟩ : ∃ x, Hid (wd.heap.size = x) := ⟨_, rfl⟩
          rw [hw4.out, hg4.out] at hrm
          rw [hw4.out] at hX hRR hRN hCN ⊢
          try rw [hg4.out]
          have hcv := conv_view (View.ofRow (f := fun _ => 0) hrm (Nat.le_refl _) (Nat.le_refl _) (fun _ _ => by omega))
          obtain ⟨sm, hsm⟩ : ∃ x, Hid (strOfNums (lof 49 (fun _ => 0)) = x) := ⟨_, rfl⟩
          have hsz9 : sm.size = 49 := by rw [← hsm.out, str_len, lof_len]
          rw [hsm.out] at hcv
          clear hrm hsm
          refine wpAnyH_ready (rs := [4]) (by kernel_rfl) (by simp) ?_
          refine AllReadyH.cons rfl (fun KK hK => ?_) AllReadyH.nil
          go_simp
          clear hcv
          refine hK.out _ _ trivial (fun hHeld => ?_)
          clear hK KK
          try simp only [Act.put, List.setIfInBounds_toArray, List.set_cons_zero, List.set_cons_succ]
          refine wpAnyH_ready (rs := [5]) (by kernel_rfl) (by simp) ?_
          refine AllReadyH.cons rfl (fun KK hK => ?_) AllReadyH.nil
          have hSt := l1Str_mem g ao n cap f [⟨#[97]⟩, ⟨#[122]⟩, sm] w4.heap.size w4 rfl hn (by simp) (by simp) hCN.cur
          go_simp
          have hbL : Below w4.heap.size w4 (w4.alloc (.cells #[.string ⟨#[97]⟩, .string ⟨#[122]⟩, .string sm] 9)) := (Below.refl _ _).alloc (Nat.le_refl _) _
          refine hK.out _ _ trivial (fun hHeld => ?_)
          clear hK KK
          try simp only [Act.put, List.setIfInBounds_toArray, List.set_cons_zero, List.set_cons_succ]
          refine wpAnyH_ready (rs := [6]) (by kernel_rfl) (by simp) ?_
          refine AllReadyH.cons rfl (fun KK hK => ?_) AllReadyH.nil
          go_simp
          refine hSt.mono ?_
          rintro e w8 ⟨z, rfl, hz, hCx, hBx⟩
          have hzs : z.size ≤ 100 := by
            simp only [List.mem_cons, List.not_mem_nil, or_false] at hz
            rcases hz with rfl | rfl | rfl <;> first | omega | decide
          replace hX := hX.butN hBx (by omega)
          replace hRR := hRR.butN hBx (by omega)
          replace hRN := hRN.but hBx (by omega)
          replace hCN := hCN.next hCx hBx
          clear hCx hBx hSt hz hbL
          go_wp2_with fail
          refine hK.out _ _ trivial (fun hHeld => ?_)
          clear hK KK
          try simp only [Act.put, List.setIfInBounds_toArray, List.set_cons_zero, List.set_cons_succ]
          refine wpAnyH_ready (rs := [7]) (by kernel_rfl) (by simp) ?_
          refine AllReadyH.cons rfl (fun KK hK => ?_) AllReadyH.nil
          go_simp
          have hbO : Below w8.heap.size w8 (w8.alloc (.cells #[.string z] 9)) := (Below.refl _ _).alloc (Nat.le_refl _) _
          have hcl := cellNew w8 (.string z) 9
          replace hX := hX.below hbO
          replace hRR := hRR.below hbO
          replace hRN := hRN.below hbO
          replace hCN := hCN.below hbO
          clear hbO
          refine hK.out _ _ trivial (fun hHeld => ?_)
          clear hK KK
          try simp only [Act.put, List.setIfInBounds_toArray, List.set_cons_zero, List.set_cons_succ]
          obtain ⟨w9, hw9⟩ : ∃ x, Hid ((w8.alloc (.cells #[.string z] 9)) = x) := ⟨_, rfl⟩
          obtain ⟨g9, hg9⟩ : ∃ x, Hid (w8.heap.size = x) := ⟨_, rfl⟩
          rw [hw9.out, hg9.out] at hcl
          rw [hw9.out] at hX hRR hRN hCN ⊢
          try rw [hg9.out]
          refine wpAnyH_ready (rs := [8]) (by kernel_rfl) (by simp) ?_
          refine AllReadyH.cons rfl (fun KK hK => ?_) AllReadyH.nil
          rw [if_pos (by kernel_rfl)]
          have hnl : L.ks.length ≤ 50 := hSm.nk
          refine wp_append_own _ (.tmp 17) (.tmp 23) 24 rfl WA.heap.size 9 i0 (.string ⟨#[]⟩) 1 16 Try.underlying24 hi hz0 hz1 hz2 rfl (by decide) (.slice ka L.ks.length kc) (L.ks.length) (txc L.ks) rfl hRN.k ⟨g9, 0, none⟩ 1 1 [.string z] rfl rfl hcl (oneS _) (by unfold maxLen; omega) (by omega) ((Nat.le_trans hRN.b2w.1 hRN.b2w.2)) ?_
          intro v6 wa hOa hgra hnila
          obtain ⟨qa, qc, eq⟩ := own_form hOa
          subst eq
          replace hCN := hCN.grown hgra (fun j e => by have := (own_blkN hRN.k e).1; have := hRN.b2w.1; omega)
          have hXa := hX.grownN hgra (own_neV hRN.k hX (by decide))
          have hRa := hRR.grownN hgra (own_neV hRN.k hRR (by decide))
          have hGe : GeB w.heap.size _ _ _ := hRN.ge (Nat.le_of_lt hsz)
          have hGn : ∀ j, (Value.slice qa (L.ks.length + 1) qc).ownBlock = some j → w.heap.size ≤ j := fun j e => by have := (own_blkN hOa e).1; have := hRN.b2w.1; omega
          have hV3 := (hRN.moreK hgra hOa).1
          clear hX hRR hRN hOa hgra hnila hcl
          refine hK.out _ _ trivial (fun hHeld => ?_)
          clear hK KK
          change wpAnyH _ _ _ _ _ _ _ (Act.put _ (some 24) _) _
          try simp only [Act.put, List.setIfInBounds_toArray, List.set_cons_zero, List.set_cons_succ]
          refine' wpAnyH_take (i := 9) (v := _) rfl (by kernel_rfl) (by kernel_rfl) (by kernel_rfl) (fun _ _ _ h => h) (Or.inl ⟨by kernel_rfl, ?hna3⟩) (by assumption) ?rna3
          case hna3 => intro W hW; go_simp; all_goals with_reducible rfl
          change wpAnyH _ _ _ _ _ _ _ (Act.put _ (some 25) _) _
          simp only [Act.put, List.setIfInBounds_toArray, List.set_cons_zero, List.set_cons_succ]
          refine wpAnyH_ready (rs := [10]) (by kernel_rfl) (by simp) ?_
          refine AllReadyH.cons rfl (fun KK hK => ?_) AllReadyH.nil
          obtain ⟨y0, y1, y2, y3⟩ := hXa.cells
          obtain ⟨f0, f1, f2, f3⟩ := hXa.fz
          go_simp
          have HS : Hid (SB w g ao n cap f X (wa.setCell ⟨X, 1, none⟩ (.slice qa (L.ks.length + 1) qc))) := ⟨{ L with ks := L.ks ++ [z] }, _, _, _, hXa.set1 (.slice qa (L.ks.length + 1) qc), hRa.other (C := X) (i := 1) (u := (.slice qa (L.ks.length + 1) qc)) (by omega), hV3.setN (i := 1) (u := (.slice qa (L.ks.length + 1) qc)) hXa cell4_no, hSm.addK hzs, hCN.set (X := X) (by omega) 1 (.slice qa (L.ks.length + 1) qc), ⟨hGn, hGe.2.1, hGe.2.2⟩⟩
          clear y0 y1 y2 y3 f0 f1 f2 f3 hXa hRa hV3 hCN hGe hGn
          refine hK.out _ _ trivial (fun hHeld => ?_)
          clear hK KK
          try simp only [Act.put, List.setIfInBounds_toArray, List.set_cons_zero, List.set_cons_succ]
          refine wpAnyH_done (by kernel_rfl) ?_ _
          go_wp2_with fail
          go_meet
          exact HS.out
        ·
          go_simp
          have hbM : Below wd.heap.size wd (wd.alloc (.cells (madeCells #[.int .u8 0] 49) 5)) := (Below.refl _ _).alloc (Nat.le_refl _) _
          have hrm := World.rowIs_made wd (.int .u8 0) 49 5
          replace hX := hX.below hbM
          replace hRR := hRR.below hbM
          replace hRN := hRN.below hbM
          replace hCN := hCN.below hbM
          clear hbM
          refine hK.out _ _ trivial (fun hHeld => ?_)
          clear hK KK
          try simp only [Act.put, List.setIfInBounds_toArray, List.set_cons_zero, List.set_cons_succ]
          obtain ⟨w4, hw4⟩ : ∃ x, Hid ((wd.alloc (.cells (madeCells #[.int .u8 0] 49) 5)) = x) := ⟨_, rfl⟩
          obtain ⟨g4, hg4⟩ : ∃ x, Hid (wd.heap.size = x) := ⟨_, rfl⟩
          rw [hw4.out, hg4.out] at hrm
          rw [hw4.out] at hX hRR hRN hCN ⊢
          try rw [hg4.out]
          have hcv := conv_view (View.ofRow (f := fun _ => 0) hrm (Nat.le_refl _) (Nat.le_refl _) (fun _ _ => by omega))
          obtain ⟨sm, hsm⟩ : ∃ x, Hid (strOfNums (lof 49 (fun _ => 0)) = x) := ⟨_, rfl⟩
          have hsz9 : sm.size = 49 := by rw [← hsm.out, str_len, lof_len]
          rw [hsm.out] at hcv
          clear hrm hsm
          refine wpAnyH_ready (rs := [1, 4]) (by kernel_rfl) (by simp) ?_
          refine AllReadyH.cons rfl (fun KK hK => ?_) (AllReadyH.cons rfl (fun KK hK => ?_) AllReadyH.nil)
          ·
            have xl := hX.cells.2.1
            go_simp
            clear xl
            refine hK.out _ _ trivial (fun hHeld => ?_)
            clear hK KK
            try simp only [Act.put, List.setIfInBounds_toArray, List.set_cons_zero, List.set_cons_succ]
            refine wpAnyH_ready (rs := [4]) (by kernel_rfl) (by simp) ?_
            refine AllReadyH.cons rfl (fun KK hK => ?_) AllReadyH.nil
            go_simp
            clear hcv
            refine hK.out _ _ trivial (fun hHeld => ?_)
            clear hK KK
            try simp only [Act.put, List.setIfInBounds_toArray, List.set_cons_zero, List.set_cons_succ]
            refine wpAnyH_ready (rs := [5]) (by kernel_rfl) (by simp) ?_
            refine AllReadyH.cons rfl (fun KK hK => ?_) AllReadyH.nil
            have hSt := l1Str_mem g ao n cap f [⟨#[97]⟩, ⟨#[122]⟩, sm] w4.heap.size w4 rfl hn (by simp) (by simp) hCN.cur
            go_simp
            have hbL : Below w4.heap.size w4 (w4.alloc (.cells #[.string ⟨#[97]⟩, .string ⟨#[122]⟩, .string sm] 9)) := (Below.refl _ _).alloc (Nat.le_refl _) _
            refine hK.out _ _ trivial (fun hHeld => ?_)
            clear hK KK
            try simp only [Act.put, List.setIfInBounds_toArray, List.set_cons_zero, List.set_cons_succ]
            refine wpAnyH_ready (rs := [6]) (by kernel_rfl) (by simp) ?_
            refine AllReadyH.cons rfl (fun KK hK => ?_) AllReadyH.nil
            go_simp
            refine hSt.mono ?_
            rintro e w8 ⟨z, rfl, hz, hCx, hBx⟩
            have hzs : z.size ≤ 100 := by
              simp only [List.mem_cons, List.not_mem_nil, or_false] at hz
              rcases hz with rfl | rfl | rfl <;> first | omega | decide
            replace hX := hX.butN hBx (by omega)
            replace hRR := hRR.butN hBx (by omega)
            replace hRN := hRN.but hBx (by omega)
            replace hCN := hCN.next hCx hBx
            clear hCx hBx hSt hz hbL
            go_wp2_with fail
            refine hK.out _ _ trivial (fun hHeld => ?_)
            clear hK KK
            try simp only [Act.put, List.setIfInBounds_toArray, List.set_cons_zero, List.set_cons_succ]
            refine wpAnyH_ready (rs := [7]) (by kernel_rfl) (by simp) ?_
            refine AllReadyH.cons rfl (fun KK hK => ?_) AllReadyH.nil
            go_simp
            have hbO : Below w8.heap.size w8 (w8.alloc (.cells #[.string z] 9)) := (Below.refl _ _).alloc (Nat.le_refl _) _
            have hcl := cellNew w8 (.string z) 9
            replace hX := hX.below hbO
            replace hRR := hRR.below hbO
            replace hRN := hRN.below hbO
            replace hCN := hCN.below hbO
            clear hbO
            refine hK.out _ _ trivial (fun hHeld => ?_)
            clear hK KK
            try simp only [Act.put, List.setIfInBounds_toArray, List.set_cons_zero, List.set_cons_succ]
            obtain ⟨w9, hw9⟩ : ∃ x, Hid ((w8.alloc (.cells #[.string z] 9)) = x) := ⟨_, rfl⟩
            obtain ⟨g9, hg9⟩ : ∃ x, Hid (w8.heap.size = x) := ⟨_, rfl⟩
            rw [hw9.out, hg9.out] at hcl
            rw [hw9.out] at hX hRR hRN hCN ⊢
            try rw [hg9.out]
            refine wpAnyH_ready (rs := [8]) (by kernel_rfl) (by simp) ?_
            refine AllReadyH.cons rfl (fun KK hK => ?_) AllReadyH.nil
            rw [if_pos (by kernel_rfl)]
            have hnl : L.ks.length ≤ 50 := hSm.nk
            refine wp_append_own _ (.tmp 17) (.tmp 23) 24 rfl WA.heap.size 9 i0 (.string ⟨#[]⟩) 1 16 Try.underlying24 hi hz0 hz1 hz2 rfl (by decide) (.slice ka L.ks.length kc) (L.ks.length) (txc L.ks) rfl hRN.k ⟨g9, 0, none⟩ 1 1 [.string z] rfl rfl hcl (oneS _) (by unfold maxLen; omega) (by omega) ((Nat.le_trans hRN.b2w.1 hRN.b2w.2)) ?_
            intro v6 wa hOa hgra hnila
            obtain ⟨qa, qc, eq⟩ := own_form hOa
            subst eq
            replace hCN := hCN.grown hgra (fun j e => by have := (own_blkN hRN.k e).1; have := hRN.b2w.1; omega)
            have hXa := hX.grownN hgra (own_neV hRN.k hX (by decide))
            have hRa := hRR.grownN hgra (own_neV hRN.k hRR (by decide))
            have hGe : GeB w.heap.size _ _ _ := hRN.ge (Nat.le_of_lt hsz)
            have hGn : ∀ j, (Value.slice qa (L.ks.length + 1) qc).ownBlock = some j → w.heap.size ≤ j := fun j e => by have := (own_blkN hOa e).1; have := hRN.b2w.1; omega
            have hV3 := (hRN.moreK hgra hOa).1
            clear hX hRR hRN hOa hgra hnila hcl
            refine hK.out _ _ trivial (fun hHeld => ?_)
            clear hK KK
            change wpAnyH _ _ _ _ _ _ _ (Act.put _ (some 24) _) _
            try simp only [Act.put, List.setIfInBounds_toArray, List.set_cons_zero, List.set_cons_succ]
            refine' wpAnyH_take (i := 9) (v := _) rfl (by kernel_rfl) (by kernel_rfl) (by kernel_rfl) (fun _ _ _ h => h) (Or.inl ⟨by kernel_rfl, ?hna4⟩) (by assumption) ?rna4
            case hna4 => intro W hW; go_simp; all_goals with_reducible rfl
            change wpAnyH _ _ _ _ _ _ _ (Act.put _ (some 25) _) _
            simp only [Act.put, List.setIfInBounds_toArray, List.set_cons_zero, List.set_cons_succ]
            refine wpAnyH_ready (rs := [10]) (by kernel_rfl) (by simp) ?_
            refine AllReadyH.cons rfl (fun KK hK => ?_) AllReadyH.nil
            obtain ⟨y0, y1, y2, y3⟩ := hXa.cells
            obtain ⟨f0, f1, f2, f3⟩ := hXa.fz
            go_simp
            have HS : Hid (SB w g ao n cap f X (wa.setCell ⟨X, 1, none⟩ (.slice qa (L.ks.length + 1) qc))) := ⟨{ L with ks := L.ks ++ [z] }, _, _, _, hXa.set1 (.slice qa (L.ks.length + 1) qc), hRa.other (C := X) (i := 1) (u := (.slice qa (L.ks.length + 1) qc)) (by omega), hV3.setN (i := 1) (u := (.slice qa (L.ks.length + 1) qc)) hXa cell4_no, hSm.addK hzs, hCN.set (X := X) (by omega) 1 (.slice qa (L.ks.length + 1) qc), ⟨hGn, hGe.2.1, hGe.2.2⟩⟩
            clear y0 y1 y2 y3 f0 f1 f2 f3 hXa hRa hV3 hCN hGe hGn
            refine hK.out _ _ trivial (fun hHeld => ?_)
            clear hK KK
            try simp only [Act.put, List.setIfInBounds_toArray, List.set_cons_zero, List.set_cons_succ]
            refine wpAnyH_done (by kernel_rfl) ?_ _
            go_wp2_with fail
            go_meet
            exact HS.out
          ·
            go_simp
            clear hcv
            refine hK.out _ _ trivial (fun hHeld => ?_)
            clear hK KK
            try simp only [Act.put, List.setIfInBounds_toArray, List.set_cons_zero, List.set_cons_succ]
            refine wpAnyH_ready (rs := [1, 5]) (by kernel_rfl) (by simp) ?_
            refine AllReadyH.cons rfl (fun KK hK => ?_) (AllReadyH.cons rfl (fun KK hK => ?_) AllReadyH.nil)
            ·
              have xl := hX.cells.2.1
              go_simp
              clear xl
              refine hK.out _ _ trivial (fun hHeld => ?_)
              clear hK KK
              try simp only [Act.put, List.setIfInBounds_toArray, List.set_cons_zero, List.set_cons_succ]
              refine wpAnyH_ready (rs := [5]) (by kernel_rfl) (by simp) ?_
              refine AllReadyH.cons rfl (fun KK hK => ?_) AllReadyH.nil
              have hSt := l1Str_mem g ao n cap f [⟨#[97]⟩, ⟨#[122]⟩, sm] w4.heap.size w4 rfl hn (by simp) (by simp) hCN.cur
              go_simp
              have hbL : Below w4.heap.size w4 (w4.alloc (.cells #[.string ⟨#[97]⟩, .string ⟨#[122]⟩, .string sm] 9)) := (Below.refl _ _).alloc (Nat.le_refl _) _
              refine hK.out _ _ trivial (fun hHeld => ?_)
              clear hK KK
              try simp only [Act.put, List.setIfInBounds_toArray, List.set_cons_zero, List.set_cons_succ]
              refine wpAnyH_ready (rs := [6]) (by kernel_rfl) (by simp) ?_
              refine AllReadyH.cons rfl (fun KK hK => ?_) AllReadyH.nil
              go_simp
              refine hSt.mono ?_
              rintro e w8 ⟨z, rfl, hz, hCx, hBx⟩
              have hzs : z.size ≤ 100 := by
                simp only [List.mem_cons, List.not_mem_nil, or_false] at hz
                rcases hz with rfl | rfl | rfl <;> first | omega | decide
              replace hX := hX.butN hBx (by omega)
              replace hRR := hRR.butN hBx (by omega)
              replace hRN := hRN.but hBx (by omega)
              replace hCN := hCN.next hCx hBx
              clear hCx hBx hSt hz hbL
              go_wp2_with fail
              refine hK.out _ _ trivial (fun hHeld => ?_)
              clear hK KK
              try simp only [Act.put, List.setIfInBounds_toArray, List.set_cons_zero, List.set_cons_succ]
              refine wpAnyH_ready (rs := [7]) (by kernel_rfl) (by simp) ?_
              refine AllReadyH.cons rfl (fun KK hK => ?_) AllReadyH.nil
              go_simp
              have hbO : Below w8.heap.size w8 (w8.alloc (.cells #[.string z] 9)) := (Below.refl _ _).alloc (Nat.le_refl _) _
              have hcl := cellNew w8 (.string z) 9
              replace hX := hX.below hbO
              replace hRR := hRR.below hbO
              replace hRN := hRN.below hbO
              replace hCN := hCN.below hbO
              clear hbO
              refine hK.out _ _ trivial (fun hHeld => ?_)
              clear hK KK
              try simp only [Act.put, List.setIfInBounds_toArray, List.set_cons_zero, List.set_cons_succ]
              obtain ⟨w9, hw9⟩ : ∃ x, Hid ((w8.alloc (.cells #[.string z] 9)) = x) := ⟨_, rfl⟩
              obtain ⟨g9, hg9⟩ : ∃ x, Hid (w8.heap.size = x) := ⟨_, rfl⟩
              rw [hw9.out, hg9.out] at hcl
              rw [hw9.out] at hX hRR hRN hCN ⊢
              try rw [hg9.out]
              refine wpAnyH_ready (rs := [8]) (by kernel_rfl) (by simp) ?_
              refine AllReadyH.cons rfl (fun KK hK => ?_) AllReadyH.nil
              rw [if_pos (by kernel_rfl)]
              have hnl : L.ks.length ≤ 50 := hSm.nk
              refine wp_append_own _ (.tmp 17) (.tmp 23) 24 rfl WA.heap.size 9 i0 (.string ⟨#[]⟩) 1 16 Try.underlying24 hi hz0 hz1 hz2 rfl (by decide) (.slice ka L.ks.length kc) (L.ks.length) (txc L.ks) rfl hRN.k ⟨g9, 0, none⟩ 1 1 [.string z] rfl rfl hcl (oneS _) (by unfold maxLen; omega) (by omega) ((Nat.le_trans hRN.b2w.1 hRN.b2w.2)) ?_
              intro v6 wa hOa hgra hnila
              obtain ⟨qa, qc, eq⟩ := own_form hOa
              subst eq
              replace hCN := hCN.grown hgra (fun j e => by have := (own_blkN hRN.k e).1; have := hRN.b2w.1; omega)
              have hXa := hX.grownN hgra (own_neV hRN.k hX (by decide))
              have hRa := hRR.grownN hgra (own_neV hRN.k hRR (by decide))
              have hGe : GeB w.heap.size _ _ _ := hRN.ge (Nat.le_of_lt hsz)
              have hGn : ∀ j, (Value.slice qa (L.ks.length + 1) qc).ownBlock = some j → w.heap.size ≤ j := fun j e => by have := (own_blkN hOa e).1; have := hRN.b2w.1; omega
              have hV3 := (hRN.moreK hgra hOa).1
              clear hX hRR hRN hOa hgra hnila hcl
              refine hK.out _ _ trivial (fun hHeld => ?_)
              clear hK KK
              change wpAnyH _ _ _ _ _ _ _ (Act.put _ (some 24) _) _
              try simp only [Act.put, List.setIfInBounds_toArray, List.set_cons_zero, List.set_cons_succ]
              refine' wpAnyH_take (i := 9) (v := _) rfl (by kernel_rfl) (by kernel_rfl) (by kernel_rfl) (fun _ _ _ h => h) (Or.inl ⟨by kernel_rfl, ?hna5⟩) (by assumption) ?rna5
              case hna5 => intro W hW; go_simp; all_goals with_reducible rfl
              change wpAnyH _ _ _ _ _ _ _ (Act.put _ (some 25) _) _
              simp only [Act.put, List.setIfInBounds_toArray, List.set_cons_zero, List.set_cons_succ]
              refine wpAnyH_ready (rs := [10]) (by kernel_rfl) (by simp) ?_
              refine AllReadyH.cons rfl (fun KK hK => ?_) AllReadyH.nil
              obtain ⟨y0, y1, y2, y3⟩ := hXa.cells
              obtain ⟨f0, f1, f2, f3⟩ := hXa.fz
              go_simp
              have HS : Hid (SB w g ao n cap f X (wa.setCell ⟨X, 1, none⟩ (.slice qa (L.ks.length + 1) qc))) := ⟨{ L with ks := L.ks ++ [z] }, _, _, _, hXa.set1 (.slice qa (L.ks.length + 1) qc), hRa.other (C := X) (i := 1) (u := (.slice qa (L.ks.length + 1) qc)) (by omega), hV3.setN (i := 1) (u := (.slice qa (L.ks.length + 1) qc)) hXa cell4_no, hSm.addK hzs, hCN.set (X := X) (by omega) 1 (.slice qa (L.ks.length + 1) qc), ⟨hGn, hGe.2.1, hGe.2.2⟩⟩
              clear y0 y1 y2 y3 f0 f1 f2 f3 hXa hRa hV3 hCN hGe hGn
              refine hK.out _ _ trivial (fun hHeld => ?_)
              clear hK KK
              try simp only [Act.put, List.setIfInBounds_toArray, List.set_cons_zero, List.set_cons_succ]
              refine wpAnyH_done (by kernel_rfl) ?_ _
              go_wp2_with fail
              go_meet
              exact HS.out
            ·
              have hSt := l1Str_mem g ao n cap f [⟨#[97]⟩, ⟨#[122]⟩, sm] w4.heap.size w4 rfl hn (by simp) (by simp) hCN.cur
              go_simp
              have hbL : Below w4.heap.size w4 (w4.alloc (.cells #[.string ⟨#[97]⟩, .string ⟨#[122]⟩, .string sm] 9)) := (Below.refl _ _).alloc (Nat.le_refl _) _
              refine hK.out _ _ trivial (fun hHeld => ?_)
              clear hK KK
              try simp only [Act.put, List.setIfInBounds_toArray, List.set_cons_zero, List.set_cons_succ]
              refine wpAnyH_ready (rs := [1, 6]) (by kernel_rfl) (by simp) ?_
              refine AllReadyH.cons rfl (fun KK hK => ?_) (AllReadyH.cons rfl (fun KK hK => ?_) AllReadyH.nil)
              ·
                have xl := (hX.below hbL).cells.2.1
                go_simp
                clear xl
                refine hK.out _ _ trivial (fun hHeld => ?_)
                clear hK KK
                try simp only [Act.put, List.setIfInBounds_toArray, List.set_cons_zero, List.set_cons_succ]
                refine wpAnyH_ready (rs := [6]) (by kernel_rfl) (by simp) ?_
                refine AllReadyH.cons rfl (fun KK hK => ?_) AllReadyH.nil
                go_simp
                refine hSt.mono ?_
                rintro e w8 ⟨z, rfl, hz, hCx, hBx⟩
                have hzs : z.size ≤ 100 := by
                  simp only [List.mem_cons, List.not_mem_nil, or_false] at hz
                  rcases hz with rfl | rfl | rfl <;> first | omega | decide
                replace hX := hX.butN hBx (by omega)
                replace hRR := hRR.butN hBx (by omega)
                replace hRN := hRN.but hBx (by omega)
                replace hCN := hCN.next hCx hBx
                clear hCx hBx hSt hz hbL
                go_wp2_with fail
                refine hK.out _ _ trivial (fun hHeld => ?_)
                clear hK KK
                try simp only [Act.put, List.setIfInBounds_toArray, List.set_cons_zero, List.set_cons_succ]
                refine wpAnyH_ready (rs := [7]) (by kernel_rfl) (by simp) ?_
                refine AllReadyH.cons rfl (fun KK hK => ?_) AllReadyH.nil
                go_simp
                have hbO : Below w8.heap.size w8 (w8.alloc (.cells #[.string z] 9)) := (Below.refl _ _).alloc (Nat.le_refl _) _
                have hcl := cellNew w8 (.string z) 9
                replace hX := hX.below hbO
                replace hRR := hRR.below hbO
                replace hRN := hRN.below hbO
                replace hCN := hCN.below hbO
                clear hbO
                refine hK.out _ _ trivial (fun hHeld => ?_)
                clear hK KK
                try simp only [Act.put, List.setIfInBounds_toArray, List.set_cons_zero, List.set_cons_succ]
                obtain ⟨w9, hw9⟩ : ∃ x, Hid ((w8.alloc (.cells #[.string z] 9)) = x) := ⟨_, rfl⟩
                obtain ⟨g9, hg9⟩ : ∃ x, Hid (w8.heap.size = x) := ⟨_, rfl⟩
                rw [hw9.out, hg9.out] at hcl
                rw [hw9.out] at hX hRR hRN hCN ⊢
                try rw [hg9.out]
                refine wpAnyH_ready (rs := [8]) (by kernel_rfl) (by simp) ?_
                refine AllReadyH.cons rfl (fun KK hK => ?_) AllReadyH.nil
                rw [if_pos (by kernel_rfl)]
                have hnl : L.ks.length ≤ 50 := hSm.nk
                refine wp_append_own _ (.tmp 17) (.tmp 23) 24 rfl WA.heap.size 9 i0 (.string ⟨#[]⟩) 1 16 Try.underlying24 hi hz0 hz1 hz2 rfl (by decide) (.slice ka L.ks.length kc) (L.ks.length) (txc L.ks) rfl hRN.k ⟨g9, 0, none⟩ 1 1 [.string z] rfl rfl hcl (oneS _) (by unfold maxLen; omega) (by omega) ((Nat.le_trans hRN.b2w.1 hRN.b2w.2)) ?_
                intro v6 wa hOa hgra hnila
                obtain ⟨qa, qc, eq⟩ := own_form hOa
                subst eq
                replace hCN := hCN.grown hgra (fun j e => by have := (own_blkN hRN.k e).1; have := hRN.b2w.1; omega)
                have hXa := hX.grownN hgra (own_neV hRN.k hX (by decide))
                have hRa := hRR.grownN hgra (own_neV hRN.k hRR (by decide))
                have hGe : GeB w.heap.size _ _ _ := hRN.ge (Nat.le_of_lt hsz)
                have hGn : ∀ j, (Value.slice qa (L.ks.length + 1) qc).ownBlock = some j → w.heap.size ≤ j := fun j e => by have := (own_blkN hOa e).1; have := hRN.b2w.1; omega
                have hV3 := (hRN.moreK hgra hOa).1
                clear hX hRR hRN hOa hgra hnila hcl
                refine hK.out _ _ trivial (fun hHeld => ?_)
                clear hK KK
                change wpAnyH _ _ _ _ _ _ _ (Act.put _ (some 24) _) _
                try simp only [Act.put, List.setIfInBounds_toArray, List.set_cons_zero, List.set_cons_succ]
                refine' wpAnyH_take (i := 9) (v := _) rfl (by kernel_rfl) (by kernel_rfl) (by kernel_rfl) (fun _ _ _ h => h) (Or.inl ⟨by kernel_rfl, ?hna6⟩) (by assumption) ?rna6
                case hna6 => intro W hW; go_simp; all_goals with_reducible rfl
                change wpAnyH _ _ _ _ _ _ _ (Act.put _ (some 25) _) _
                simp only [Act.put, List.setIfInBounds_toArray, List.set_cons_zero, List.set_cons_succ]
                refine wpAnyH_ready (rs := [10]) (by kernel_rfl) (by simp) ?_
                refine AllReadyH.cons rfl (fun KK hK => ?_) AllReadyH.nil
                obtain ⟨y0, y1, y2, y3⟩ := hXa.cells
                obtain ⟨f0, f1, f2, f3⟩ := hXa.fz
                go_simp
                have HS : Hid (SB w g ao n cap f X (wa.setCell ⟨X, 1, none⟩ (.slice qa (L.ks.length + 1) qc))) := ⟨{ L with ks := L.ks ++ [z] }, _, _, _, hXa.set1 (.slice qa (L.ks.length + 1) qc), hRa.other (C := X) (i := 1) (u := (.slice qa (L.ks.length + 1) qc)) (by omega), hV3.setN (i := 1) (u := (.slice qa (L.ks.length + 1) qc)) hXa cell4_no, hSm.addK hzs, hCN.set (X := X) (by omega) 1 (.slice qa (L.ks.length + 1) qc), ⟨hGn, hGe.2.1, hGe.2.2⟩⟩
                clear y0 y1 y2 y3 f0 f1 f2 f3 hXa hRa hV3 hCN hGe hGn
                refine hK.out _ _ trivial (fun hHeld => ?_)
                clear hK KK
                try simp only [Act.put, List.setIfInBounds_toArray, List.set_cons_zero, List.set_cons_succ]
                refine wpAnyH_done (by kernel_rfl) ?_ _
                go_wp2_with fail
                go_meet
                exact HS.out
              ·
                go_simp
                refine hSt.mono ?_
                rintro e w8 ⟨z, rfl, hz, hCx, hBx⟩
                have hzs : z.size ≤ 100 := by
                  simp only [List.mem_cons, List.not_mem_nil, or_false] at hz
                  rcases hz with rfl | rfl | rfl <;> first | omega | decide
                replace hX := hX.butN hBx (by omega)
                replace hRR := hRR.butN hBx (by omega)
                replace hRN := hRN.but hBx (by omega)
                replace hCN := hCN.next hCx hBx
                clear hCx hBx hSt hz hbL
                go_wp2_with fail
                refine hK.out _ _ trivial (fun hHeld => ?_)
                clear hK KK
                try simp only [Act.put, List.setIfInBounds_toArray, List.set_cons_zero, List.set_cons_succ]
                refine wpAnyH_ready (rs := [1, 7]) (by kernel_rfl) (by simp) ?_
                refine AllReadyH.cons rfl (fun KK hK => ?_) (AllReadyH.cons rfl (fun KK hK => ?_) AllReadyH.nil)
                ·
                  have xl := hX.cells.2.1
                  go_simp
                  clear xl
                  refine hK.out _ _ trivial (fun hHeld => ?_)
                  clear hK KK
                  try simp only [Act.put, List.setIfInBounds_toArray, List.set_cons_zero, List.set_cons_succ]
                  refine wpAnyH_ready (rs := [7]) (by kernel_rfl) (by simp) ?_
                  refine AllReadyH.cons rfl (fun KK hK => ?_) AllReadyH.nil
                  go_simp
                  have hbO : Below w8.heap.size w8 (w8.alloc (.cells #[.string z] 9)) := (Below.refl _ _).alloc (Nat.le_refl _) _
                  have hcl := cellNew w8 (.string z) 9
                  replace hX := hX.below hbO
                  replace hRR := hRR.below hbO
                  replace hRN := hRN.below hbO
                  replace hCN := hCN.below hbO
                  clear hbO
                  refine hK.out _ _ trivial (fun hHeld => ?_)
                  clear hK KK
                  try simp only [Act.put, List.setIfInBounds_toArray, List.set_cons_zero, List.set_cons_succ]
                  obtain ⟨w9, hw9⟩ : ∃ x, Hid ((w8.alloc (.cells #[.string z] 9)) = x) := ⟨_, rfl⟩
                  obtain ⟨g9, hg9⟩ : ∃ x, Hid (w8.heap.size = x) := ⟨_, rfl⟩
                  rw [hw9.out, hg9.out] at hcl
                  rw [hw9.out] at hX hRR hRN hCN ⊢
                  try rw [hg9.out]
                  refine wpAnyH_ready (rs := [8]) (by kernel_rfl) (by simp) ?_
                  refine AllReadyH.cons rfl (fun KK hK => ?_) AllReadyH.nil
                  rw [if_pos (by kernel_rfl)]
                  have hnl : L.ks.length ≤ 50 := hSm.nk
                  refine wp_append_own _ (.tmp 17) (.tmp 23) 24 rfl WA.heap.size 9 i0 (.string ⟨#[]⟩) 1 16 Try.underlying24 hi hz0 hz1 hz2 rfl (by decide) (.slice ka L.ks.length kc) (L.ks.length) (txc L.ks) rfl hRN.k ⟨g9, 0, none⟩ 1 1 [.string z] rfl rfl hcl (oneS _) (by unfold maxLen; omega) (by omega) ((Nat.le_trans hRN.b2w.1 hRN.b2w.2)) ?_
                  intro v6 wa hOa hgra hnila
                  obtain ⟨qa, qc, eq⟩ := own_form hOa
                  subst eq
                  replace hCN := hCN.grown hgra (fun j e => by have := (own_blkN hRN.k e).1; have := hRN.b2w.1; omega)
                  have hXa := hX.grownN hgra (own_neV hRN.k hX (by decide))
                  have hRa := hRR.grownN hgra (own_neV hRN.k hRR (by decide))
                  have hGe : GeB w.heap.size _ _ _ := hRN.ge (Nat.le_of_lt hsz)
                  have hGn : ∀ j, (Value.slice qa (L.ks.length + 1) qc).ownBlock = some j → w.heap.size ≤ j := fun j e => by have := (own_blkN hOa e).1; have := hRN.b2w.1; omega
                  have hV3 := (hRN.moreK hgra hOa).1
                  clear hX hRR hRN hOa hgra hnila hcl
                  refine hK.out _ _ trivial (fun hHeld => ?_)
                  clear hK KK
                  change wpAnyH _ _ _ _ _ _ _ (Act.put _ (some 24) _) _
                  try simp only [Act.put, List.setIfInBounds_toArray, List.set_cons_zero, List.set_cons_succ]
                  refine' wpAnyH_take (i := 9) (v := _) rfl (by kernel_rfl) (by kernel_rfl) (by kernel_rfl) (fun _ _ _ h => h) (Or.inl ⟨by kernel_rfl, ?hna7⟩) (by assumption) ?rna7
                  case hna7 => intro W hW; go_simp; all_goals with_reducible rfl
                  change wpAnyH _ _ _ _ _ _ _ (Act.put _ (some 25) _) _
                  simp only [Act.put, List.setIfInBounds_toArray, List.set_cons_zero, List.set_cons_succ]
                  refine wpAnyH_ready (rs := [10]) (by kernel_rfl) (by simp) ?_
                  refine AllReadyH.cons rfl (fun KK hK => ?_) AllReadyH.nil
                  obtain ⟨y0, y1, y2, y3⟩ := hXa.cells
                  obtain ⟨f0, f1, f2, f3⟩ := hXa.fz
                  go_simp
                  have HS : Hid (SB w g ao n cap f X (wa.setCell ⟨X, 1, none⟩ (.slice qa (L.ks.length + 1) qc))) := ⟨{ L with ks := L.ks ++ [z] }, _, _, _, hXa.set1 (.slice qa (L.ks.length + 1) qc), hRa.other (C := X) (i := 1) (u := (.slice qa (L.ks.length + 1) qc)) (by omega), hV3.setN (i := 1) (u := (.slice qa (L.ks.length + 1) qc)) hXa cell4_no, hSm.addK hzs, hCN.set (X := X) (by omega) 1 (.slice qa (L.ks.length + 1) qc), ⟨hGn, hGe.2.1, hGe.2.2⟩⟩
                  clear y0 y1 y2 y3 f0 f1 f2 f3 hXa hRa hV3 hCN hGe hGn
                  refine hK.out _ _ trivial (fun hHeld => ?_)
                  clear hK KK
                  try simp only [Act.put, List.setIfInBounds_toArray, List.set_cons_zero, List.set_cons_succ]
                  refine wpAnyH_done (by kernel_rfl) ?_ _
                  go_wp2_with fail
                  go_meet
                  exact HS.out
                ·
                  go_simp
                  have hbO : Below w8.heap.size w8 (w8.alloc (.cells #[.string z] 9)) := (Below.refl _ _).alloc (Nat.le_refl _) _
                  have hcl := cellNew w8 (.string z) 9
                  replace hX := hX.below hbO
                  replace hRR := hRR.below hbO
                  replace hRN := hRN.below hbO
                  replace hCN := hCN.below hbO
                  clear hbO
                  refine hK.out _ _ trivial (fun hHeld => ?_)
                  clear hK KK
                  try simp only [Act.put, List.setIfInBounds_toArray, List.set_cons_zero, List.set_cons_succ]
                  obtain ⟨w9, hw9⟩ : ∃ x, Hid ((w8.alloc (.cells #[.string z] 9)) = x) := ⟨_, rfl⟩
                  obtain ⟨g9, hg9⟩ : ∃ x, Hid (w8.heap.size = x) := ⟨_, rfl⟩
                  rw [hw9.out, hg9.out] at hcl
                  rw [hw9.out] at hX hRR hRN hCN ⊢
                  try rw [hg9.out]
                  refine wpAnyH_ready (rs := [1]) (by kernel_rfl) (by simp) ?_
                  refine AllReadyH.cons rfl (fun KK hK => ?_) AllReadyH.nil
                  have xl := hX.cells.2.1
                  go_simp
                  clear xl
                  refine hK.out _ _ trivial (fun hHeld => ?_)
                  clear hK KK
                  try simp only [Act.put, List.setIfInBounds_toArray, List.set_cons_zero, List.set_cons_succ]
                  refine wpAnyH_ready (rs := [8]) (by kernel_rfl) (by simp) ?_
                  refine AllReadyH.cons rfl (fun KK hK => ?_) AllReadyH.nil
                  rw [if_pos (by kernel_rfl)]
                  have hnl : L.ks.length ≤ 50 := hSm.nk
                  refine wp_append_own _ (.tmp 17) (.tmp 23) 24 rfl WA.heap.size 9 i0 (.string ⟨#[]⟩) 1 16 Try.underlying24 hi hz0 hz1 hz2 rfl (by decide) (.slice ka L.ks.length kc) (L.ks.length) (txc L.ks) rfl hRN.k ⟨g9, 0, none⟩ 1 1 [.string z] rfl rfl hcl (oneS _) (by unfold maxLen; omega) (by omega) ((Nat.le_trans hRN.b2w.1 hRN.b2w.2)) ?_
                  intro v6 wa hOa hgra hnila
                  obtain ⟨qa, qc, eq⟩ := own_form hOa
                  subst eq
                  replace hCN := hCN.grown hgra (fun j e => by have := (own_blkN hRN.k e).1; have := hRN.b2w.1; omega)
                  have hXa := hX.grownN hgra (own_neV hRN.k hX (by decide))
                  have hRa := hRR.grownN hgra (own_neV hRN.k hRR (by decide))
                  have hGe : GeB w.heap.size _ _ _ := hRN.ge (Nat.le_of_lt hsz)
                  have hGn : ∀ j, (Value.slice qa (L.ks.length + 1) qc).ownBlock = some j → w.heap.size ≤ j := fun j e => by have := (own_blkN hOa e).1; have := hRN.b2w.1; omega
                  have hV3 := (hRN.moreK hgra hOa).1
                  clear hX hRR hRN hOa hgra hnila hcl
                  refine hK.out _ _ trivial (fun hHeld => ?_)
                  clear hK KK
                  change wpAnyH _ _ _ _ _ _ _ (Act.put _ (some 24) _) _
                  try simp only [Act.put, List.setIfInBounds_toArray, List.set_cons_zero, List.set_cons_succ]
                  refine' wpAnyH_take (i := 9) (v := _) rfl (by kernel_rfl) (by kernel_rfl) (by kernel_rfl) (fun _ _ _ h => h) (Or.inl ⟨by kernel_rfl, ?hna8⟩) (by assumption) ?rna8
                  case hna8 => intro W hW; go_simp; all_goals with_reducible rfl
                  change wpAnyH _ _ _ _ _ _ _ (Act.put _ (some 25) _) _
                  simp only [Act.put, List.setIfInBounds_toArray, List.set_cons_zero, List.set_cons_succ]
                  refine wpAnyH_ready (rs := [10]) (by kernel_rfl) (by simp) ?_
                  refine AllReadyH.cons rfl (fun KK hK => ?_) AllReadyH.nil
                  obtain ⟨y0, y1, y2, y3⟩ := hXa.cells
                  obtain ⟨f0, f1, f2, f3⟩ := hXa.fz
                  go_simp
                  have HS : Hid (SB w g ao n cap f X (wa.setCell ⟨X, 1, none⟩ (.slice qa (L.ks.length + 1) qc))) := ⟨{ L with ks := L.ks ++ [z] }, _, _, _, hXa.set1 (.slice qa (L.ks.length + 1) qc), hRa.other (C := X) (i := 1) (u := (.slice qa (L.ks.length + 1) qc)) (by omega), hV3.setN (i := 1) (u := (.slice qa (L.ks.length + 1) qc)) hXa cell4_no, hSm.addK hzs, hCN.set (X := X) (by omega) 1 (.slice qa (L.ks.length + 1) qc), ⟨hGn, hGe.2.1, hGe.2.2⟩⟩
                  clear y0 y1 y2 y3 f0 f1 f2 f3 hXa hRa hV3 hCN hGe hGn
                  refine hK.out _ _ trivial (fun hHeld => ?_)
                  clear hK KK
                  try simp only [Act.put, List.setIfInBounds_toArray, List.set_cons_zero, List.set_cons_succ]
                  refine wpAnyH_done (by kernel_rfl) ?_ _
                  go_wp2_with fail
                  go_meet
                  exact HS.out
    by_cases t2 : t = 2
    · subst t2
      go_wp2_with fail
      as_aux_lemma =>
        refine wp_region_held_drew (S := fun _ => True) (by kernel_rfl) trivial (fun hHeld => ?_)
        have hbd : Below w3.heap.size w3 w3.drew := (Below.refl _ _).drew
        replace hX := hX.below hbd
        replace hRR := hRR.below hbd
        replace hRN := hRN.below hbd
        replace hCN := hCN.below hbd
        clear hbd
        obtain ⟨wd, hwd⟩ : ∃ x, Hid (w3.drew = x) := ⟨_, rfl⟩
        rw [hwd.out] at hX hRR hRN hCN ⊢
        clear hwd
        refine' wpAnyH_take (i := 0) (v := _) rfl (by kernel_rfl) (by kernel_rfl) (by kernel_rfl) (fun _ _ _ h => h) (Or.inl ⟨by kernel_rfl, ?hnb1⟩) (by assumption) ?rnb1
        case hnb1 => intro W hW; go_simp; all_goals with_reducible rfl
        change wpAnyH _ _ _ _ _ _ _ (Act.put _ (some 28) _) _
        simp only [Act.put, List.setIfInBounds_toArray, List.set_cons_zero, List.set_cons_succ]
        refine' wpAnyH_take (i := 2) (v := _) rfl (by kernel_rfl) (by kernel_rfl) (by kernel_rfl) (fun _ _ _ h => h) (Or.inl ⟨by kernel_rfl, ?hnb2⟩) (by assumption) ?rnb2
        case hnb2 => intro W hW; go_simp; all_goals with_reducible rfl
        change wpAnyH _ _ _ _ _ _ _ (Act.put _ (some 30) _) _
        simp only [Act.put, List.setIfInBounds_toArray, List.set_cons_zero, List.set_cons_succ]
        refine wpAnyH_ready (rs := [1, 3]) (by kernel_rfl) (by simp) ?_
        refine AllReadyH.cons rfl (fun KK hK => ?_) (AllReadyH.cons rfl (fun KK hK => ?_) AllReadyH.nil)
        ·
          have xl := hX.cells.2.2.1
          go_simp
          clear xl
          refine hK.out _ _ trivial (fun hHeld => ?_)
          clear hK KK
          try simp only [Act.put, List.setIfInBounds_toArray, List.set_cons_zero, List.set_cons_succ]
          refine wpAnyH_ready (rs := [3]) (by kernel_rfl) (by simp) ?_
          refine AllReadyH.cons rfl (fun KK hK => ?_) AllReadyH.nil
          go_simp
          have hbM : Below wd.heap.size wd (wd.alloc (.cells (madeCells #[.int .u8 0] 61) 5)) := (Below.refl _ _).alloc (Nat.le_refl _) _
          have hrm := World.rowIs_made wd (.int .u8 0) 61 5
          replace hX := hX.below hbM
          replace hRR := hRR.below hbM
          replace hRN := hRN.below hbM
          replace hCN := hCN.below hbM
          clear hbM
          refine hK.out _ _ trivial (fun hHeld => ?_)
          clear hK KK
          try simp only [Act.put, List.setIfInBounds_toArray, List.set_cons_zero, List.set_cons_succ]
          obtain ⟨w4, hw4⟩ : ∃ x, Hid ((wd.alloc (.cells (madeCells #[.int .u8 0] 61) 5)) = x) := ⟨_, rfl⟩
          obtain ⟨g4, hg4⟩ : ∃ x, Hid (wd.heap.size = x) := ⟨_, rfl⟩
          rw [hw4.out, hg4.out] at hrm
          rw [hw4.out] at hX hRR hRN hCN ⊢
          try rw [hg4.out]
          have hcv := conv_view (View.ofRow (f := fun _ => 0) hrm (Nat.le_refl _) (Nat.le_refl _) (fun _ _ => by omega))
          obtain ⟨sm, hsm⟩ : ∃ x, Hid (strOfNums (lof 61 (fun _ => 0)) = x) := ⟨_, rfl⟩
          have hsz9 : sm.size = 61 := by rw [← hsm.out, str_len, lof_len]
          rw [hsm.out] at hcv
          clear hrm hsm
          refine wpAnyH_ready (rs := [4]) (by kernel_rfl) (by simp) ?_
          refine AllReadyH.cons rfl (fun KK hK => ?_) AllReadyH.nil
          go_simp
          clear hcv
          refine hK.out _ _ trivial (fun hHeld => ?_)
          clear hK KK
          try simp only [Act.put, List.setIfInBounds_toArray, List.set_cons_zero, List.set_cons_succ]
          refine wpAnyH_ready (rs := [5]) (by kernel_rfl) (by simp) ?_
          refine AllReadyH.cons rfl (fun KK hK => ?_) AllReadyH.nil
          have hSt := l1Str_mem g ao n cap f [⟨#[118]⟩, sm] w4.heap.size w4 rfl hn (by simp) (by simp) hCN.cur
          go_simp
          have hbL : Below w4.heap.size w4 (w4.alloc (.cells #[.string ⟨#[118]⟩, .string sm] 9)) := (Below.refl _ _).alloc (Nat.le_refl _) _
          refine hK.out _ _ trivial (fun hHeld => ?_)
          clear hK KK
          try simp only [Act.put, List.setIfInBounds_toArray, List.set_cons_zero, List.set_cons_succ]
          refine wpAnyH_ready (rs := [6]) (by kernel_rfl) (by simp) ?_
          refine AllReadyH.cons rfl (fun KK hK => ?_) AllReadyH.nil
          go_simp
          refine hSt.mono ?_
          rintro e w8 ⟨z, rfl, hz, hCx, hBx⟩
          have hzs : z.size ≤ 100 := by
            simp only [List.mem_cons, List.not_mem_nil, or_false] at hz
            rcases hz with rfl | rfl <;> first | omega | decide
          replace hX := hX.butN hBx (by omega)
          replace hRR := hRR.butN hBx (by omega)
          replace hRN := hRN.but hBx (by omega)
          replace hCN := hCN.next hCx hBx
          clear hCx hBx hSt hz hbL
          go_wp2_with fail
          refine hK.out _ _ trivial (fun hHeld => ?_)
          clear hK KK
          try simp only [Act.put, List.setIfInBounds_toArray, List.set_cons_zero, List.set_cons_succ]
          refine wpAnyH_ready (rs := [7]) (by kernel_rfl) (by simp) ?_
          refine AllReadyH.cons rfl (fun KK hK => ?_) AllReadyH.nil
          go_simp
          have hbO : Below w8.heap.size w8 (w8.alloc (.cells #[.string z] 9)) := (Below.refl _ _).alloc (Nat.le_refl _) _
          have hcl := cellNew w8 (.string z) 9
          replace hX := hX.below hbO
          replace hRR := hRR.below hbO
          replace hRN := hRN.below hbO
          replace hCN := hCN.below hbO
          clear hbO
          refine hK.out _ _ trivial (fun hHeld => ?_)
          clear hK KK
          try simp only [Act.put, List.setIfInBounds_toArray, List.set_cons_zero, List.set_cons_succ]
          obtain ⟨w9, hw9⟩ : ∃ x, Hid ((w8.alloc (.cells #[.string z] 9)) = x) := ⟨_, rfl⟩
          obtain ⟨g9, hg9⟩ : ∃ x, Hid (w8.heap.size = x) := ⟨_, rfl⟩
          rw [hw9.out, hg9.out] at hcl
          rw [hw9.out] at hX hRR hRN hCN ⊢
          try rw [hg9.out]
          refine wpAnyH_ready (rs := [8]) (by kernel_rfl) (by simp) ?_
          refine AllReadyH.cons rfl (fun KK hK => ?_) AllReadyH.nil
          rw [if_pos (by kernel_rfl)]
          have hnl : L.vs.length ≤ 50 := hSm.nv
          refine wp_append_own _ (.tmp 29) (.tmp 35) 24 rfl b2 9 i0 (.string ⟨#[]⟩) 1 16 Try.underlying24 hi hz0 hz1 hz2 rfl (by decide) (.slice va L.vs.length vc) (L.vs.length) (txc L.vs) rfl hRN.v ⟨g9, 0, none⟩ 1 1 [.string z] rfl rfl hcl (oneS _) (by unfold maxLen; omega) (by omega) (hRN.b2w.2) ?_
          intro v6 wa hOa hgra hnila
          obtain ⟨qa, qc, eq⟩ := own_form hOa
          subst eq
          replace hCN := hCN.grown hgra (fun j e => by have := (own_blkN hRN.v e).1; have := hRN.b2w.1; omega)
          have hXa := hX.grownN hgra (own_neV hRN.v hX (by decide))
          have hRa := hRR.grownN hgra (own_neV hRN.v hRR (by decide))
          have hGe : GeB w.heap.size _ _ _ := hRN.ge (Nat.le_of_lt hsz)
          have hGn : ∀ j, (Value.slice qa (L.vs.length + 1) qc).ownBlock = some j → w.heap.size ≤ j := fun j e => by have := (own_blkN hOa e).1; have := hRN.b2w.1; omega
          have hV3 := (hRN.addV hgra hOa).rv
          clear hX hRR hRN hOa hgra hnila hcl
          refine hK.out _ _ trivial (fun hHeld => ?_)
          clear hK KK
          change wpAnyH _ _ _ _ _ _ _ (Act.put _ (some 36) _) _
          try simp only [Act.put, List.setIfInBounds_toArray, List.set_cons_zero, List.set_cons_succ]
          refine' wpAnyH_take (i := 9) (v := _) rfl (by kernel_rfl) (by kernel_rfl) (by kernel_rfl) (fun _ _ _ h => h) (Or.inl ⟨by kernel_rfl, ?hnb3⟩) (by assumption) ?rnb3
          case hnb3 => intro W hW; go_simp; all_goals with_reducible rfl
          change wpAnyH _ _ _ _ _ _ _ (Act.put _ (some 37) _) _
          simp only [Act.put, List.setIfInBounds_toArray, List.set_cons_zero, List.set_cons_succ]
          refine wpAnyH_ready (rs := [10]) (by kernel_rfl) (by simp) ?_
          refine AllReadyH.cons rfl (fun KK hK => ?_) AllReadyH.nil
          obtain ⟨y0, y1, y2, y3⟩ := hXa.cells
          obtain ⟨f0, f1, f2, f3⟩ := hXa.fz
          go_simp
          have HS : Hid (SB w g ao n cap f X (wa.setCell ⟨X, 2, none⟩ (.slice qa (L.vs.length + 1) qc))) := ⟨{ L with vs := L.vs ++ [z] }, _, _, _, hXa.set2 (.slice qa (L.vs.length + 1) qc), hRa.other (C := X) (i := 2) (u := (.slice qa (L.vs.length + 1) qc)) (by omega), hV3.setN (i := 2) (u := (.slice qa (L.vs.length + 1) qc)) hXa cell4_no, hSm.addV hzs, hCN.set (X := X) (by omega) 2 (.slice qa (L.vs.length + 1) qc), ⟨hGe.1, hGn, hGe.2.2⟩⟩
          clear y0 y1 y2 y3 f0 f1 f2 f3 hXa hRa hV3 hCN hGe hGn
          refine hK.out _ _ trivial (fun hHeld => ?_)
          clear hK KK
          try simp only [Act.put, List.setIfInBounds_toArray, List.set_cons_zero, List.set_cons_succ]
          refine wpAnyH_done (by kernel_rfl) ?_ _
          go_wp2_with fail
          go_meet
          exact HS.out
        ·
          go_simp
          have hbM : Below wd.heap.size wd (wd.alloc (.cells (madeCells #[.int .u8 0] 61) 5)) := (Below.refl _ _).alloc (Nat.le_refl _) _
          have hrm := World.rowIs_made wd (.int .u8 0) 61 5
          replace hX := hX.below hbM
          replace hRR := hRR.below hbM
          replace hRN := hRN.below hbM
          replace hCN := hCN.below hbM
          clear hbM
          refine hK.out _ _ trivial (fun hHeld => ?_)
          clear hK KK
          try simp only [Act.put, List.setIfInBounds_toArray, List.set_cons_zero, List.set_cons_succ]
          obtain ⟨w4, hw4⟩ : ∃ x, Hid ((wd.alloc (.cells (madeCells #[.int .u8 0] 61) 5)) = x) := ⟨_, rfl⟩
          obtain ⟨g4, hg4⟩ : ∃ x, Hid (wd.heap.size = x) := ⟨_, rfl⟩
          rw [hw4.out, hg4.out] at hrm
          rw [hw4.out] at hX hRR hRN hCN ⊢
          try rw [hg4.out]
          have hcv := conv_view (View.ofRow (f := fun _ => 0) hrm (Nat.le_refl _) (Nat.le_refl _) (fun _ _ => by omega))
          obtain ⟨sm, hsm⟩ : ∃ x, Hid (strOfNums (lof 61 (fun _ => 0)) = x) := ⟨_, rfl⟩
          have hsz9 : sm.size = 61 := by rw [← hsm.out, str_len, lof_len]
          rw [hsm.out] at hcv
          clear hrm hsm
          refine wpAnyH_ready (rs := [1, 4]) (by kernel_rfl) (by simp) ?_
          refine AllReadyH.cons rfl (fun KK hK => ?_) (AllReadyH.cons rfl (fun KK hK => ?_) AllReadyH.nil)
          ·
            have xl := hX.cells.2.2.1
            go_simp
            clear xl
            refine hK.out _ _ trivial (fun hHeld => ?_)
            clear hK KK
            try simp only [Act.put, List.setIfInBounds_toArray, List.set_cons_zero, List.set_cons_succ]
            refine wpAnyH_ready (rs := [4]) (by kernel_rfl) (by simp) ?_
            refine AllReadyH.cons rfl (fun KK hK => ?_) AllReadyH.nil
            go_simp
            clear hcv
            refine hK.out _ _ trivial (fun hHeld => ?_)
            clear hK KK
            try simp only [Act.put, List.setIfInBounds_toArray, List.set_cons_zero, List.set_cons_succ]
            refine wpAnyH_ready (rs := [5]) (by kernel_rfl) (by simp) ?_
            refine AllReadyH.cons rfl (fun KK hK => ?_) AllReadyH.nil
            have hSt := l1Str_mem g ao n cap f [⟨#[118]⟩, sm] w4.heap.size w4 rfl hn (by simp) (by simp) hCN.cur
            go_simp
            have hbL : Below w4.heap.size w4 (w4.alloc (.cells #[.string ⟨#[118]⟩, .string sm] 9)) := (Below.refl _ _).alloc (Nat.le_refl _) _
            refine hK.out _ _ trivial (fun hHeld => ?_)
            clear hK KK
            try simp only [Act.put, List.setIfInBounds_toArray, List.set_cons_zero, List.set_cons_succ]
            refine wpAnyH_ready (rs := [6]) (by kernel_rfl) (by simp) ?_
            refine AllReadyH.cons rfl (fun KK hK => ?_) AllReadyH.nil
            go_simp
            refine hSt.mono ?_
            rintro e w8 ⟨z, rfl, hz, hCx, hBx⟩
            have hzs : z.size ≤ 100 := by
              simp only [List.mem_cons, List.not_mem_nil, or_false] at hz
              rcases hz with rfl | rfl <;> first | omega | decide
            replace hX := hX.butN hBx (by omega)
            replace hRR := hRR.butN hBx (by omega)
            replace hRN := hRN.but hBx (by omega)
            replace hCN := hCN.next hCx hBx
            clear hCx hBx hSt hz hbL
            go_wp2_with fail
            refine hK.out _ _ trivial (fun hHeld => ?_)
            clear hK KK
            try simp only [Act.put, List.setIfInBounds_toArray, List.set_cons_zero, List.set_cons_succ]
            refine wpAnyH_ready (rs := [7]) (by kernel_rfl) (by simp) ?_
            refine AllReadyH.cons rfl (fun KK hK => ?_) AllReadyH.nil
            go_simp
            have hbO : Below w8.heap.size w8 (w8.alloc (.cells #[.string z] 9)) := (Below.refl _ _).alloc (Nat.le_refl _) _
            have hcl := cellNew w8 (.string z) 9
            replace hX := hX.below hbO
            replace hRR := hRR.below hbO
            replace hRN := hRN.below hbO
            replace hCN := hCN.below hbO
            clear hbO
            refine hK.out _ _ trivial (fun hHeld => ?_)
            clear hK KK
            try simp only [Act.put, List.setIfInBounds_toArray, List.set_cons_zero, List.set_cons_succ]
            obtain ⟨w9, hw9⟩ : ∃ x, Hid ((w8.alloc (.cells #[.string z] 9)) = x) := ⟨_, rfl⟩
            obtain ⟨g9, hg9⟩ : ∃ x, Hid (w8.heap.size = x) := ⟨_, rfl⟩
            rw [hw9.out, hg9.out] at hcl
            rw [hw9.out] at hX hRR hRN hCN ⊢
            try rw [hg9.out]
            refine wpAnyH_ready (rs := [8]) (by kernel_rfl) (by simp) ?_
            refine AllReadyH.cons rfl (fun KK hK => ?_) AllReadyH.nil
            rw [if_pos (by kernel_rfl)]
            have hnl : L.vs.length ≤ 50 := hSm.nv
            refine wp_append_own _ (.tmp 29) (.tmp 35) 24 rfl b2 9 i0 (.string ⟨#[]⟩) 1 16 Try.underlying24 hi hz0 hz1 hz2 rfl (by decide) (.slice va L.vs.length vc) (L.vs.length) (txc L.vs) rfl hRN.v ⟨g9, 0, none⟩ 1 1 [.string z] rfl rfl hcl (oneS _) (by unfold maxLen; omega) (by omega) (hRN.b2w.2) ?_
            intro v6 wa hOa hgra hnila
            obtain ⟨qa, qc, eq⟩ := own_form hOa
            subst eq
            replace hCN := hCN.grown hgra (fun j e => by have := (own_blkN hRN.v e).1; have := hRN.b2w.1; omega)
            have hXa := hX.grownN hgra (own_neV hRN.v hX (by decide))
            have hRa := hRR.grownN hgra (own_neV hRN.v hRR (by decide))
            have hGe : GeB w.heap.size _ _ _ := hRN.ge (Nat.le_of_lt hsz)
            have hGn : ∀ j, (Value.slice qa (L.vs.length + 1) qc).ownBlock = some j → w.heap.size ≤ j := fun j e => by have := (own_blkN hOa e).1; have := hRN.b2w.1; omega
            have hV3 := (hRN.addV hgra hOa).rv
            clear hX hRR hRN hOa hgra hnila hcl
            refine hK.out _ _ trivial (fun hHeld => ?_)
            clear hK KK
            change wpAnyH _ _ _ _ _ _ _ (Act.put _ (some 36) _) _
            try simp only [Act.put, List.setIfInBounds_toArray, List.set_cons_zero, List.set_cons_succ]
            refine' wpAnyH_take (i := 9) (v := _) rfl (by kernel_rfl) (by kernel_rfl) (by kernel_rfl) (fun _ _ _ h => h) (Or.inl ⟨by kernel_rfl, ?hnb4⟩) (by assumption) ?rnb4
            case hnb4 => intro W hW; go_simp; all_goals with_reducible rfl
            change wpAnyH _ _ _ _ _ _ _ (Act.put _ (some 37) _) _
            simp only [Act.put, List.setIfInBounds_toArray, List.set_cons_zero, List.set_cons_succ]
            refine wpAnyH_ready (rs := [10]) (by kernel_rfl) (by simp) ?_
            refine AllReadyH.cons rfl (fun KK hK => ?_) AllReadyH.nil
            obtain ⟨y0, y1, y2, y3⟩ := hXa.cells
            obtain ⟨f0, f1, f2, f3⟩ := hXa.fz
            go_simp
            have HS : Hid (SB w g ao n cap f X (wa.setCell ⟨X, 2, none⟩ (.slice qa (L.vs.length + 1) qc))) := ⟨{ L with vs := L.vs ++ [z] }, _, _, _, hXa.set2 (.slice qa (L.vs.length + 1) qc), hRa.other (C := X) (i := 2) (u := (.slice qa (L.vs.length + 1) qc)) (by omega), hV3.setN (i := 2) (u := (.slice qa (L.vs.length + 1) qc)) hXa cell4_no, hSm.addV hzs, hCN.set (X := X) (by omega) 2 (.slice qa (L.vs.length + 1) qc), ⟨hGe.1, hGn, hGe.2.2⟩⟩
            clear y0 y1 y2 y3 f0 f1 f2 f3 hXa hRa hV3 hCN hGe hGn
            refine hK.out _ _ trivial (fun hHeld => ?_)
            clear hK KK
            try simp only [Act.put, List.setIfInBounds_toArray, List.set_cons_zero, List.set_cons_succ]
            refine wpAnyH_done (by kernel_rfl) ?_ _
            go_wp2_with fail
            go_meet
            exact HS.out
          ·
            go_simp
            clear hcv
            refine hK.out _ _ trivial (fun hHeld => ?_)
            clear hK KK
            try simp only [Act.put, List.setIfInBounds_toArray, List.set_cons_zero, List.set_cons_succ]
            refine wpAnyH_ready (rs := [1, 5]) (by kernel_rfl) (by simp) ?_
            refine AllReadyH.cons rfl (fun KK hK => ?_) (AllReadyH.cons rfl (fun KK hK => ?_) AllReadyH.nil)
            ·
              have xl := hX.cells.2.2.1
              go_simp
              clear xl
              refine hK.out _ _ trivial (fun hHeld => ?_)
              clear hK KK
              try simp only [Act.put, List.setIfInBounds_toArray, List.set_cons_zero, List.set_cons_succ]
              refine wpAnyH_ready (rs := [5]) (by kernel_rfl) (by simp) ?_
              refine AllReadyH.cons rfl (fun KK hK => ?_) AllReadyH.nil
              have hSt := l1Str_mem g ao n cap f [⟨#[118]⟩, sm] w4.heap.size w4 rfl hn (by simp) (by simp) hCN.cur
              go_simp
              have hbL : Below w4.heap.size w4 (w4.alloc (.cells #[.string ⟨#[118]⟩, .string sm] 9)) := (Below.refl _ _).alloc (Nat.le_refl _) _
              refine hK.out _ _ trivial (fun hHeld => ?_)
              clear hK KK
              try simp only [Act.put, List.setIfInBounds_toArray, List.set_cons_zero, List.set_cons_succ]
              refine wpAnyH_ready (rs := [6]) (by kernel_rfl) (by simp) ?_
              refine AllReadyH.cons rfl (fun KK hK => ?_) AllReadyH.nil
              go_simp
              refine hSt.mono ?_
              rintro e w8 ⟨z, rfl, hz, hCx, hBx⟩
              have hzs : z.size ≤ 100 := by
                simp only [List.mem_cons, List.not_mem_nil, or_false] at hz
                rcases hz with rfl | rfl <;> first | omega | decide
              replace hX := hX.butN hBx (by omega)
              replace hRR := hRR.butN hBx (by omega)
              replace hRN := hRN.but hBx (by omega)
              replace hCN := hCN.next hCx hBx
              clear hCx hBx hSt hz hbL
              go_wp2_with fail
              refine hK.out _ _ trivial (fun hHeld => ?_)
              clear hK KK
              try simp only [Act.put, List.setIfInBounds_toArray, List.set_cons_zero, List.set_cons_succ]
              refine wpAnyH_ready (rs := [7]) (by kernel_rfl) (by simp) ?_
              refine AllReadyH.cons rfl (fun KK hK => ?_) AllReadyH.nil
              go_simp
              have hbO : Below w8.heap.size w8 (w8.alloc (.cells #[.string z] 9)) := (Below.refl _ _).alloc (Nat.le_refl _) _
              have hcl := cellNew w8 (.string z) 9
              replace hX := hX.below hbO
              replace hRR := hRR.below hbO
              replace hRN := hRN.below hbO
              replace hCN := hCN.below hbO
              clear hbO
              refine hK.out _ _ trivial (fun hHeld => ?_)
              clear hK KK
              try simp only [Act.put, List.setIfInBounds_toArray, List.set_cons_zero, List.set_cons_succ]
              obtain ⟨w9, hw9⟩ : ∃ x, Hid ((w8.alloc (.cells #[.string z] 9)) = x) := ⟨_, rfl⟩
              obtain ⟨g9, hg9⟩ : ∃ x, Hid (w8.heap.size = x) := ⟨_, rfl⟩
              rw [hw9.out, hg9.out] at hcl
              rw [hw9.out] at hX hRR hRN hCN ⊢
              try rw [hg9.out]
              refine wpAnyH_ready (rs := [8]) (by kernel_rfl) (by simp) ?_
              refine AllReadyH.cons rfl (fun KK hK => ?_) AllReadyH.nil
              rw [if_pos (by kernel_rfl)]
              have hnl : L.vs.length ≤ 50 := hSm.nv
              refine wp_append_own _ (.tmp 29) (.tmp 35) 24 rfl b2 9 i0 (.string ⟨#[]⟩) 1 16 Try.underlying24 hi hz0 hz1 hz2 rfl (by decide) (.slice va L.vs.length vc) (L.vs.length) (txc L.vs) rfl hRN.v ⟨g9, 0, none⟩ 1 1 [.string z] rfl rfl hcl (oneS _) (by unfold maxLen; omega) (by omega) (hRN.b2w.2) ?_
              intro v6 wa hOa hgra hnila
              obtain ⟨qa, qc, eq⟩ := own_form hOa
              subst eq
              replace hCN := hCN.grown hgra (fun j e => by have := (own_blkN hRN.v e).1; have := hRN.b2w.1; omega)
              have hXa := hX.grownN hgra (own_neV hRN.v hX (by decide))
              have hRa := hRR.grownN hgra (own_neV hRN.v hRR (by decide))
              have hGe : GeB w.heap.size _ _ _ := hRN.ge (Nat.le_of_lt hsz)
              have hGn : ∀ j, (Value.slice qa (L.vs.length + 1) qc).ownBlock = some j → w.heap.size ≤ j := fun j e => by have := (own_blkN hOa e).1; have := hRN.b2w.1; omega
              have hV3 := (hRN.addV hgra hOa).rv
              clear hX hRR hRN hOa hgra hnila hcl
              refine hK.out _ _ trivial (fun hHeld => ?_)
              clear hK KK
              change wpAnyH _ _ _ _ _ _ _ (Act.put _ (some 36) _) _
              try simp only [Act.put, List.setIfInBounds_toArray, List.set_cons_zero, List.set_cons_succ]
              refine' wpAnyH_take (i := 9) (v := _) rfl (by kernel_rfl) (by kernel_rfl) (by kernel_rfl) (fun _ _ _ h => h) (Or.inl ⟨by kernel_rfl, ?hnb5⟩) (by assumption) ?rnb5
              case hnb5 => intro W hW; go_simp; all_goals with_reducible rfl
              change wpAnyH _ _ _ _ _ _ _ (Act.put _ (some 37) _) _
              simp only [Act.put, List.setIfInBounds_toArray, List.set_cons_zero, List.set_cons_succ]
              refine wpAnyH_ready (rs := [10]) (by kernel_rfl) (by simp) ?_
              refine AllReadyH.cons rfl (fun KK hK => ?_) AllReadyH.nil
              obtain ⟨y0, y1, y2, y3⟩ := hXa.cells
              obtain ⟨f0, f1, f2, f3⟩ := hXa.fz
              go_simp
              have HS : Hid (SB w g ao n cap f X (wa.setCell ⟨X, 2, none⟩ (.slice qa (L.vs.length + 1) qc))) := ⟨{ L with vs := L.vs ++ [z] }, _, _, _, hXa.set2 (.slice qa (L.vs.length + 1) qc), hRa.other (C := X) (i := 2) (u := (.slice qa (L.vs.length + 1) qc)) (by omega), hV3.setN (i := 2) (u := (.slice qa (L.vs.length + 1) qc)) hXa cell4_no, hSm.addV hzs, hCN.set (X := X) (by omega) 2 (.slice qa (L.vs.length + 1) qc), ⟨hGe.1, hGn, hGe.2.2⟩⟩
              clear y0 y1 y2 y3 f0 f1 f2 f3 hXa hRa hV3 hCN hGe hGn
              refine hK.out _ _ trivial (fun hHeld => ?_)
              clear hK KK
              try simp only [Act.put, List.setIfInBounds_toArray, List.set_cons_zero, List.set_cons_succ]
              refine wpAnyH_done (by kernel_rfl) ?_ _
              go_wp2_with fail
              go_meet
              exact HS.out
            ·
              have hSt := l1Str_mem g ao n cap f [⟨#[118]⟩, sm] w4.heap.size w4 rfl hn (by simp) (by simp) hCN.cur
              go_simp
              have hbL : Below w4.heap.size w4 (w4.alloc (.cells #[.string ⟨#[118]⟩, .string sm] 9)) := (Below.refl _ _).alloc (Nat.le_refl _) _
              refine hK.out _ _ trivial (fun hHeld => ?_)
              clear hK KK
              try simp only [Act.put, List.setIfInBounds_toArray, List.set_cons_zero, List.set_cons_succ]
              refine wpAnyH_ready (rs := [1, 6]) (by kernel_rfl) (by simp) ?_
              refine AllReadyH.cons rfl (fun KK hK => ?_) (AllReadyH.cons rfl (fun KK hK => ?_) AllReadyH.nil)
              ·
                have xl := (hX.below hbL).cells.2.2.1
                go_simp
                clear xl
                refine hK.out _ _ trivial (fun hHeld => ?_)
                clear hK KK
                try simp only [Act.put, List.setIfInBounds_toArray, List.set_cons_zero, List.set_cons_succ]
                refine wpAnyH_ready (rs := [6]) (by kernel_rfl) (by simp) ?_
                refine AllReadyH.cons rfl (fun KK hK => ?_) AllReadyH.nil
                go_simp
                refine hSt.mono ?_
                rintro e w8 ⟨z, rfl, hz, hCx, hBx⟩
                have hzs : z.size ≤ 100 := by
                  simp only [List.mem_cons, List.not_mem_nil, or_false] at hz
                  rcases hz with rfl | rfl <;> first | omega | decide
                replace hX := hX.butN hBx (by omega)
                replace hRR := hRR.butN hBx (by omega)
                replace hRN := hRN.but hBx (by omega)
                replace hCN := hCN.next hCx hBx
                clear hCx hBx hSt hz hbL
                go_wp2_with fail
                refine hK.out _ _ trivial (fun hHeld => ?_)
                clear hK KK
                try simp only [Act.put, List.setIfInBounds_toArray, List.set_cons_zero, List.set_cons_succ]
                refine wpAnyH_ready (rs := [7]) (by kernel_rfl) (by simp) ?_
                refine AllReadyH.cons rfl (fun KK hK => ?_) AllReadyH.nil
                go_simp
                have hbO : Below w8.heap.size w8 (w8.alloc (.cells #[.string z] 9)) := (Below.refl _ _).alloc (Nat.le_refl _) _
                have hcl := cellNew w8 (.string z) 9
                replace hX := hX.below hbO
                replace hRR := hRR.below hbO
                replace hRN := hRN.below hbO
                replace hCN := hCN.below hbO
                clear hbO
                refine hK.out _ _ trivial (fun hHeld => ?_)
                clear hK KK
                try simp only [Act.put, List.setIfInBounds_toArray, List.set_cons_zero, List.set_cons_succ]
                obtain ⟨w9, hw9⟩ : ∃ x, Hid ((w8.alloc (.cells #[.string z] 9)) = x) := ⟨_, rfl⟩
                obtain ⟨g9, hg9⟩ : ∃ x, Hid (w8.heap.size = x) := ⟨_, rfl⟩
                rw [hw9.out, hg9.out] at hcl
                rw [hw9.out] at hX hRR hRN hCN ⊢
                try rw [hg9.out]
                refine wpAnyH_ready (rs := [8]) (by kernel_rfl) (by simp) ?_
                refine AllReadyH.cons rfl (fun KK hK => ?_) AllReadyH.nil
                rw [if_pos (by kernel_rfl)]
                have hnl : L.vs.length ≤ 50 := hSm.nv
                refine wp_append_own _ (.tmp 29) (.tmp 35) 24 rfl b2 9 i0 (.string ⟨#[]⟩) 1 16 Try.underlying24 hi hz0 hz1 hz2 rfl (by decide) (.slice va L.vs.length vc) (L.vs.length) (txc L.vs) rfl hRN.v ⟨g9, 0, none⟩ 1 1 [.string z] rfl rfl hcl (oneS _) (by unfold maxLen; omega) (by omega) (hRN.b2w.2) ?_
                intro v6 wa hOa hgra hnila
                obtain ⟨qa, qc, eq⟩ := own_form hOa
                subst eq
                replace hCN := hCN.grown hgra (fun j e => by have := (own_blkN hRN.v e).1; have := hRN.b2w.1; omega)
                have hXa := hX.grownN hgra (own_neV hRN.v hX (by decide))
                have hRa := hRR.grownN hgra (own_neV hRN.v hRR (by decide))
                have hGe : GeB w.heap.size _ _ _ := hRN.ge (Nat.le_of_lt hsz)
                have hGn : ∀ j, (Value.slice qa (L.vs.length + 1) qc).ownBlock = some j → w.heap.size ≤ j := fun j e => by have := (own_blkN hOa e).1; have := hRN.b2w.1; omega
                have hV3 := (hRN.addV hgra hOa).rv
                clear hX hRR hRN hOa hgra hnila hcl
                refine hK.out _ _ trivial (fun hHeld => ?_)
                clear hK KK
                change wpAnyH _ _ _ _ _ _ _ (Act.put _ (some 36) _) _
                try simp only [Act.put, List.setIfInBounds_toArray, List.set_cons_zero, List.set_cons_succ]
                refine' wpAnyH_take (i := 9) (v := _) rfl (by kernel_rfl) (by kernel_rfl) (by kernel_rfl) (fun _ _ _ h => h) (Or.inl ⟨by kernel_rfl, ?hnb6⟩) (by assumption) ?rnb6
                case hnb6 => intro W hW; go_simp; all_goals with_reducible rfl
                change wpAnyH _ _ _ _ _ _ _ (Act.put _ (some 37) _) _
                simp only [Act.put, List.setIfInBounds_toArray, List.set_cons_zero, List.set_cons_succ]
                refine wpAnyH_ready (rs := [10]) (by kernel_rfl) (by simp) ?_
                refine AllReadyH.cons rfl (fun KK hK => ?_) AllReadyH.nil
                obtain ⟨y0, y1, y2, y3⟩ := hXa.cells
                obtain ⟨f0, f1, f2, f3⟩ := hXa.fz
                go_simp
                have HS : Hid (SB w g ao n cap f X (wa.setCell ⟨X, 2, none⟩ (.slice qa (L.vs.length + 1) qc))) := ⟨{ L with vs := L.vs ++ [z] }, _, _, _, hXa.set2 (.slice qa (L.vs.length + 1) qc), hRa.other (C := X) (i := 2) (u := (.slice qa (L.vs.length + 1) qc)) (by omega), hV3.setN (i := 2) (u := (.slice qa (L.vs.length + 1) qc)) hXa cell4_no, hSm.addV hzs, hCN.set (X := X) (by omega) 2 (.slice qa (L.vs.length + 1) qc), ⟨hGe.1, hGn, hGe.2.2⟩⟩
                clear y0 y1 y2 y3 f0 f1 f2 f3 hXa hRa hV3 hCN hGe hGn
                refine hK.out _ _ trivial (fun hHeld => ?_)
                clear hK KK
                try simp only [Act.put, List.setIfInBounds_toArray, List.set_cons_zero, List.set_cons_succ]
                refine wpAnyH_done (by kernel_rfl) ?_ _
                go_wp2_with fail
                go_meet
                exact HS.out
              ·
                go_simp
                refine hSt.mono ?_
                rintro e w8 ⟨z, rfl, hz, hCx, hBx⟩
                have hzs : z.size ≤ 100 := by
                  simp only [List.mem_cons, List.not_mem_nil, or_false] at hz
                  rcases hz with rfl | rfl <;> first | omega | decide
                replace hX := hX.butN hBx (by omega)
                replace hRR := hRR.butN hBx (by omega)
                replace hRN := hRN.but hBx (by omega)
                replace hCN := hCN.next hCx hBx
                clear hCx hBx hSt hz hbL
                go_wp2_with fail
                refine hK.out _ _ trivial (fun hHeld => ?_)
                clear hK KK
                try simp only [Act.put, List.setIfInBounds_toArray, List.set_cons_zero, List.set_cons_succ]
                refine wpAnyH_ready (rs := [1, 7]) (by kernel_rfl) (by simp) ?_
                refine AllReadyH.cons rfl (fun KK hK => ?_) (AllReadyH.cons rfl (fun KK hK => ?_) AllReadyH.nil)
                ·
                  have xl := hX.cells.2.2.1
                  go_simp
                  clear xl
                  refine hK.out _ _ trivial (fun hHeld => ?_)
                  clear hK KK
                  try simp only [Act.put, List.setIfInBounds_toArray, List.set_cons_zero, List.set_cons_succ]
                  refine wpAnyH_ready (rs := [7]) (by kernel_rfl) (by simp) ?_
                  refine AllReadyH.cons rfl (fun KK hK => ?_) AllReadyH.nil
                  go_simp
                  have hbO : Below w8.heap.size w8 (w8.alloc (.cells #[.string z] 9)) := (Below.refl _ _).alloc (Nat.le_refl _) _
                  have hcl := cellNew w8 (.string z) 9
                  replace hX := hX.below hbO
                  replace hRR := hRR.below hbO
                  replace hRN := hRN.below hbO
                  replace hCN := hCN.below hbO
                  clear hbO
                  refine hK.out _ _ trivial (fun hHeld => ?_)
                  clear hK KK
                  try simp only [Act.put, List.setIfInBounds_toArray, List.set_cons_zero, List.set_cons_succ]
                  obtain ⟨w9, hw9⟩ : ∃ x, Hid ((w8.alloc (.cells #[.string z] 9)) = x) := ⟨_, rfl⟩
                  obtain ⟨g9, hg9⟩ : ∃ x, Hid (w8.heap.size = x) := ⟨_, rfl⟩
                  rw [hw9.out, hg9.out] at hcl
                  rw [hw9.out] at hX hRR hRN hCN ⊢
                  try rw [hg9.out]
                  refine wpAnyH_ready (rs := [8]) (by kernel_rfl) (by simp) ?_
                  refine AllReadyH.cons rfl (fun KK hK => ?_) AllReadyH.nil
                  rw [if_pos (by kernel_rfl)]
                  have hnl : L.vs.length ≤ 50 := hSm.nv
                  refine wp_append_own _ (.tmp 29) (.tmp 35) 24 rfl b2 9 i0 (.string ⟨#[]⟩) 1 16 Try.underlying24 hi hz0 hz1 hz2 rfl (by decide) (.slice va L.vs.length vc) (L.vs.length) (txc L.vs) rfl hRN.v ⟨g9, 0, none⟩ 1 1 [.string z] rfl rfl hcl (oneS _) (by unfold maxLen; omega) (by omega) (hRN.b2w.2) ?_
                  intro v6 wa hOa hgra hnila
                  obtain ⟨qa, qc, eq⟩ := own_form hOa
                  subst eq
                  replace hCN := hCN.grown hgra (fun j e => by have := (own_blkN hRN.v e).1; have := hRN.b2w.1; omega)
                  have hXa := hX.grownN hgra (own_neV hRN.v hX (by decide))
                  have hRa := hRR.grownN hgra (own_neV hRN.v hRR (by decide))
                  have hGe : GeB w.heap.size _ _ _ := hRN.ge (Nat.le_of_lt hsz)
                  have hGn : ∀ j, (Value.slice qa (L.vs.length + 1) qc).ownBlock = some j → w.heap.size ≤ j := fun j e => by have := (own_blkN hOa e).1; have := hRN.b2w.1; omega
                  have hV3 := (hRN.addV hgra hOa).rv
                  clear hX hRR hRN hOa hgra hnila hcl
                  refine hK.out _ _ trivial (fun hHeld => ?_)
                  clear hK KK
                  change wpAnyH _ _ _ _ _ _ _ (Act.put _ (some 36) _) _
                  try simp only [Act.put, List.setIfInBounds_toArray, List.set_cons_zero, List.set_cons_succ]
                  refine' wpAnyH_take (i := 9) (v := _) rfl (by kernel_rfl) (by kernel_rfl) (by kernel_rfl) (fun _ _ _ h => h) (Or.inl ⟨by kernel_rfl, ?hnb7⟩) (by assumption) ?rnb7
                  case hnb7 => intro W hW; go_simp; all_goals with_reducible rfl
                  change wpAnyH _ _ _ _ _ _ _ (Act.put _ (some 37) _) _
                  simp only [Act.put, List.setIfInBounds_toArray, List.set_cons_zero, List.set_cons_succ]
                  refine wpAnyH_ready (rs := [10]) (by kernel_rfl) (by simp) ?_
                  refine AllReadyH.cons rfl (fun KK hK => ?_) AllReadyH.nil
                  obtain ⟨y0, y1, y2, y3⟩ := hXa.cells
                  obtain ⟨f0, f1, f2, f3⟩ := hXa.fz
                  go_simp
                  have HS : Hid (SB w g ao n cap f X (wa.setCell ⟨X, 2, none⟩ (.slice qa (L.vs.length + 1) qc))) := ⟨{ L with vs := L.vs ++ [z] }, _, _, _, hXa.set2 (.slice qa (L.vs.length + 1) qc), hRa.other (C := X) (i := 2) (u := (.slice qa (L.vs.length + 1) qc)) (by omega), hV3.setN (i := 2) (u := (.slice qa (L.vs.length + 1) qc)) hXa cell4_no, hSm.addV hzs, hCN.set (X := X) (by omega) 2 (.slice qa (L.vs.length + 1) qc), ⟨hGe.1, hGn, hGe.2.2⟩⟩
                  clear y0 y1 y2 y3 f0 f1 f2 f3 hXa hRa hV3 hCN hGe hGn
                  refine hK.out _ _ trivial (fun hHeld => ?_)
                  clear hK KK
                  try simp only [Act.put, List.setIfInBounds_toArray, List.set_cons_zero, List.set_cons_succ]
                  refine wpAnyH_done (by kernel_rfl) ?_ _
                  go_wp2_with fail
                  go_meet
                  exact HS.out
                ·
                  go_simp
                  have hbO : Below w8.heap.size w8 (w8.alloc (.cells #[.string z] 9)) := (Below.refl _ _).alloc (Nat.le_refl _) _
                  have hcl := cellNew w8 (.string z) 9
                  replace hX := hX.below hbO
                  replace hRR := hRR.below hbO
                  replace hRN := hRN.below hbO
                  replace hCN := hCN.below hbO
                  clear hbO
                  refine hK.out _ _ trivial (fun hHeld => ?_)
                  clear hK KK
                  try simp only [Act.put, List.setIfInBounds_toArray, List.set_cons_zero, List.set_cons_succ]
                  obtain ⟨w9, hw9⟩ : ∃ x, Hid ((w8.alloc (.cells #[.string z] 9)) = x) := ⟨_, rfl⟩
                  obtain ⟨g9, hg9⟩ : ∃ x, Hid (w8.heap.size = x) := ⟨_, rfl⟩
                  rw [hw9.out, hg9.out] at hcl
                  rw [hw9.out] at hX hRR hRN hCN ⊢
                  try rw [hg9.out]
                  refine wpAnyH_ready (rs := [1]) (by kernel_rfl) (by simp) ?_
                  refine AllReadyH.cons rfl (fun KK hK => ?_) AllReadyH.nil
                  have xl := hX.cells.2.2.1
                  go_simp
                  clear xl
                  refine hK.out _ _ trivial (fun hHeld => ?_)
                  clear hK KK
                  try simp only [Act.put, List.setIfInBounds_toArray, List.set_cons_zero, List.set_cons_succ]
                  refine wpAnyH_ready (rs := [8]) (by kernel_rfl) (by simp) ?_
                  refine AllReadyH.cons rfl (fun KK hK => ?_) AllReadyH.nil
                  rw [if_pos (by kernel_rfl)]
                  have hnl : L.vs.length ≤ 50 := hSm.nv
                  refine wp_append_own _ (.tmp 29) (.tmp 35) 24 rfl b2 9 i0 (.string ⟨#[]⟩) 1 16 Try.underlying24 hi hz0 hz1 hz2 rfl (by decide) (.slice va L.vs.length vc) (L.vs.length) (txc L.vs) rfl hRN.v ⟨g9, 0, none⟩ 1 1 [.string z] rfl rfl hcl (oneS _) (by unfold maxLen; omega) (by omega) (hRN.b2w.2) ?_
                  intro v6 wa hOa hgra hnila
                  obtain ⟨qa, qc, eq⟩ := own_form hOa
                  subst eq
                  replace hCN := hCN.grown hgra (fun j e => by have := (own_blkN hRN.v e).1; have := hRN.b2w.1; omega)
                  have hXa := hX.grownN hgra (own_neV hRN.v hX (by decide))
                  have hRa := hRR.grownN hgra (own_neV hRN.v hRR (by decide))
                  have hGe : GeB w.heap.size _ _ _ := hRN.ge (Nat.le_of_lt hsz)
                  have hGn : ∀ j, (Value.slice qa (L.vs.length + 1) qc).ownBlock = some j → w.heap.size ≤ j := fun j e => by have := (own_blkN hOa e).1; have := hRN.b2w.1; omega
                  have hV3 := (hRN.addV hgra hOa).rv
                  clear hX hRR hRN hOa hgra hnila hcl
                  refine hK.out _ _ trivial (fun hHeld => ?_)
                  clear hK KK
                  change wpAnyH _ _ _ _ _ _ _ (Act.put _ (some 36) _) _
                  try simp only [Act.put, List.setIfInBounds_toArray, List.set_cons_zero, List.set_cons_succ]
                  refine' wpAnyH_take (i := 9) (v := _) rfl (by kernel_rfl) (by kernel_rfl) (by kernel_rfl) (fun _ _ _ h => h) (Or.inl ⟨by kernel_rfl, ?hnb8⟩) (by assumption) ?rnb8
                  case hnb8 => intro W hW; go_simp; all_goals with_reducible rfl
                  change wpAnyH _ _ _ _ _ _ _ (Act.put _ (some 37) _) _
                  simp only [Act.put, List.setIfInBounds_toArray, List.set_cons_zero, List.set_cons_succ]
                  refine wpAnyH_ready (rs := [10]) (by kernel_rfl) (by simp) ?_
                  refine AllReadyH.cons rfl (fun KK hK => ?_) AllReadyH.nil
                  obtain ⟨y0, y1, y2, y3⟩ := hXa.cells
                  obtain ⟨f0, f1, f2, f3⟩ := hXa.fz
                  go_simp
                  have HS : Hid (SB w g ao n cap f X (wa.setCell ⟨X, 2, none⟩ (.slice qa (L.vs.length + 1) qc))) := ⟨{ L with vs := L.vs ++ [z] }, _, _, _, hXa.set2 (.slice qa (L.vs.length + 1) qc), hRa.other (C := X) (i := 2) (u := (.slice qa (L.vs.length + 1) qc)) (by omega), hV3.setN (i := 2) (u := (.slice qa (L.vs.length + 1) qc)) hXa cell4_no, hSm.addV hzs, hCN.set (X := X) (by omega) 2 (.slice qa (L.vs.length + 1) qc), ⟨hGe.1, hGn, hGe.2.2⟩⟩
                  clear y0 y1 y2 y3 f0 f1 f2 f3 hXa hRa hV3 hCN hGe hGn
                  refine hK.out _ _ trivial (fun hHeld => ?_)
                  clear hK KK
                  try simp only [Act.put, List.setIfInBounds_toArray, List.set_cons_zero, List.set_cons_succ]
                  refine wpAnyH_done (by kernel_rfl) ?_ _
                  go_wp2_with fail
                  go_meet
                  exact HS.out
    by_cases t3 : t = 3
    · subst t3
      go_wp2_with fail
      as_aux_lemma =>
        refine wp_region_held_drew (S := fun _ => True) (by kernel_rfl) trivial (fun hHeld => ?_)
        have hbd : Below w3.heap.size w3 w3.drew := (Below.refl _ _).drew
        replace hX := hX.below hbd
        replace hRR := hRR.below hbd
        replace hRN := hRN.below hbd
        replace hCN := hCN.below hbd
        clear hbd
        obtain ⟨wd, hwd⟩ : ∃ x, Hid (w3.drew = x) := ⟨_, rfl⟩
        rw [hwd.out] at hX hRR hRN hCN ⊢
        clear hwd
        refine' wpAnyH_take (i := 0) (v := _) rfl (by kernel_rfl) (by kernel_rfl) (by kernel_rfl) (fun _ _ _ h => h) (Or.inl ⟨by kernel_rfl, ?hnc1⟩) (by assumption) ?rnc1
        case hnc1 => intro W hW; go_simp; all_goals with_reducible rfl
        change wpAnyH _ _ _ _ _ _ _ (Act.put _ (some 40) _) _
        simp only [Act.put, List.setIfInBounds_toArray, List.set_cons_zero, List.set_cons_succ]
        refine' wpAnyH_take (i := 2) (v := _) rfl (by kernel_rfl) (by kernel_rfl) (by kernel_rfl) (fun _ _ _ h => h) (Or.inl ⟨by kernel_rfl, ?hnc2⟩) (by assumption) ?rnc2
        case hnc2 => intro W hW; go_simp; all_goals with_reducible rfl
        change wpAnyH _ _ _ _ _ _ _ (Act.put _ (some 42) _) _
        simp only [Act.put, List.setIfInBounds_toArray, List.set_cons_zero, List.set_cons_succ]
        refine wpAnyH_ready (rs := [1, 3]) (by kernel_rfl) (by simp) ?_
        refine AllReadyH.cons rfl (fun KK hK => ?_) (AllReadyH.cons rfl (fun KK hK => ?_) AllReadyH.nil)
        ·
          have xl := hX.cells.2.2.2
          go_simp
          clear xl
          refine hK.out _ _ trivial (fun hHeld => ?_)
          clear hK KK
          try simp only [Act.put, List.setIfInBounds_toArray, List.set_cons_zero, List.set_cons_succ]
          refine wpAnyH_ready (rs := [3]) (by kernel_rfl) (by simp) ?_
          refine AllReadyH.cons rfl (fun KK hK => ?_) AllReadyH.nil
          have hSt := l1Int_mem g ao n cap f [1, 2, 47, 48] wd.heap.size wd rfl hn (by simp) (by simp) hCN.cur
          go_simp
          have hbL : Below wd.heap.size wd (wd.alloc (.cells #[.int .i64 1, .int .i64 2, .int .i64 47, .int .i64 48] 3)) := (Below.refl _ _).alloc (Nat.le_refl _) _
          refine hK.out _ _ trivial (fun hHeld => ?_)
          clear hK KK
          try simp only [Act.put, List.setIfInBounds_toArray, List.set_cons_zero, List.set_cons_succ]
          refine wpAnyH_ready (rs := [4]) (by kernel_rfl) (by simp) ?_
          refine AllReadyH.cons rfl (fun KK hK => ?_) AllReadyH.nil
          go_simp
          refine hSt.mono ?_
          rintro e w8 ⟨z, rfl, hz, hCx, hBx⟩
          have hzs : -100 ≤ z ∧ z ≤ 100 := by simp at hz; omega
          replace hX := hX.butN hBx (by omega)
          replace hRR := hRR.butN hBx (by omega)
          replace hRN := hRN.but hBx (by omega)
          replace hCN := hCN.next hCx hBx
          clear hCx hBx hSt hz hbL
          go_wp2_with fail
          refine hK.out _ _ trivial (fun hHeld => ?_)
          clear hK KK
          try simp only [Act.put, List.setIfInBounds_toArray, List.set_cons_zero, List.set_cons_succ]
          refine wpAnyH_ready (rs := [5]) (by kernel_rfl) (by simp) ?_
          refine AllReadyH.cons rfl (fun KK hK => ?_) AllReadyH.nil
          go_simp
          have hbO : Below w8.heap.size w8 (w8.alloc (.cells #[.int .i64 z] 3)) := (Below.refl _ _).alloc (Nat.le_refl _) _
          have hcl := cellNew w8 (.int .i64 z) 3
          replace hX := hX.below hbO
          replace hRR := hRR.below hbO
          replace hRN := hRN.below hbO
          replace hCN := hCN.below hbO
          clear hbO
          refine hK.out _ _ trivial (fun hHeld => ?_)
          clear hK KK
          try simp only [Act.put, List.setIfInBounds_toArray, List.set_cons_zero, List.set_cons_succ]
          obtain ⟨w9, hw9⟩ : ∃ x, Hid ((w8.alloc (.cells #[.int .i64 z] 3)) = x) := ⟨_, rfl⟩
          obtain ⟨g9, hg9⟩ : ∃ x, Hid (w8.heap.size = x) := ⟨_, rfl⟩
          rw [hw9.out, hg9.out] at hcl
          rw [hw9.out] at hX hRR hRN hCN ⊢
          try rw [hg9.out]
          refine wpAnyH_ready (rs := [6]) (by kernel_rfl) (by simp) ?_
          refine AllReadyH.cons rfl (fun KK hK => ?_) AllReadyH.nil
          rw [if_pos (by kernel_rfl)]
          have hnl : L.ds.length ≤ 50 := hSm.nd
          refine wp_append_own _ (.tmp 41) (.tmp 45) 25 rfl WA.heap.size 3 j0 (.int .i64 0) 1 8 Try.underlying25 hj hy0 hy1 hy2 rfl (by decide) (.slice da L.ds.length dc) (L.ds.length) (nuc L.ds) rfl hRN.d ⟨g9, 0, none⟩ 1 1 [.int .i64 z] rfl rfl hcl (oneI _) (by unfold maxLen; omega) (by omega) ((Nat.le_trans hRN.b2w.1 hRN.b2w.2)) ?_
          intro v6 wa hOa hgra hnila
          obtain ⟨qa, qc, eq⟩ := own_form hOa
          subst eq
          replace hCN := hCN.grown hgra (fun j e => by have := (own_blkN hRN.d e).1; have := hRN.b2w.1; omega)
          have hXa := hX.grownN hgra (own_neV hRN.d hX (by decide))
          have hRa := hRR.grownN hgra (own_neV hRN.d hRR (by decide))
          have hGe : GeB w.heap.size _ _ _ := hRN.ge (Nat.le_of_lt hsz)
          have hGn : ∀ j, (Value.slice qa (L.ds.length + 1) qc).ownBlock = some j → w.heap.size ≤ j := fun j e => by have := (own_blkN hOa e).1; have := hRN.b2w.1; omega
          have hV3 := (hRN.addD hgra hOa).rv
          clear hX hRR hRN hOa hgra hnila hcl
          refine hK.out _ _ trivial (fun hHeld => ?_)
          clear hK KK
          change wpAnyH _ _ _ _ _ _ _ (Act.put _ (some 46) _) _
          try simp only [Act.put, List.setIfInBounds_toArray, List.set_cons_zero, List.set_cons_succ]
          refine' wpAnyH_take (i := 7) (v := _) rfl (by kernel_rfl) (by kernel_rfl) (by kernel_rfl) (fun _ _ _ h => h) (Or.inl ⟨by kernel_rfl, ?hnc3⟩) (by assumption) ?rnc3
          case hnc3 => intro W hW; go_simp; all_goals with_reducible rfl
          change wpAnyH _ _ _ _ _ _ _ (Act.put _ (some 47) _) _
          simp only [Act.put, List.setIfInBounds_toArray, List.set_cons_zero, List.set_cons_succ]
          refine wpAnyH_ready (rs := [8]) (by kernel_rfl) (by simp) ?_
          refine AllReadyH.cons rfl (fun KK hK => ?_) AllReadyH.nil
          obtain ⟨y0, y1, y2, y3⟩ := hXa.cells
          obtain ⟨f0, f1, f2, f3⟩ := hXa.fz
          go_simp
          have HS : Hid (SB w g ao n cap f X (wa.setCell ⟨X, 3, none⟩ (.slice qa (L.ds.length + 1) qc))) := ⟨{ L with ds := L.ds ++ [z] }, _, _, _, hXa.set3 (.slice qa (L.ds.length + 1) qc), hRa.other (C := X) (i := 3) (u := (.slice qa (L.ds.length + 1) qc)) (by omega), hV3.setN (i := 3) (u := (.slice qa (L.ds.length + 1) qc)) hXa cell4_no, hSm.addD hzs, hCN.set (X := X) (by omega) 3 (.slice qa (L.ds.length + 1) qc), ⟨hGe.1, hGe.2.1, hGn⟩⟩
          clear y0 y1 y2 y3 f0 f1 f2 f3 hXa hRa hV3 hCN hGe hGn
          refine hK.out _ _ trivial (fun hHeld => ?_)
          clear hK KK
          try simp only [Act.put, List.setIfInBounds_toArray, List.set_cons_zero, List.set_cons_succ]
          refine wpAnyH_done (by kernel_rfl) ?_ _
          go_wp2_with fail
          go_meet
          exact HS.out
        ·
          have hSt := l1Int_mem g ao n cap f [1, 2, 47, 48] wd.heap.size wd rfl hn (by simp) (by simp) hCN.cur
          go_simp
          have hbL : Below wd.heap.size wd (wd.alloc (.cells #[.int .i64 1, .int .i64 2, .int .i64 47, .int .i64 48] 3)) := (Below.refl _ _).alloc (Nat.le_refl _) _
          refine hK.out _ _ trivial (fun hHeld => ?_)
          clear hK KK
          try simp only [Act.put, List.setIfInBounds_toArray, List.set_cons_zero, List.set_cons_succ]
          refine wpAnyH_ready (rs := [1, 4]) (by kernel_rfl) (by simp) ?_
          refine AllReadyH.cons rfl (fun KK hK => ?_) (AllReadyH.cons rfl (fun KK hK => ?_) AllReadyH.nil)
          ·
            have xl := (hX.below hbL).cells.2.2.2
            go_simp
            clear xl
            refine hK.out _ _ trivial (fun hHeld => ?_)
            clear hK KK
            try simp only [Act.put, List.setIfInBounds_toArray, List.set_cons_zero, List.set_cons_succ]
            refine wpAnyH_ready (rs := [4]) (by kernel_rfl) (by simp) ?_
            refine AllReadyH.cons rfl (fun KK hK => ?_) AllReadyH.nil
            go_simp
            refine hSt.mono ?_
            rintro e w8 ⟨z, rfl, hz, hCx, hBx⟩
            have hzs : -100 ≤ z ∧ z ≤ 100 := by simp at hz; omega
            replace hX := hX.butN hBx (by omega)
            replace hRR := hRR.butN hBx (by omega)
            replace hRN := hRN.but hBx (by omega)
            replace hCN := hCN.next hCx hBx
            clear hCx hBx hSt hz hbL
            go_wp2_with fail
            refine hK.out _ _ trivial (fun hHeld => ?_)
            clear hK KK
            try simp only [Act.put, List.setIfInBounds_toArray, List.set_cons_zero, List.set_cons_succ]
            refine wpAnyH_ready (rs := [5]) (by kernel_rfl) (by simp) ?_
            refine AllReadyH.cons rfl (fun KK hK => ?_) AllReadyH.nil
            go_simp
            have hbO : Below w8.heap.size w8 (w8.alloc (.cells #[.int .i64 z] 3)) := (Below.refl _ _).alloc (Nat.le_refl _) _
            have hcl := cellNew w8 (.int .i64 z) 3
            replace hX := hX.below hbO
            replace hRR := hRR.below hbO
            replace hRN := hRN.below hbO
            replace hCN := hCN.below hbO
            clear hbO
            refine hK.out _ _ trivial (fun hHeld => ?_)
            clear hK KK
            try simp only [Act.put, List.setIfInBounds_toArray, List.set_cons_zero, List.set_cons_succ]
            obtain ⟨w9, hw9⟩ : ∃ x, Hid ((w8.alloc (.cells #[.int .i64 z] 3)) = x) := ⟨_, rfl⟩
            obtain ⟨g9, hg9⟩ : ∃ x, Hid (w8.heap.size = x) := ⟨_, rfl⟩
            rw [hw9.out, hg9.out] at hcl
            rw [hw9.out] at hX hRR hRN hCN ⊢
            try rw [hg9.out]
            refine wpAnyH_ready (rs := [6]) (by kernel_rfl) (by simp) ?_
            refine AllReadyH.cons rfl (fun KK hK => ?_) AllReadyH.nil
            rw [if_pos (by kernel_rfl)]
            have hnl : L.ds.length ≤ 50 := hSm.nd
            refine wp_append_own _ (.tmp 41) (.tmp 45) 25 rfl WA.heap.size 3 j0 (.int .i64 0) 1 8 Try.underlying25 hj hy0 hy1 hy2 rfl (by decide) (.slice da L.ds.length dc) (L.ds.length) (nuc L.ds) rfl hRN.d ⟨g9, 0, none⟩ 1 1 [.int .i64 z] rfl rfl hcl (oneI _) (by unfold maxLen; omega) (by omega) ((Nat.le_trans hRN.b2w.1 hRN.b2w.2)) ?_
            intro v6 wa hOa hgra hnila
            obtain ⟨qa, qc, eq⟩ := own_form hOa
            subst eq
            replace hCN := hCN.grown hgra (fun j e => by have := (own_blkN hRN.d e).1; have := hRN.b2w.1; omega)
            have hXa := hX.grownN hgra (own_neV hRN.d hX (by decide))
            have hRa := hRR.grownN hgra (own_neV hRN.d hRR (by decide))
            have hGe : GeB w.heap.size _ _ _ := hRN.ge (Nat.le_of_lt hsz)
            have hGn : ∀ j, (Value.slice qa (L.ds.length + 1) qc).ownBlock = some j → w.heap.size ≤ j := fun j e => by have := (own_blkN hOa e).1; have := hRN.b2w.1; omega
            have hV3 := (hRN.addD hgra hOa).rv
            clear hX hRR hRN hOa hgra hnila hcl
            refine hK.out _ _ trivial (fun hHeld => ?_)
            clear hK KK
            change wpAnyH _ _ _ _ _ _ _ (Act.put _ (some 46) _) _
            try simp only [Act.put, List.setIfInBounds_toArray, List.set_cons_zero, List.set_cons_succ]
            refine' wpAnyH_take (i := 7) (v := _) rfl (by kernel_rfl) (by kernel_rfl) (by kernel_rfl) (fun _ _ _ h => h) (Or.inl ⟨by kernel_rfl, ?hnc4⟩) (by assumption) ?rnc4
            case hnc4 => intro W hW; go_simp; all_goals with_reducible rfl
            change wpAnyH _ _ _ _ _ _ _ (Act.put _ (some 47) _) _
            simp only [Act.put, List.setIfInBounds_toArray, List.set_cons_zero, List.set_cons_succ]
            refine wpAnyH_ready (rs := [8]) (by kernel_rfl) (by simp) ?_
            refine AllReadyH.cons rfl (fun KK hK => ?_) AllReadyH.nil
            obtain ⟨y0, y1, y2, y3⟩ := hXa.cells
            obtain ⟨f0, f1, f2, f3⟩ := hXa.fz
            go_simp
            have HS : Hid (SB w g ao n cap f X (wa.setCell ⟨X, 3, none⟩ (.slice qa (L.ds.length + 1) qc))) := ⟨{ L with ds := L.ds ++ [z] }, _, _, _, hXa.set3 (.slice qa (L.ds.length + 1) qc), hRa.other (C := X) (i := 3) (u := (.slice qa (L.ds.length + 1) qc)) (by omega), hV3.setN (i := 3) (u := (.slice qa (L.ds.length + 1) qc)) hXa cell4_no, hSm.addD hzs, hCN.set (X := X) (by omega) 3 (.slice qa (L.ds.length + 1) qc), ⟨hGe.1, hGe.2.1, hGn⟩⟩
            clear y0 y1 y2 y3 f0 f1 f2 f3 hXa hRa hV3 hCN hGe hGn
            refine hK.out _ _ trivial (fun hHeld => ?_)
            clear hK KK
            try simp only [Act.put, List.setIfInBounds_toArray, List.set_cons_zero, List.set_cons_succ]
            refine wpAnyH_done (by kernel_rfl) ?_ _
            go_wp2_with fail
            go_meet
            exact HS.out
          ·
            go_simp
            refine hSt.mono ?_
            rintro e w8 ⟨z, rfl, hz, hCx, hBx⟩
            have hzs : -100 ≤ z ∧ z ≤ 100 := by simp at hz; omega
            replace hX := hX.butN hBx (by omega)
            replace hRR := hRR.butN hBx (by omega)
            replace hRN := hRN.but hBx (by omega)
            replace hCN := hCN.next hCx hBx
            clear hCx hBx hSt hz hbL
            go_wp2_with fail
            refine hK.out _ _ trivial (fun hHeld => ?_)
            clear hK KK
            try simp only [Act.put, List.setIfInBounds_toArray, List.set_cons_zero, List.set_cons_succ]
            refine wpAnyH_ready (rs := [1, 5]) (by kernel_rfl) (by simp) ?_
            refine AllReadyH.cons rfl (fun KK hK => ?_) (AllReadyH.cons rfl (fun KK hK => ?_) AllReadyH.nil)
            ·
              have xl := hX.cells.2.2.2
              go_simp
              clear xl
              refine hK.out _ _ trivial (fun hHeld => ?_)
              clear hK KK
              try simp only [Act.put, List.setIfInBounds_toArray, List.set_cons_zero, List.set_cons_succ]
              refine wpAnyH_ready (rs := [5]) (by kernel_rfl) (by simp) ?_
              refine AllReadyH.cons rfl (fun KK hK => ?_) AllReadyH.nil
              go_simp
              have hbO : Below w8.heap.size w8 (w8.alloc (.cells #[.int .i64 z] 3)) := (Below.refl _ _).alloc (Nat.le_refl _) _
              have hcl := cellNew w8 (.int .i64 z) 3
              replace hX := hX.below hbO
              replace hRR := hRR.below hbO
              replace hRN := hRN.below hbO
              replace hCN := hCN.below hbO
              clear hbO
              refine hK.out _ _ trivial (fun hHeld => ?_)
              clear hK KK
              try simp only [Act.put, List.setIfInBounds_toArray, List.set_cons_zero, List.set_cons_succ]
              obtain ⟨w9, hw9⟩ : ∃ x, Hid ((w8.alloc (.cells #[.int .i64 z] 3)) = x) := ⟨_, rfl⟩
              obtain ⟨g9, hg9⟩ : ∃ x, Hid (w8.heap.size = x) := ⟨_, rfl⟩
              rw [hw9.out, hg9.out] at hcl
              rw [hw9.out] at hX hRR hRN hCN ⊢
              try rw [hg9.out]
              refine wpAnyH_ready (rs := [6]) (by kernel_rfl) (by simp) ?_
              refine AllReadyH.cons rfl (fun KK hK => ?_) AllReadyH.nil
              rw [if_pos (by kernel_rfl)]
              have hnl : L.ds.length ≤ 50 := hSm.nd
              refine wp_append_own _ (.tmp 41) (.tmp 45) 25 rfl WA.heap.size 3 j0 (.int .i64 0) 1 8 Try.underlying25 hj hy0 hy1 hy2 rfl (by decide) (.slice da L.ds.length dc) (L.ds.length) (nuc L.ds) rfl hRN.d ⟨g9, 0, none⟩ 1 1 [.int .i64 z] rfl rfl hcl (oneI _) (by unfold maxLen; omega) (by omega) ((Nat.le_trans hRN.b2w.1 hRN.b2w.2)) ?_
              intro v6 wa hOa hgra hnila
              obtain ⟨qa, qc, eq⟩ := own_form hOa
              subst eq
              replace hCN := hCN.grown hgra (fun j e => by have := (own_blkN hRN.d e).1; have := hRN.b2w.1; omega)
              have hXa := hX.grownN hgra (own_neV hRN.d hX (by decide))
              have hRa := hRR.grownN hgra (own_neV hRN.d hRR (by decide))
              have hGe : GeB w.heap.size _ _ _ := hRN.ge (Nat.le_of_lt hsz)
              have hGn : ∀ j, (Value.slice qa (L.ds.length + 1) qc).ownBlock = some j → w.heap.size ≤ j := fun j e => by have := (own_blkN hOa e).1; have := hRN.b2w.1; omega
              have hV3 := (hRN.addD hgra hOa).rv
              clear hX hRR hRN hOa hgra hnila hcl
              refine hK.out _ _ trivial (fun hHeld => ?_)
              clear hK KK
              change wpAnyH _ _ _ _ _ _ _ (Act.put _ (some 46) _) _
              try simp only [Act.put, List.setIfInBounds_toArray, List.set_cons_zero, List.set_cons_succ]
              refine' wpAnyH_take (i := 7) (v := _) rfl (by kernel_rfl) (by kernel_rfl) (by kernel_rfl) (fun _ _ _ h => h) (Or.inl ⟨by kernel_rfl, ?hnc5⟩) (by assumption) ?rnc5
              case hnc5 => intro W hW; go_simp; all_goals with_reducible rfl
              change wpAnyH _ _ _ _ _ _ _ (Act.put _ (some 47) _) _
              simp only [Act.put, List.setIfInBounds_toArray, List.set_cons_zero, List.set_cons_succ]
              refine wpAnyH_ready (rs := [8]) (by kernel_rfl) (by simp) ?_
              refine AllReadyH.cons rfl (fun KK hK => ?_) AllReadyH.nil
              obtain ⟨y0, y1, y2, y3⟩ := hXa.cells
              obtain ⟨f0, f1, f2, f3⟩ := hXa.fz
              go_simp
              have HS : Hid (SB w g ao n cap f X (wa.setCell ⟨X, 3, none⟩ (.slice qa (L.ds.length + 1) qc))) := ⟨{ L with ds := L.ds ++ [z] }, _, _, _, hXa.set3 (.slice qa (L.ds.length + 1) qc), hRa.other (C := X) (i := 3) (u := (.slice qa (L.ds.length + 1) qc)) (by omega), hV3.setN (i := 3) (u := (.slice qa (L.ds.length + 1) qc)) hXa cell4_no, hSm.addD hzs, hCN.set (X := X) (by omega) 3 (.slice qa (L.ds.length + 1) qc), ⟨hGe.1, hGe.2.1, hGn⟩⟩
              clear y0 y1 y2 y3 f0 f1 f2 f3 hXa hRa hV3 hCN hGe hGn
              refine hK.out _ _ trivial (fun hHeld => ?_)
              clear hK KK
              try simp only [Act.put, List.setIfInBounds_toArray, List.set_cons_zero, List.set_cons_succ]
              refine wpAnyH_done (by kernel_rfl) ?_ _
              go_wp2_with fail
              go_meet
              exact HS.out
            ·
              go_simp
              have hbO : Below w8.heap.size w8 (w8.alloc (.cells #[.int .i64 z] 3)) := (Below.refl _ _).alloc (Nat.le_refl _) _
              have hcl := cellNew w8 (.int .i64 z) 3
              replace hX := hX.below hbO
              replace hRR := hRR.below hbO
              replace hRN := hRN.below hbO
              replace hCN := hCN.below hbO
              clear hbO
              refine hK.out _ _ trivial (fun hHeld => ?_)
              clear hK KK
              try simp only [Act.put, List.setIfInBounds_toArray, List.set_cons_zero, List.set_cons_succ]
              obtain ⟨w9, hw9⟩ : ∃ x, Hid ((w8.alloc (.cells #[.int .i64 z] 3)) = x) := ⟨_, rfl⟩
              obtain ⟨g9, hg9⟩ : ∃ x, Hid (w8.heap.size = x) := ⟨_, rfl⟩
              rw [hw9.out, hg9.out] at hcl
              rw [hw9.out] at hX hRR hRN hCN ⊢
              try rw [hg9.out]
              refine wpAnyH_ready (rs := [1]) (by kernel_rfl) (by simp) ?_
              refine AllReadyH.cons rfl (fun KK hK => ?_) AllReadyH.nil
              have xl := hX.cells.2.2.2
              go_simp
              clear xl
              refine hK.out _ _ trivial (fun hHeld => ?_)
              clear hK KK
              try simp only [Act.put, List.setIfInBounds_toArray, List.set_cons_zero, List.set_cons_succ]
              refine wpAnyH_ready (rs := [6]) (by kernel_rfl) (by simp) ?_
              refine AllReadyH.cons rfl (fun KK hK => ?_) AllReadyH.nil
              rw [if_pos (by kernel_rfl)]
              have hnl : L.ds.length ≤ 50 := hSm.nd
              refine wp_append_own _ (.tmp 41) (.tmp 45) 25 rfl WA.heap.size 3 j0 (.int .i64 0) 1 8 Try.underlying25 hj hy0 hy1 hy2 rfl (by decide) (.slice da L.ds.length dc) (L.ds.length) (nuc L.ds) rfl hRN.d ⟨g9, 0, none⟩ 1 1 [.int .i64 z] rfl rfl hcl (oneI _) (by unfold maxLen; omega) (by omega) ((Nat.le_trans hRN.b2w.1 hRN.b2w.2)) ?_
              intro v6 wa hOa hgra hnila
              obtain ⟨qa, qc, eq⟩ := own_form hOa
              subst eq
              replace hCN := hCN.grown hgra (fun j e => by have := (own_blkN hRN.d e).1; have := hRN.b2w.1; omega)
              have hXa := hX.grownN hgra (own_neV hRN.d hX (by decide))
              have hRa := hRR.grownN hgra (own_neV hRN.d hRR (by decide))
              have hGe : GeB w.heap.size _ _ _ := hRN.ge (Nat.le_of_lt hsz)
              have hGn : ∀ j, (Value.slice qa (L.ds.length + 1) qc).ownBlock = some j → w.heap.size ≤ j := fun j e => by have := (own_blkN hOa e).1; have := hRN.b2w.1; omega
              have hV3 := (hRN.addD hgra hOa).rv
              clear hX hRR hRN hOa hgra hnila hcl
              refine hK.out _ _ trivial (fun hHeld => ?_)
              clear hK KK
              change wpAnyH _ _ _ _ _ _ _ (Act.put _ (some 46) _) _
              try simp only [Act.put, List.setIfInBounds_toArray, List.set_cons_zero, List.set_cons_succ]
              refine' wpAnyH_take (i := 7) (v := _) rfl (by kernel_rfl) (by kernel_rfl) (by kernel_rfl) (fun _ _ _ h => h) (Or.inl ⟨by kernel_rfl, ?hnc6⟩) (by assumption) ?rnc6
              case hnc6 => intro W hW; go_simp; all_goals with_reducible rfl
              change wpAnyH _ _ _ _ _ _ _ (Act.put _ (some 47) _) _
              simp only [Act.put, List.setIfInBounds_toArray, List.set_cons_zero, List.set_cons_succ]
              refine wpAnyH_ready (rs := [8]) (by kernel_rfl) (by simp) ?_
              refine AllReadyH.cons rfl (fun KK hK => ?_) AllReadyH.nil
              obtain ⟨y0, y1, y2, y3⟩ := hXa.cells
              obtain ⟨f0, f1, f2, f3⟩ := hXa.fz
              go_simp
              have HS : Hid (SB w g ao n cap f X (wa.setCell ⟨X, 3, none⟩ (.slice qa (L.ds.length + 1) qc))) := ⟨{ L with ds := L.ds ++ [z] }, _, _, _, hXa.set3 (.slice qa (L.ds.length + 1) qc), hRa.other (C := X) (i := 3) (u := (.slice qa (L.ds.length + 1) qc)) (by omega), hV3.setN (i := 3) (u := (.slice qa (L.ds.length + 1) qc)) hXa cell4_no, hSm.addD hzs, hCN.set (X := X) (by omega) 3 (.slice qa (L.ds.length + 1) qc), ⟨hGe.1, hGe.2.1, hGn⟩⟩
              clear y0 y1 y2 y3 f0 f1 f2 f3 hXa hRa hV3 hCN hGe hGn
              refine hK.out _ _ trivial (fun hHeld => ?_)
              clear hK KK
              try simp only [Act.put, List.setIfInBounds_toArray, List.set_cons_zero, List.set_cons_succ]
              refine wpAnyH_done (by kernel_rfl) ?_ _
              go_wp2_with fail
              go_meet
              exact HS.out
    have HS : Hid (SB w g ao n cap f X w3) := ⟨L, _, _, _, hX, hRR, hRN.rv, hSm.more, hCN, hRN.ge (Nat.le_of_lt hsz)⟩
    clear hX hRR hRN hCN hmk49 hmk61
    go_wp2
    go_meet
    exact HS.out
  case rest =>
    clear hX hRR hRN hCN hSm hmk49 hmk61
    obtain ⟨L2, kv, vv, dv, hX, hRR, hV3, hS2, hCN, hG2⟩ := hcut
    obtain ⟨⟨ka2, kc2, ek, -⟩, ⟨va2, vc2, ev, -⟩, ⟨da2, dc2, ed, -⟩⟩ := id hV3
    subst ek ev ed
    obtain ⟨x0, x1, x2, x3⟩ := hX.cells
    obtain ⟨r0, r1, r2, r3⟩ := hRR.cells
    obtain ⟨z0, z1, z2, z3⟩ := hRR.fz
    have hRF := (((hRR.set0 (.bool L2.leaf)).set1 (.slice ka2 L2.ks.length kc2)).set2 (.slice va2 L2.vs.length vc2)).set3 (.slice da2 L2.ds.length dc2)
    obtain ⟨m0, m1, m2, m3⟩ := hRF.cells
    have hr1 := hV3.setN (i := 0) (u := .bool L2.leaf) hRR cell4_no
    have hr2 := hr1.setN (i := 1) (u := .slice ka2 L2.ks.length kc2) (hRR.set0 (.bool L2.leaf)) cell4_no
    have hr3 := hr2.setN (i := 2) (u := .slice va2 L2.vs.length vc2) ((hRR.set0 (.bool L2.leaf)).set1 (.slice ka2 L2.ks.length kc2)) cell4_no
    have hr4 := hr3.setN (i := 3) (u := .slice da2 L2.ds.length dc2) (((hRR.set0 (.bool L2.leaf)).set1 (.slice ka2 L2.ks.length kc2)).set2 (.slice va2 L2.vs.length vc2)) cell4_no
    have hc4 := (((hCN.set (Nat.le_refl _) 0 (.bool L2.leaf)).set (Nat.le_refl _) 1 (.slice ka2 L2.ks.length kc2)).set (Nat.le_refl _) 2 (.slice va2 L2.vs.length vc2)).set (Nat.le_refl _) 3 (.slice da2 L2.ds.length dc2)
    have HE : Hid (RV3 ((((wc.setCell ⟨w.heap.size, 0, none⟩ (.bool L2.leaf)).setCell ⟨w.heap.size, 1, none⟩ (.slice ka2 L2.ks.length kc2)).setCell ⟨w.heap.size, 2, none⟩ (.slice va2 L2.vs.length vc2)).setCell ⟨w.heap.size, 3, none⟩ (.slice da2 L2.ds.length dc2)) (.slice ka2 L2.ks.length kc2) (.slice va2 L2.vs.length vc2) (.slice da2 L2.ds.length dc2) L2 ∧ Small 100 L2 ∧ CN w g ao n cap f ((((wc.setCell ⟨w.heap.size, 0, none⟩ (.bool L2.leaf)).setCell ⟨w.heap.size, 1, none⟩ (.slice ka2 L2.ks.length kc2)).setCell ⟨w.heap.size, 2, none⟩ (.slice va2 L2.vs.length vc2)).setCell ⟨w.heap.size, 3, none⟩ (.slice da2 L2.ds.length dc2))) := ⟨hr4, hS2, hc4⟩
    have HG2 : Hid (GeB w.heap.size (.slice ka2 L2.ks.length kc2) (.slice va2 L2.vs.length vc2) (.slice da2 L2.ds.length dc2)) := hG2
    clear hG2 hX hRR hV3 hCN hRF hr1 hr2 hr3 hr4 hc4
    go_wp2
    refine bodyPost_ret (v := .agg #[.bool L2.leaf, .slice ka2 L2.ks.length kc2, .slice va2 L2.vs.length vc2, .slice da2 L2.ds.length dc2]) (by simp [results, Try.results29, go_sem, m0, m1, m2, m3]) rfl ⟨L2, _, _, _, rfl, HE.out.1, HE.out.2.1, HE.out.2.2, HG2.out⟩
end Go.Proofs.Ytaiinlcdfeboiaa

