/-
  LawGetPage
-/
import Derived.Test.YtphipmhibegbnaaPkA8
import Derived.Test.YtphipmhibegbnaaPkA5
/-
  The walk over the law FnExactGetPage, out of what its callees come to: it answers true and writes nothing that was there.
-/
namespace Go.Proofs.Ytphipmhibegbnaa
open Go.RowKit
set_option maxRecDepth 4000

def GivesPg (fn : Nat) (n : Nat) (f : Nat → Int) (K : Int) (N : Nat) (F : Nat → Int) (B : Bool) : Prop :=
  ∀ (b cap : Nat) (w : World), View w (some ⟨b, 0, none⟩) n cap f → Calls Try.prog fn #[.slice (some ⟨b, 0, none⟩) n cap] w fun e w' =>
    ∃ g c, e = .returned (.tuple #[.int .i64 K, .slice (some ⟨g, 0, none⟩) N c, .bool B]) ∧ w.heap.size ≤ g ∧ N ≤ c ∧ RowZ 5 w' g N F ∧ Below w.heap.size w w'
set_option maxHeartbeats 2000000 in
theorem lawFnExactGetPage (ao : Option Addr) (n cap : Nat) (f : Nat → Int) (K : Int) (N : Nat) (F : Nat → Int) (B : Bool) (w : World) (hv : View w ao n cap f)
    (h1 : n ≤ 1048576 → GivesPg 26 n f K N F B) (h2 : n ≤ 1048576 → GivesPg 27 n f K N F B) (hN : N ≤ 281474976710656) (hF : ∀ i, i < N → 0 ≤ F i ∧ F i ≤ 255) :
    Calls Try.prog 7 #[.slice ao n cap] w fun e w' => e = .returned (.bool true) ∧ Below w.heap.size w w' := by
  by_cases hbig0 : 1048576 < n
  · have hz : (1048576 : Int) < (n : Int) := by omega
    go_enter Try.func7, Try.ntmps7
    go_wp2
    go_ret
    exact ⟨rfl, Below.refl _ _⟩
  have hz0 : (n : Int) ≤ 1048576 := by omega
  have hKK : (K == K) = true := beq_self_eq_true _
  have h1 := h1 (by omega)
  have h2 := h2 (by omega)
  go_enter Try.func7, Try.ntmps7
  go_wp2_with fail
  refine (toByteS_any ao n cap f w hv (by omega)).mono ?_
  rintro e w1 ⟨rfl, hr1, hb1, -⟩
  go_wp2_with fail
  refine (h1 _ _ _ ((Row.ofIs hr1).view (Nat.le_refl _) hv.byte)).mono ?_
  rintro e w2 ⟨gw, cw, rfl, hgw, hcw, hw2, hb2⟩
  replace hb2 := hb1.trans (hb2.mono hb1.size)
  clear hr1 hb1 hgw h1
  go_wp2_with fail
  refine (toByteS_any ao n cap f w2 (hv.below hb2) (by omega)).mono ?_
  rintro e w3 ⟨rfl, hr3, hb3, -⟩
  have hx3 := Row.ofIs hr3
  have hlw := hw2.lt
  have hw3 := hw2.belowAll hb3
  have hs2 : w.heap.size ≤ w2.heap.size := hb2.size
  replace hb3 := hb2.trans (hb3.mono hb2.size)
  clear hr3 hw2 hb2
  go_wp2_with fail
  refine (h2 _ _ _ (hx3.view (Nat.le_refl _) hv.byte)).mono ?_
  rintro e w4 ⟨gg, cg, rfl, hgg, hcg, hg4, hb4⟩
  have hlx := hx3.lt
  have hw4 := hw3.belowAll hb4
  have hx4 := hx3.belowAll hb4
  have hs3 : w.heap.size ≤ w3.heap.size := hb3.size
  replace hb4 := hb3.trans (hb4.mono hb3.size)
  clear hw3 hx3 hb3
  go_wp2_with fail
  refine (eqByteS_same _ _ N _ _ F F w4 (hg4.view hcg hF) (hw4.view hcw hF) hN (fun _ _ => rfl)).mono ?_
  rintro e w5 ⟨rfl, hb5⟩
  replace hg4 := hg4.belowAll hb5
  replace hw4 := hw4.belowAll hb5
  replace hx4 := hx4.belowAll hb5
  replace hb5 := hb4.trans (hb5.mono hb4.size)
  clear hb4
  go_wp2_with fail
  refine (toByteS_any ao n cap f w5 (hv.below hb5) (by omega)).mono ?_
  rintro e w6 ⟨rfl, hr6, hb6, -⟩
  replace hg4 := hg4.belowAll hb6
  replace hw4 := hw4.belowAll hb6
  replace hx4 := hx4.belowAll hb6
  replace hb6 := hb5.trans (hb6.mono hb5.size)
  clear hb5
  go_wp2_with fail
  refine (eqByteS_same _ _ n _ _ f f w6 (hx4.view (Nat.le_refl _) hv.byte) ((Row.ofIs hr6).view (Nat.le_refl _) hv.byte) (by omega) (fun _ _ => rfl)).mono ?_
  rintro e w7 ⟨rfl, hb7⟩
  replace hg4 := hg4.belowAll hb7
  replace hw4 := hw4.belowAll hb7
  replace hx4 := hx4.belowAll hb7
  replace hb7 := hb6.trans (hb7.mono hb6.size)
  clear hb6 hr6
  go_wp2_with fail
  refine (mark_any _ n _ f 1 w7 hx4 (by omega) (by omega)).mono ?_
  rintro e w8 ⟨rfl, -, ho8⟩
  replace hg4 := ho8.rowZ hg4 (by omega)
  replace hw4 := ho8.rowZ hw4 (by omega)
  have hb8 := hb7.trans (ho8.below (B := w.heap.size) (by omega))
  clear hb7 hx4 ho8
  have hk : (0 : Int) ≤ 1 + (n : Int) := by omega
  go_wp2_with fail
  refine (eqByteS_same _ _ N _ _ F F w8 (hg4.view hcg hF) (hw4.view hcw hF) hN (fun _ _ => rfl)).mono ?_
  rintro e w9 ⟨rfl, hb9⟩
  replace hg4 := hg4.belowAll hb9
  replace hw4 := hw4.belowAll hb9
  replace hb9 := hb8.trans (hb9.mono hb8.size)
  clear hb8
  go_wp2_with fail
  refine (markZ_any _ N _ F 1 w9 hg4 (by omega) (by omega)).mono ?_
  rintro e w10 ⟨rfl, hg10, ho10⟩
  replace hw4 := ho10.rowZ hw4 (by omega)
  have hb10 := hb9.trans (ho10.below (B := w.heap.size) (by omega))
  clear hb9 hg4 ho10
  have hHm : Hid (∀ i : Nat, i < N → 0 ≤ ((1 : Int) + i) % 256 ∧ ((1 : Int) + i) % 256 ≤ 255) := fun i _ => by omega
  have hkN : (0 : Int) ≤ 1 + (N : Int) := by omega
  go_wp2_with fail
  refine (held_any _ N _ _ 1 w10 (hg10.view hcg hHm.out) (fun _ _ => rfl) (by omega) (by omega)).mono ?_
  rintro e w11 ⟨rfl, hb11⟩
  replace hg10 := hg10.belowAll hb11
  replace hw4 := hw4.belowAll hb11
  replace hb11 := hb10.trans (hb11.mono hb10.size)
  clear hb10
  go_wp2_with fail
  refine (toByteS_any ao n cap f w11 (hv.below hb11) (by omega)).mono ?_
  rintro e w12 ⟨rfl, hr12, hb12, -⟩
  replace hg10 := hg10.belowAll hb12
  replace hw4 := hw4.belowAll hb12
  replace hb12 := hb11.trans (hb12.mono hb11.size)
  clear hb11
  go_wp2_with fail
  refine (h2 _ _ _ ((Row.ofIs hr12).view (Nat.le_refl _) hv.byte)).mono ?_
  rintro e w13 ⟨gh, ch, rfl, hgh, hch, hh13, hb13⟩
  replace hg10 := hg10.belowAll hb13
  replace hw4 := hw4.belowAll hb13
  replace hb13 := hb12.trans (hb13.mono hb12.size)
  clear hb12 hr12 h2 hgh
  go_wp2_with fail
  refine (eqByteS_same _ _ N _ _ F F w13 (hh13.view hch hF) (hw4.view hcw hF) hN (fun _ _ => rfl)).mono ?_
  rintro e w14 ⟨rfl, hb14⟩
  replace hg10 := hg10.belowAll hb14
  replace hb14 := hb13.trans (hb14.mono hb13.size)
  clear hb13 hw4 hh13
  go_wp2_with fail
  refine (held_any _ N _ _ 1 w14 (hg10.view hcg hHm.out) (fun _ _ => rfl) (by omega) (by omega)).mono ?_
  rintro e w15 ⟨rfl, hb15⟩
  replace hb15 := hb14.trans (hb15.mono hb14.size)
  clear hb14 hg10
  go_wp2
  go_ret
  exact ⟨rfl, hb15⟩

theorem lawGetPage (ao : Option Addr) (n cap : Nat) (f : Nat → Int) (w : World) (hv : View w ao n cap f) :
    Calls Try.prog 7 #[.slice ao n cap] w fun e w' => e = .returned (.bool true) ∧ Below w.heap.size w w' := by
  have hs : (getPg n f).2.1.size ≤ 1048576 := by
    by_cases h : (getPg n f).2.2 = true
    · have := getPg_read (k := (getPg n f).1) (s := (getPg n f).2.1) hv.byte (Prod.ext rfl (Prod.ext rfl h))
      have := this.2.1
      omega
    · rw [getPg_none (by simpa using h), str_size]
      simp
  refine lawFnExactGetPage ao n cap f (getPg n f).1 (getPg n f).2.1.size (fun i => (sl (getPg n f).2.1).getD i 0) (getPg n f).2.2 w hv ?_ ?_ (by omega) ?_
  · intro hn b cap w' hv'
    exact getPage_spec _ n cap f w' (fun _ => ⟨b, rfl⟩) hv' hn
  · intro hn b cap w' hv'
    exact getPage_impl _ n cap f w' (fun _ => ⟨b, rfl⟩) hv' hn
  · have := bytes_of_list (sl_byte (getPg n f).2.1)
    rw [sl_len] at this
    exact this
end Go.Proofs.Ytphipmhibegbnaa

