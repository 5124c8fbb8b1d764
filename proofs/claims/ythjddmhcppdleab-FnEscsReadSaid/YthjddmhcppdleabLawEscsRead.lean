/-
  The walk over the law FnEscsRead: it answers true and writes nothing that was there, at every code that reads.
-/
import Derived.Test.YthjddmhcppdleabDrawEsc
import Derived.Test.YthjddmhcppdleabDrawGetEsc
import Derived.Test.YthjddmhcppdleabEscRead
import Derived.Test.YthjddmhcppdleabGetEscSpec
import Derived.Test.YthjddmhcppdleabPutEscImpl
import Derived.Test.YthjddmhcppdleabFlipWalks
import Derived.Test.YthjddmhcppdleabSame
import Derived.Test.YthjddmhcppdleabBig
import Derived.Deep.RegionHeld3
namespace Go.Proofs.Ythjddmhcppdleab
open Go.RowKit

/-- What three slices of bytes read as, and that nothing that was there has turned. -/
structure Three (w : World) (b m c : Nat) (F : Nat → Int) (b2 m2 c2 : Nat) (F2 : Nat → Int) (b3 m3 c3 : Nat) (F3 : Nat → Int) (W : World) : Prop where
  v1 : View W (some ⟨b, 0, none⟩) m c F
  v2 : View W (some ⟨b2, 0, none⟩) m2 c2 F2
  v3 : View W (some ⟨b3, 0, none⟩) m3 c3 F3
  below : Below w.heap.size w W
section
variable {w : World} {b m c : Nat} {F : Nat → Int} {b2 m2 c2 : Nat} {F2 : Nat → Int} {b3 m3 c3 : Nat} {F3 : Nat → Int} {W W' : World}
theorem Three.step (h : Three w b m c F b2 m2 c2 F2 b3 m3 c3 F3 W) (hb : Below W.heap.size W W') : Three w b m c F b2 m2 c2 F2 b3 m3 c3 F3 W' :=
  ⟨h.v1.below hb, h.v2.below hb, h.v3.below hb, h.below.trans (hb.mono h.below.size)⟩
theorem Three.drew (h : Three w b m c F b2 m2 c2 F2 b3 m3 c3 F3 W) : Three w b m c F b2 m2 c2 F2 b3 m3 c3 F3 W.drew := h.step (Below.refl _ _).drew
theorem Three.alloc (h : Three w b m c F b2 m2 c2 F2 b3 m3 c3 F3 W) (o : Obj) : Three w b m c F b2 m2 c2 F2 b3 m3 c3 F3 (W.alloc o) := h.step ((Below.refl _ _).alloc (Nat.le_refl _) _)
end

/-- Three, and a slice more. -/
structure Four (H : World → Prop) (g N cg : Nat) (G : Nat → Int) (W : World) : Prop where
  held : H W
  view : View W (some ⟨g, 0, none⟩) N cg G
theorem Four.drew {H : World → Prop} {g N cg : Nat} {G : Nat → Int} {W : World} (hd : ∀ W, H W → H W.drew) (h : Four H g N cg G W) : Four H g N cg G W.drew := ⟨hd W h.held, h.view.drew⟩

theorem View.part {w : World} {b n cap m k : Nat} {f : Nat → Int} (h : View w (some ⟨b, 0, none⟩) n cap f) (hm : k + m ≤ n) : View w (some ⟨b, k, none⟩) m (cap - k) (fun i => f (k + i)) := by
  have := h.le
  refine ⟨by omega, fun i hi => h.byte (k + i) (by omega), fun h0 => ?_⟩
  obtain ⟨b', off', e, hb, hc⟩ := h.cells (by omega)
  simp only [Option.some.injEq, Addr.mk.injEq, and_true] at e
  obtain ⟨rfl, rfl⟩ := e
  exact ⟨b, k, rfl, hb, fun i hi => by have := hc (k + i) (by omega); rw [Nat.zero_add] at this; exact this⟩

/-- A text that is put behind nothing, as a list of its bytes. -/
theorem putEsc_list (b : Nat) (s : ByteArray) (w : World) (hs : s.size ≤ 1000) :
    Calls Try.prog 8 #[.slice (some ⟨b, 0, none⟩) 0 0, .string s] w fun e w' => ∃ (g cg : Nat), e = .returned (.slice (some ⟨g, 0, none⟩) (escN s) cg) ∧ View w' (some ⟨g, 0, none⟩) (escN s) cg (fun i => (escL (sl s) ++ [0, 1]).getD i 0) ∧ Below w.heap.size w w' := by
  have hE := escN_le s
  refine (putEsc_impl b 0 0 0 _ s w (View.none0 w b) (by omega) (by omega)).mono ?_
  rintro e w2 ⟨g, cg, rfl, hg, hgc, hrow, hb2⟩
  have hy := escT_at 0 (fun _ => 0) s (fun _ hi => absurd hi (Nat.not_lt_zero _))
  have hv := hrow.view hgc hy
  rw [Nat.zero_add] at hv ⊢
  exact ⟨g, cg, rfl, hv, hb2⟩

theorem sameBytes_yes (a1 a2 : Option Addr) (n m c1 c2 : Nat) (f g : Nat → Int) (w : World) (h1 : View w a1 n c1 f) (h2 : View w a2 m c2 g) (hn : n ≤ 281474976710656) (hm : m ≤ 281474976710656) (he : lof n f = lof m g) :
    Calls Try.prog 16 #[.slice a1 n c1, .slice a2 m c2] w fun e w' => e = .returned (.bool true) ∧ Below w.heap.size w w' := by
  have := sameBytes_any a1 a2 n m c1 c2 f g w h1 h2 hn hm
  rw [decide_eq_true he] at this
  exact this

theorem flip_twice {n : Nat} (f : Nat → Int) (p : Int) : lof n (flipF (flipF f p) p) = lof n f := by
  rw [lof_eq]
  intro i _
  unfold flipF
  split <;> omega

set_option linter.unusedSimpArgs false in
set_option maxHeartbeats 4000000 in
theorem lawEscsRead (ao : Option Addr) (n cap : Nat) (f : Nat → Int) (w : World) (hv : View w ao n cap f) (hn63 : n ≤ 9223372036854775807) :
    Calls Try.prog 4 #[.slice ao n cap] w fun e w' => e = .returned (.bool true) ∧ Below w.heap.size w w' := by
  by_cases hbig : 1048576 < n
  · have hd : decide ((1048576 : Int) < (n : Int)) = true := by simp; omega
    go_enter Try.func4, Try.ntmps4
    go_wp2_with fail
    refine (big_any ao n cap w hn63).mono ?_
    rw [hd]
    rintro e _ ⟨rfl, rfl⟩
    go_wp2
    go_ret
    exact ⟨rfl, Below.refl _ _⟩
  have hd : decide ((1048576 : Int) < (n : Int)) = false := by simp; omega
  have hn : n ≤ 1048576 := by omega
  clear hbig
  go_enter Try.func4, Try.ntmps4
  go_wp2_with fail
  refine (big_any ao n cap w hn63).mono ?_
  rw [hd]
  rintro e _ ⟨rfl, rfl⟩
  clear hd
  go_wp2_with fail
  refine (drawGetEsc_any ao n cap f w hn hv).mono ?_
  rintro e w1 ⟨⟨b, c, m, F, x, rfl, hm, hx0, hx1, hV1⟩, hb1⟩
  obtain ⟨s, q, ok, hg⟩ : ∃ s q ok, Hid (getE m F x = (s, q, ok)) := ⟨_, _, _, rfl⟩
  have hFb : Hid (∀ i, i < m → 0 ≤ F i ∧ F i ≤ 255) := hV1.byte
  go_wp2_with fail
  refine (getEsc_impl _ m c F x w1 s q ok hg hV1 (by omega) hx1).mono ?_
  rintro e w2 ⟨rfl, hb2⟩
  have hV2 := hV1.below hb2
  replace hb2 := hb1.trans (hb2.mono hb1.size)
  clear hb1 hV1
  go_wp2_with fail
  refine (getEsc_spec _ m c F x w2 s q ok hg hV2 (by omega) hx1).mono ?_
  rintro e w3 ⟨rfl, hb3⟩
  have hV3 := hV2.below hb3
  replace hb3 := hb2.trans (hb3.mono hb2.size)
  clear hb2 hV2
  go_wp2_with fail
  refine (drawFlip_any ao n cap f w3 hn (hv.below hb3)).mono ?_
  rintro e w4 ⟨⟨bc, cc, mc, L, k, rfl, hk0, hk1, hO4⟩, hb4⟩
  have hm9 := hO4.few
  have hV4 := hV3.below hb4
  have hC4 := hO4.view
  replace hb4 := hb3.trans (hb4.mono hb3.size)
  clear hb3 hV3 hO4
  go_wp2_with fail
  refine (flip_impl bc 0 mc cc (fun i => L.getD i 0) k w4 hC4 (by omega) hk1).mono ?_
  rintro e w5 ⟨gf, cf, rfl, -, hgc, hrf, hb5⟩
  have hFl := hrf.view hgc (flipF_byte k hC4.byte)
  have hH5 : Three w b m c F bc mc cc (fun i => L.getD i 0) gf mc cf (flipF (fun i => L.getD i 0) k) w5 := ⟨hV4.below hb5, hC4.below hb5, hFl, hb4.trans (hb5.mono hb4.size)⟩
  clear hV4 hC4 hb4 hrf hb5 hFl hgc
  generalize (fun i => L.getD i 0) = fL at *
  obtain ⟨H, hHd⟩ : ∃ H : World → Prop, H = Three w b m c F bc mc cc fL gf mc cf (flipF fL k) := ⟨_, rfl⟩
  have HD : Hid (∀ W, H W → H W.drew) := by rw [hHd]; exact fun W h => h.drew
  have HA : Hid (∀ W o, H W → H (W.alloc o)) := by rw [hHd]; exact fun W o h => h.alloc o
  have HB : Hid (∀ W, H W → Below w.heap.size w W) := by rw [hHd]; exact fun W h => h.below
  have h5 : H w5 := by rw [hHd]; exact hH5
  have hF1 : ∀ W, H W → Calls Try.prog 17 #[.slice (some ⟨bc, 0, none⟩) mc cc, .int .i64 k] W fun e w' => ∃ g2 c2, e = .returned (.slice (some ⟨g2, 0, none⟩) mc c2) ∧ Four H g2 mc c2 (flipF fL k) w' := by
    rw [hHd]
    intro W h
    refine (flip_spec bc 0 mc cc fL k W h.v2 (by omega)).mono ?_
    rintro e w' ⟨g2, c2, rfl, -, hg2, hr2, hb⟩
    exact ⟨g2, c2, rfl, h.step hb, hr2.view hg2 (flipF_byte k h.v2.byte)⟩
  have hS2 : ∀ W g2 c2, Four H g2 mc c2 (flipF fL k) W → Calls Try.prog 16 #[.slice (some ⟨gf, 0, none⟩) mc cf, .slice (some ⟨g2, 0, none⟩) mc c2] W fun e w' => e = .returned (.bool true) ∧ H w' := by
    rw [hHd]
    intro W g2 c2 h
    refine (sameBytes_yes _ _ mc mc cf c2 _ _ W h.held.v3 h.view (by omega) (by omega) rfl).mono ?_
    rintro e w' ⟨rfl, hb⟩
    exact ⟨rfl, h.held.step hb⟩
  have hF2 : ∀ W, H W → Calls Try.prog 15 #[.slice (some ⟨gf, 0, none⟩) mc cf, .int .i64 k] W fun e w' => ∃ g3 c3, e = .returned (.slice (some ⟨g3, 0, none⟩) mc c3) ∧ Four H g3 mc c3 (flipF (flipF fL k) k) w' := by
    rw [hHd]
    intro W h
    refine (flip_impl gf 0 mc cf _ k W h.v3 (by omega) hk1).mono ?_
    rintro e w' ⟨g2, c2, rfl, -, hg2, hr2, hb⟩
    exact ⟨g2, c2, rfl, h.step hb, hr2.view hg2 (flipF_byte k h.v3.byte)⟩
  have hS3 : ∀ W g3 c3, Four H g3 mc c3 (flipF (flipF fL k) k) W → Calls Try.prog 16 #[.slice (some ⟨g3, 0, none⟩) mc c3, .slice (some ⟨bc, 0, none⟩) mc cc] W fun e w' => e = .returned (.bool true) ∧ H w' := by
    rw [hHd]
    intro W g2 c2 h
    refine (sameBytes_yes _ _ mc mc c2 cc _ _ W h.view h.held.v2 (by omega) (by omega) (flip_twice fL k)).mono ?_
    rintro e w' ⟨rfl, hb⟩
    exact ⟨rfl, h.held.step hb⟩
  cases ok with
  | false =>
    clear hHd hH5 hg hFb
    go_wp2_with fail
    refine wp_region_held_drew (S := H) (by kernel_rfl) (HD.out _ h5) (fun hHeld => ?_)
    refine' wpAnyH_take (i := 0) (v := _) rfl (by kernel_rfl) (by kernel_rfl) (by kernel_rfl) (fun _ _ _ h => h) (Or.inl ⟨by kernel_rfl, ?hy0⟩) (by assumption) ?rest0
    case hy0 => intro W hW; go_simp; all_goals with_reducible rfl
    change wpAnyH _ _ _ _ _ _ _ (Act.put _ (some 43) _) _
    simp only [Act.put, List.setIfInBounds_toArray, List.set_cons_zero, List.set_cons_succ]
    refine' wpAnyH_take (i := 1) (v := _) rfl (by kernel_rfl) (by kernel_rfl) (by kernel_rfl) (fun _ _ _ h => h) (Or.inl ⟨by kernel_rfl, ?hy1⟩) (by assumption) ?rest1
    case hy1 => intro W hW; go_simp; all_goals with_reducible rfl
    change wpAnyH _ _ _ _ _ _ _ (Act.put _ (some 44) _) _
    simp only [Act.put, List.setIfInBounds_toArray, List.set_cons_zero, List.set_cons_succ]
    refine' wpAnyH_take (i := 2) (v := _) rfl (by kernel_rfl) (by kernel_rfl) (by kernel_rfl) (fun _ _ _ h => h) (Or.inl ⟨by kernel_rfl, ?hy2⟩) (by assumption) ?rest2
    case hy2 => intro W hW; go_simp; all_goals with_reducible rfl
    change wpAnyH _ _ _ _ _ _ _ (Act.put _ (some 45) _) _
    simp only [Act.put, List.setIfInBounds_toArray, List.set_cons_zero, List.set_cons_succ]
    refine' wpAnyH_take (i := 3) (v := _) rfl (by kernel_rfl) (by kernel_rfl) (by kernel_rfl) (fun _ _ _ h => h) (Or.inl ⟨by kernel_rfl, ?hy3⟩) (by assumption) ?rest3
    case hy3 => intro W hW; go_simp; all_goals with_reducible rfl
    change wpAnyH _ _ _ _ _ _ _ (Act.put _ (some 46) _) _
    simp only [Act.put, List.setIfInBounds_toArray, List.set_cons_zero, List.set_cons_succ]
    refine' wpAnyH_take (i := 4) (v := _) rfl (by kernel_rfl) (by kernel_rfl) (by kernel_rfl) (fun _ _ _ h => h) (Or.inl ⟨by kernel_rfl, ?hy4⟩) (by assumption) ?rest4
    case hy4 => intro W hW; go_simp; all_goals with_reducible rfl
    change wpAnyH _ _ _ _ _ _ _ (Act.put _ (some 47) _) _
    simp only [Act.put, List.setIfInBounds_toArray, List.set_cons_zero, List.set_cons_succ]
    refine' wpAnyH_take (i := 5) (v := _) rfl (by kernel_rfl) (by kernel_rfl) (by kernel_rfl) (fun _ _ _ h => h) (Or.inl ⟨by kernel_rfl, ?hy5⟩) (by assumption) ?rest5
    case hy5 => intro W hW; go_simp; all_goals with_reducible rfl
    change wpAnyH _ _ _ _ _ _ _ (Act.put _ (some 48) _) _
    simp only [Act.put, List.setIfInBounds_toArray, List.set_cons_zero, List.set_cons_succ]
    refine' wpAnyH_take (i := 6) (v := _) rfl (by kernel_rfl) (by kernel_rfl) (by kernel_rfl) (fun _ _ _ h => h) (Or.inl ⟨by kernel_rfl, ?hy6⟩) (by assumption) ?rest6
    case hy6 => intro W hW; go_simp; all_goals with_reducible rfl
    change wpAnyH _ _ _ _ _ _ _ (Act.put _ (some 49) _) _
    simp only [Act.put, List.setIfInBounds_toArray, List.set_cons_zero, List.set_cons_succ]
    refine wpAnyH_take (i := 7) (v := undef) rfl (by kernel_rfl) (by kernel_rfl) (by kernel_rfl) (fun _ _ _ h => h) (Or.inr ⟨by kernel_rfl, rfl⟩) (by assumption) ?_
    change wpAnyH _ _ _ _ _ _ _ (Act.put _ (some 50) _) _
    simp only [Act.put, List.setIfInBounds_toArray, List.set_cons_zero, List.set_cons_succ]
    refine wpAnyH_take (i := 8) (v := undef) rfl (by kernel_rfl) (by kernel_rfl) (by kernel_rfl) (fun _ _ _ h => h) (Or.inr ⟨by kernel_rfl, rfl⟩) (by assumption) ?_
    change wpAnyH _ _ _ _ _ _ _ (Act.put _ (some 51) _) _
    simp only [Act.put, List.setIfInBounds_toArray, List.set_cons_zero, List.set_cons_succ]
    refine wpAnyH_take (i := 9) (v := undef) rfl (by kernel_rfl) (by kernel_rfl) (by kernel_rfl) (fun _ _ _ h => h) (Or.inr ⟨by kernel_rfl, rfl⟩) (by assumption) ?_
    change wpAnyH _ _ _ _ _ _ _ (Act.put _ (some 52) _) _
    simp only [Act.put, List.setIfInBounds_toArray, List.set_cons_zero, List.set_cons_succ]
    refine wpAnyH_take (i := 10) (v := undef) rfl (by kernel_rfl) (by kernel_rfl) (by kernel_rfl) (fun _ _ _ h => h) (Or.inr ⟨by kernel_rfl, rfl⟩) (by assumption) ?_
    change wpAnyH _ _ _ _ _ _ _ (Act.put _ (some 53) _) _
    simp only [Act.put, List.setIfInBounds_toArray, List.set_cons_zero, List.set_cons_succ]
    refine wpAnyH_take (i := 11) (v := undef) rfl (by kernel_rfl) (by kernel_rfl) (by kernel_rfl) (fun _ _ _ h => h) (Or.inr ⟨by kernel_rfl, rfl⟩) (by assumption) ?_
    change wpAnyH _ _ _ _ _ _ _ (Act.put _ (some 54) _) _
    simp only [Act.put, List.setIfInBounds_toArray, List.set_cons_zero, List.set_cons_succ]
    refine wpAnyH_take (i := 12) (v := undef) rfl (by kernel_rfl) (by kernel_rfl) (by kernel_rfl) (fun _ _ _ h => h) (Or.inr ⟨by kernel_rfl, rfl⟩) (by assumption) ?_
    change wpAnyH _ _ _ _ _ _ _ (Act.put _ (some 55) _) _
    simp only [Act.put, List.setIfInBounds_toArray, List.set_cons_zero, List.set_cons_succ]
    refine wpAnyH_take (i := 13) (v := undef) rfl (by kernel_rfl) (by kernel_rfl) (by kernel_rfl) (fun _ _ _ h => h) (Or.inr ⟨by kernel_rfl, rfl⟩) (by assumption) ?_
    change wpAnyH _ _ _ _ _ _ _ (Act.put _ (some 56) _) _
    simp only [Act.put, List.setIfInBounds_toArray, List.set_cons_zero, List.set_cons_succ]
    refine wpAnyH_take (i := 14) (v := undef) rfl (by kernel_rfl) (by kernel_rfl) (by kernel_rfl) (fun _ _ _ h => h) (Or.inr ⟨by kernel_rfl, rfl⟩) (by assumption) ?_
    change wpAnyH _ _ _ _ _ _ _ (Act.put _ (some 57) _) _
    simp only [Act.put, List.setIfInBounds_toArray, List.set_cons_zero, List.set_cons_succ]
    refine' wpAnyH_take (i := 15) (v := _) rfl (by kernel_rfl) (by kernel_rfl) (by kernel_rfl) (fun _ _ _ h => h) (Or.inl ⟨by kernel_rfl, ?hy15⟩) (by assumption) ?rest15
    case hy15 => intro W hW; go_simp; all_goals with_reducible rfl
    change wpAnyH _ _ _ _ _ _ _ (Act.put _ (some 58) _) _
    simp only [Act.put, List.setIfInBounds_toArray, List.set_cons_zero, List.set_cons_succ]
    refine' wpAnyH_take (i := 16) (v := _) rfl (by kernel_rfl) (by kernel_rfl) (by kernel_rfl) (fun _ _ _ h => h) (Or.inl ⟨by kernel_rfl, ?hy16⟩) (by assumption) ?rest16
    case hy16 => intro W hW; go_simp; all_goals with_reducible rfl
    change wpAnyH _ _ _ _ _ _ _ (Act.put _ (some 59) _) _
    simp only [Act.put, List.setIfInBounds_toArray, List.set_cons_zero, List.set_cons_succ]
    refine' wpAnyH_take (i := 17) (v := _) rfl (by kernel_rfl) (by kernel_rfl) (by kernel_rfl) (fun _ _ _ h => h) (Or.inl ⟨by kernel_rfl, ?hy17⟩) (by assumption) ?rest17
    case hy17 => intro W hW; go_simp; all_goals with_reducible rfl
    change wpAnyH _ _ _ _ _ _ _ (Act.put _ (some 60) _) _
    simp only [Act.put, List.setIfInBounds_toArray, List.set_cons_zero, List.set_cons_succ]
    refine' wpAnyH_take (i := 18) (v := _) rfl (by kernel_rfl) (by kernel_rfl) (by kernel_rfl) (fun _ _ _ h => h) (Or.inl ⟨by kernel_rfl, ?hy18⟩) (by assumption) ?rest18
    case hy18 => intro W hW; go_simp; all_goals with_reducible rfl
    change wpAnyH _ _ _ _ _ _ _ (Act.put _ (some 61) _) _
    simp only [Act.put, List.setIfInBounds_toArray, List.set_cons_zero, List.set_cons_succ]
    refine' wpAnyH_take (i := 19) (v := _) rfl (by kernel_rfl) (by kernel_rfl) (by kernel_rfl) (fun _ _ _ h => h) (Or.inl ⟨by kernel_rfl, ?hy19⟩) (by assumption) ?rest19
    case hy19 => intro W hW; go_simp; all_goals with_reducible rfl
    change wpAnyH _ _ _ _ _ _ _ (Act.put _ (some 62) _) _
    simp only [Act.put, List.setIfInBounds_toArray, List.set_cons_zero, List.set_cons_succ]
    refine' wpAnyH_take (i := 20) (v := _) rfl (by kernel_rfl) (by kernel_rfl) (by kernel_rfl) (fun _ _ _ h => h) (Or.inl ⟨by kernel_rfl, ?hy20⟩) (by assumption) ?rest20
    case hy20 => intro W hW; go_simp; all_goals with_reducible rfl
    change wpAnyH _ _ _ _ _ _ _ (Act.put _ (some 63) _) _
    simp only [Act.put, List.setIfInBounds_toArray, List.set_cons_zero, List.set_cons_succ]
    refine wpAnyH_ready (rs := [21]) (by kernel_rfl) (by simp) ?_
    refine AllReadyH.cons rfl (fun K hK => ?_) AllReadyH.nil
    go_simp
    refine (hF1 _ hHeld).mono ?_
    rintro e wn ⟨g2, c2, rfl, h2⟩
    go_wp2_with fail
    refine hK.out _ _ h2.held (fun hHeld => ?_)
    clear hK K
    try simp only [Act.put, List.setIfInBounds_toArray, List.set_cons_zero, List.set_cons_succ]
    refine wpAnyH_ready (rs := [22]) (by kernel_rfl) (by simp) ?_
    refine AllReadyH.cons rfl (fun K hK => ?_) AllReadyH.nil
    go_simp
    refine (hS2 _ _ _ h2).mono ?_
    rintro e wm ⟨rfl, hn2⟩
    go_wp2_with fail
    refine hK.out _ _ hn2 (fun hHeld => ?_)
    clear hK K
    try simp only [Act.put, List.setIfInBounds_toArray, List.set_cons_zero, List.set_cons_succ]
    refine' wpAnyH_take (i := 23) (v := _) rfl (by kernel_rfl) (by kernel_rfl) (by kernel_rfl) (fun _ _ _ h => h) (Or.inl ⟨by kernel_rfl, ?hy23⟩) (by assumption) ?rest23
    case hy23 => intro W hW; go_simp; all_goals with_reducible rfl
    change wpAnyH _ _ _ _ _ _ _ (Act.put _ (some 66) _) _
    simp only [Act.put, List.setIfInBounds_toArray, List.set_cons_zero, List.set_cons_succ]
    refine' wpAnyH_take (i := 24) (v := _) rfl (by kernel_rfl) (by kernel_rfl) (by kernel_rfl) (fun _ _ _ h => h) (Or.inl ⟨by kernel_rfl, ?hy24⟩) (by assumption) ?rest24
    case hy24 => intro W hW; go_simp; all_goals with_reducible rfl
    change wpAnyH _ _ _ _ _ _ _ (Act.put _ (some 67) _) _
    simp only [Act.put, List.setIfInBounds_toArray, List.set_cons_zero, List.set_cons_succ]
    refine' wpAnyH_take (i := 25) (v := _) rfl (by kernel_rfl) (by kernel_rfl) (by kernel_rfl) (fun _ _ _ h => h) (Or.inl ⟨by kernel_rfl, ?hy25⟩) (by assumption) ?rest25
    case hy25 => intro W hW; go_simp; all_goals with_reducible rfl
    change wpAnyH _ _ _ _ _ _ _ (Act.put _ (some 68) _) _
    simp only [Act.put, List.setIfInBounds_toArray, List.set_cons_zero, List.set_cons_succ]
    refine' wpAnyH_take (i := 26) (v := _) rfl (by kernel_rfl) (by kernel_rfl) (by kernel_rfl) (fun _ _ _ h => h) (Or.inl ⟨by kernel_rfl, ?hy26⟩) (by assumption) ?rest26
    case hy26 => intro W hW; go_simp; all_goals with_reducible rfl
    change wpAnyH _ _ _ _ _ _ _ (Act.put _ (some 69) _) _
    simp only [Act.put, List.setIfInBounds_toArray, List.set_cons_zero, List.set_cons_succ]
    refine' wpAnyH_take (i := 28) (v := _) rfl (by kernel_rfl) (by kernel_rfl) (by kernel_rfl) (fun _ _ _ h => h) (Or.inl ⟨by kernel_rfl, ?hy28⟩) (by assumption) ?rest28
    case hy28 => intro W hW; go_simp; all_goals with_reducible rfl
    change wpAnyH _ _ _ _ _ _ _ (Act.put _ (some 71) _) _
    simp only [Act.put, List.setIfInBounds_toArray, List.set_cons_zero, List.set_cons_succ]
    refine wpAnyH_ready (rs := [27]) (by kernel_rfl) (by simp) ?_
    refine AllReadyH.cons rfl (fun K hK => ?_) AllReadyH.nil
    go_simp
    refine (hF2 _ hHeld).mono ?_
    rintro e wp ⟨g3, c3, rfl, h3⟩
    go_wp2_with fail
    refine hK.out _ _ h3.held (fun hHeld => ?_)
    clear hK K
    try simp only [Act.put, List.setIfInBounds_toArray, List.set_cons_zero, List.set_cons_succ]
    refine wpAnyH_ready (rs := [29]) (by kernel_rfl) (by simp) ?_
    refine AllReadyH.cons rfl (fun K hK => ?_) AllReadyH.nil
    go_simp
    refine (hS3 _ _ _ h3).mono ?_
    rintro e wq ⟨rfl, hn3⟩
    go_wp2_with fail
    refine hK.out _ _ hn3 (fun hHeld => ?_)
    clear hK K
    try simp only [Act.put, List.setIfInBounds_toArray, List.set_cons_zero, List.set_cons_succ]
    refine' wpAnyH_take (i := 30) (v := _) rfl (by kernel_rfl) (by kernel_rfl) (by kernel_rfl) (fun _ _ _ h => h) (Or.inl ⟨by kernel_rfl, ?hy30⟩) (by assumption) ?rest30
    case hy30 => intro W hW; go_simp; all_goals with_reducible rfl
    change wpAnyH _ _ _ _ _ _ _ (Act.put _ (some 73) _) _
    simp only [Act.put, List.setIfInBounds_toArray, List.set_cons_zero, List.set_cons_succ]
    refine' wpAnyH_take (i := 31) (v := _) rfl (by kernel_rfl) (by kernel_rfl) (by kernel_rfl) (fun _ _ _ h => h) (Or.inl ⟨by kernel_rfl, ?hy31⟩) (by assumption) ?rest31
    case hy31 => intro W hW; go_simp; all_goals with_reducible rfl
    change wpAnyH _ _ _ _ _ _ _ (Act.put _ (some 2) _) _
    simp only [Act.put, List.setIfInBounds_toArray, List.set_cons_zero, List.set_cons_succ]
    refine wpAnyH_done (by kernel_rfl) ?_ _
    go_wp2
    go_ret
    exact ⟨rfl, HB.out _ hHeld⟩
  | true =>
    obtain ⟨p, K, rfl, rfl, hpK, hK2, hsK, hLs⟩ := getE_back hFb.out hg.out
    have HLs : Hid (lof K (fun i => F (p + i)) = escL (sl s) ++ [0, 1]) := hLs
    have hmc := hH5.v1.le
    have hP : ∀ W A, H W → Calls Try.prog 8 #[.slice (some ⟨A, 0, none⟩) 0 0, .string s] W fun e w' => ∃ gu cu, e = .returned (.slice (some ⟨gu, 0, none⟩) (escN s) cu) ∧ Four H gu (escN s) cu (fun i => (escL (sl s) ++ [0, 1]).getD i 0) w' := by
      rw [hHd]
      intro W A h
      refine (putEsc_list A s W (by omega)).mono ?_
      rintro e w' ⟨gu, cu, rfl, hu, hb⟩
      exact ⟨gu, cu, rfl, h.step hb, hu⟩
    have hS1 : ∀ W gu cu, Four H gu (escN s) cu (fun i => (escL (sl s) ++ [0, 1]).getD i 0) W → Calls Try.prog 16 #[.slice (some ⟨gu, 0, none⟩) (escN s) cu, .slice (some ⟨b, p, none⟩) K (c - p)] W fun e w' => e = .returned (.bool true) ∧ H w' := by
      rw [hHd]
      intro W gu cu h
      have hE := escN_le s
      refine (sameBytes_yes _ _ (escN s) K cu (c - p) _ (fun i => F (p + i)) W h.view (h.held.v1.part hpK) (by omega) (by omega) ?_).mono ?_
      · rw [HLs.out]
        have := lof_self (escL (sl s) ++ [0, 1])
        rw [List.length_append] at this
        exact this
      · rintro e w' ⟨rfl, hb⟩
        exact ⟨rfl, h.held.step hb⟩
    have z1 : (p : Int) + (K : Int) ≤ (c : Int) := by omega
    have z2 : (p : Int) < (c : Int) := by omega
    have y1 : (0 : Int) ≤ (p : Int) + (K : Int) := by omega
    have y2 : p ≤ ((p : Int) + (K : Int)).toNat := by omega
    have y3 : ((p : Int) + (K : Int)).toNat - p = K := by omega
    have y4 : ¬ c = p := by omega
    clear hHd hH5 hg hFb hLs HLs hsK
    go_wp2_with fail
    refine wp_region_held_drew (S := H) (by kernel_rfl) (HD.out _ h5) (fun hHeld => ?_)
    refine' wpAnyH_take (i := 0) (v := _) rfl (by kernel_rfl) (by kernel_rfl) (by kernel_rfl) (fun _ _ _ h => h) (Or.inl ⟨by kernel_rfl, ?hz0⟩) (by assumption) ?rex0
    case hz0 => intro W hW; go_simp; all_goals with_reducible rfl
    change wpAnyH _ _ _ _ _ _ _ (Act.put _ (some 43) _) _
    simp only [Act.put, List.setIfInBounds_toArray, List.set_cons_zero, List.set_cons_succ]
    refine' wpAnyH_take (i := 1) (v := _) rfl (by kernel_rfl) (by kernel_rfl) (by kernel_rfl) (fun _ _ _ h => h) (Or.inl ⟨by kernel_rfl, ?hz1⟩) (by assumption) ?rex1
    case hz1 => intro W hW; go_simp; all_goals with_reducible rfl
    change wpAnyH _ _ _ _ _ _ _ (Act.put _ (some 44) _) _
    simp only [Act.put, List.setIfInBounds_toArray, List.set_cons_zero, List.set_cons_succ]
    refine' wpAnyH_take (i := 2) (v := _) rfl (by kernel_rfl) (by kernel_rfl) (by kernel_rfl) (fun _ _ _ h => h) (Or.inl ⟨by kernel_rfl, ?hz2⟩) (by assumption) ?rex2
    case hz2 => intro W hW; go_simp; all_goals with_reducible rfl
    change wpAnyH _ _ _ _ _ _ _ (Act.put _ (some 45) _) _
    simp only [Act.put, List.setIfInBounds_toArray, List.set_cons_zero, List.set_cons_succ]
    refine' wpAnyH_take (i := 3) (v := _) rfl (by kernel_rfl) (by kernel_rfl) (by kernel_rfl) (fun _ _ _ h => h) (Or.inl ⟨by kernel_rfl, ?hz3⟩) (by assumption) ?rex3
    case hz3 => intro W hW; go_simp; all_goals with_reducible rfl
    change wpAnyH _ _ _ _ _ _ _ (Act.put _ (some 46) _) _
    simp only [Act.put, List.setIfInBounds_toArray, List.set_cons_zero, List.set_cons_succ]
    refine' wpAnyH_take (i := 4) (v := _) rfl (by kernel_rfl) (by kernel_rfl) (by kernel_rfl) (fun _ _ _ h => h) (Or.inl ⟨by kernel_rfl, ?hz4⟩) (by assumption) ?rex4
    case hz4 => intro W hW; go_simp; all_goals with_reducible rfl
    change wpAnyH _ _ _ _ _ _ _ (Act.put _ (some 47) _) _
    simp only [Act.put, List.setIfInBounds_toArray, List.set_cons_zero, List.set_cons_succ]
    refine' wpAnyH_take (i := 5) (v := _) rfl (by kernel_rfl) (by kernel_rfl) (by kernel_rfl) (fun _ _ _ h => h) (Or.inl ⟨by kernel_rfl, ?hz5⟩) (by assumption) ?rex5
    case hz5 => intro W hW; go_simp; all_goals with_reducible rfl
    change wpAnyH _ _ _ _ _ _ _ (Act.put _ (some 48) _) _
    simp only [Act.put, List.setIfInBounds_toArray, List.set_cons_zero, List.set_cons_succ]
    refine' wpAnyH_take (i := 6) (v := _) rfl (by kernel_rfl) (by kernel_rfl) (by kernel_rfl) (fun _ _ _ h => h) (Or.inl ⟨by kernel_rfl, ?hz6⟩) (by assumption) ?rex6
    case hz6 => intro W hW; go_simp; all_goals with_reducible rfl
    change wpAnyH _ _ _ _ _ _ _ (Act.put _ (some 49) _) _
    simp only [Act.put, List.setIfInBounds_toArray, List.set_cons_zero, List.set_cons_succ]
    refine' wpAnyH_take (i := 8) (v := _) rfl (by kernel_rfl) (by kernel_rfl) (by kernel_rfl) (fun _ _ _ h => h) (Or.inl ⟨by kernel_rfl, ?hz8⟩) (by assumption) ?rex8
    case hz8 => intro W hW; go_simp; all_goals with_reducible rfl
    change wpAnyH _ _ _ _ _ _ _ (Act.put _ (some 51) _) _
    simp only [Act.put, List.setIfInBounds_toArray, List.set_cons_zero, List.set_cons_succ]
    refine' wpAnyH_take (i := 10) (v := _) rfl (by kernel_rfl) (by kernel_rfl) (by kernel_rfl) (fun _ _ _ h => h) (Or.inl ⟨by kernel_rfl, ?hz10⟩) (by assumption) ?rex10
    case hz10 => intro W hW; go_simp; all_goals with_reducible rfl
    change wpAnyH _ _ _ _ _ _ _ (Act.put _ (some 53) _) _
    simp only [Act.put, List.setIfInBounds_toArray, List.set_cons_zero, List.set_cons_succ]
    refine' wpAnyH_take (i := 11) (v := _) rfl (by kernel_rfl) (by kernel_rfl) (by kernel_rfl) (fun _ _ _ h => h) (Or.inl ⟨by kernel_rfl, ?hz11⟩) (by assumption) ?rex11
    case hz11 => intro W hW; go_simp; all_goals with_reducible rfl
    change wpAnyH _ _ _ _ _ _ _ (Act.put _ (some 54) _) _
    simp only [Act.put, List.setIfInBounds_toArray, List.set_cons_zero, List.set_cons_succ]
    refine' wpAnyH_take (i := 12) (v := _) rfl (by kernel_rfl) (by kernel_rfl) (by kernel_rfl) (fun _ _ _ h => h) (Or.inl ⟨by kernel_rfl, ?hz12⟩) (by assumption) ?rex12
    case hz12 => intro W hW; go_simp; all_goals with_reducible rfl
    change wpAnyH _ _ _ _ _ _ _ (Act.put _ (some 55) _) _
    simp only [Act.put, List.setIfInBounds_toArray, List.set_cons_zero, List.set_cons_succ]
    refine' wpAnyH_take (i := 13) (v := _) rfl (by kernel_rfl) (by kernel_rfl) (by kernel_rfl) (fun _ _ _ h => h) (Or.inl ⟨by kernel_rfl, ?hz13⟩) (by assumption) ?rex13
    case hz13 => intro W hW; go_simp; all_goals with_reducible rfl
    change wpAnyH _ _ _ _ _ _ _ (Act.put _ (some 56) _) _
    simp only [Act.put, List.setIfInBounds_toArray, List.set_cons_zero, List.set_cons_succ]
    refine wpAnyH_ready (rs := [7]) (by kernel_rfl) (by simp) ?_
    refine AllReadyH.cons rfl (fun KK hK => ?_) AllReadyH.nil
    go_simp
    refine hK.out _ _ (HA.out _ _ hHeld) (fun hHeld => ?_)
    clear hK KK
    try simp only [Act.put, List.setIfInBounds_toArray, List.set_cons_zero, List.set_cons_succ]
    refine wpAnyH_ready (rs := [9]) (by kernel_rfl) (by simp) ?_
    refine AllReadyH.cons rfl (fun KK hK => ?_) AllReadyH.nil
    go_simp
    refine (hP _ _ hHeld).mono ?_
    rintro e wu ⟨gu, cu, rfl, hu⟩
    go_wp2_with fail
    refine hK.out _ _ hu.held (fun hHeld => ?_)
    clear hK KK
    try simp only [Act.put, List.setIfInBounds_toArray, List.set_cons_zero, List.set_cons_succ]
    refine wpAnyH_ready (rs := [14]) (by kernel_rfl) (by simp) ?_
    refine AllReadyH.cons rfl (fun KK hK => ?_) AllReadyH.nil
    go_simp
    refine (hS1 _ _ _ hu).mono ?_
    rintro e wv ⟨rfl, hn1⟩
    go_wp2_with fail
    refine hK.out _ _ hn1 (fun hHeld => ?_)
    clear hK KK
    try simp only [Act.put, List.setIfInBounds_toArray, List.set_cons_zero, List.set_cons_succ]
    refine' wpAnyH_take (i := 15) (v := _) rfl (by kernel_rfl) (by kernel_rfl) (by kernel_rfl) (fun _ _ _ h => h) (Or.inl ⟨by kernel_rfl, ?hz15⟩) (by assumption) ?rex15
    case hz15 => intro W hW; go_simp; all_goals with_reducible rfl
    change wpAnyH _ _ _ _ _ _ _ (Act.put _ (some 58) _) _
    simp only [Act.put, List.setIfInBounds_toArray, List.set_cons_zero, List.set_cons_succ]
    refine' wpAnyH_take (i := 16) (v := _) rfl (by kernel_rfl) (by kernel_rfl) (by kernel_rfl) (fun _ _ _ h => h) (Or.inl ⟨by kernel_rfl, ?hz16⟩) (by assumption) ?rex16
    case hz16 => intro W hW; go_simp; all_goals with_reducible rfl
    change wpAnyH _ _ _ _ _ _ _ (Act.put _ (some 59) _) _
    simp only [Act.put, List.setIfInBounds_toArray, List.set_cons_zero, List.set_cons_succ]
    refine' wpAnyH_take (i := 17) (v := _) rfl (by kernel_rfl) (by kernel_rfl) (by kernel_rfl) (fun _ _ _ h => h) (Or.inl ⟨by kernel_rfl, ?hz17⟩) (by assumption) ?rex17
    case hz17 => intro W hW; go_simp; all_goals with_reducible rfl
    change wpAnyH _ _ _ _ _ _ _ (Act.put _ (some 60) _) _
    simp only [Act.put, List.setIfInBounds_toArray, List.set_cons_zero, List.set_cons_succ]
    refine' wpAnyH_take (i := 18) (v := _) rfl (by kernel_rfl) (by kernel_rfl) (by kernel_rfl) (fun _ _ _ h => h) (Or.inl ⟨by kernel_rfl, ?hz18⟩) (by assumption) ?rex18
    case hz18 => intro W hW; go_simp; all_goals with_reducible rfl
    change wpAnyH _ _ _ _ _ _ _ (Act.put _ (some 61) _) _
    simp only [Act.put, List.setIfInBounds_toArray, List.set_cons_zero, List.set_cons_succ]
    refine' wpAnyH_take (i := 19) (v := _) rfl (by kernel_rfl) (by kernel_rfl) (by kernel_rfl) (fun _ _ _ h => h) (Or.inl ⟨by kernel_rfl, ?hz19⟩) (by assumption) ?rex19
    case hz19 => intro W hW; go_simp; all_goals with_reducible rfl
    change wpAnyH _ _ _ _ _ _ _ (Act.put _ (some 62) _) _
    simp only [Act.put, List.setIfInBounds_toArray, List.set_cons_zero, List.set_cons_succ]
    refine' wpAnyH_take (i := 20) (v := _) rfl (by kernel_rfl) (by kernel_rfl) (by kernel_rfl) (fun _ _ _ h => h) (Or.inl ⟨by kernel_rfl, ?hz20⟩) (by assumption) ?rex20
    case hz20 => intro W hW; go_simp; all_goals with_reducible rfl
    change wpAnyH _ _ _ _ _ _ _ (Act.put _ (some 63) _) _
    simp only [Act.put, List.setIfInBounds_toArray, List.set_cons_zero, List.set_cons_succ]
    refine wpAnyH_ready (rs := [21]) (by kernel_rfl) (by simp) ?_
    refine AllReadyH.cons rfl (fun KK hK => ?_) AllReadyH.nil
    go_simp
    refine (hF1 _ hHeld).mono ?_
    rintro e wn ⟨g2, c2, rfl, h2⟩
    go_wp2_with fail
    refine hK.out _ _ h2.held (fun hHeld => ?_)
    clear hK KK
    try simp only [Act.put, List.setIfInBounds_toArray, List.set_cons_zero, List.set_cons_succ]
    refine wpAnyH_ready (rs := [22]) (by kernel_rfl) (by simp) ?_
    refine AllReadyH.cons rfl (fun KK hK => ?_) AllReadyH.nil
    go_simp
    refine (hS2 _ _ _ h2).mono ?_
    rintro e wm ⟨rfl, hn2⟩
    go_wp2_with fail
    refine hK.out _ _ hn2 (fun hHeld => ?_)
    clear hK KK
    try simp only [Act.put, List.setIfInBounds_toArray, List.set_cons_zero, List.set_cons_succ]
    refine' wpAnyH_take (i := 23) (v := _) rfl (by kernel_rfl) (by kernel_rfl) (by kernel_rfl) (fun _ _ _ h => h) (Or.inl ⟨by kernel_rfl, ?hz23⟩) (by assumption) ?rex23
    case hz23 => intro W hW; go_simp; all_goals with_reducible rfl
    change wpAnyH _ _ _ _ _ _ _ (Act.put _ (some 66) _) _
    simp only [Act.put, List.setIfInBounds_toArray, List.set_cons_zero, List.set_cons_succ]
    refine' wpAnyH_take (i := 24) (v := _) rfl (by kernel_rfl) (by kernel_rfl) (by kernel_rfl) (fun _ _ _ h => h) (Or.inl ⟨by kernel_rfl, ?hz24⟩) (by assumption) ?rex24
    case hz24 => intro W hW; go_simp; all_goals with_reducible rfl
    change wpAnyH _ _ _ _ _ _ _ (Act.put _ (some 67) _) _
    simp only [Act.put, List.setIfInBounds_toArray, List.set_cons_zero, List.set_cons_succ]
    refine' wpAnyH_take (i := 25) (v := _) rfl (by kernel_rfl) (by kernel_rfl) (by kernel_rfl) (fun _ _ _ h => h) (Or.inl ⟨by kernel_rfl, ?hz25⟩) (by assumption) ?rex25
    case hz25 => intro W hW; go_simp; all_goals with_reducible rfl
    change wpAnyH _ _ _ _ _ _ _ (Act.put _ (some 68) _) _
    simp only [Act.put, List.setIfInBounds_toArray, List.set_cons_zero, List.set_cons_succ]
    refine' wpAnyH_take (i := 26) (v := _) rfl (by kernel_rfl) (by kernel_rfl) (by kernel_rfl) (fun _ _ _ h => h) (Or.inl ⟨by kernel_rfl, ?hz26⟩) (by assumption) ?rex26
    case hz26 => intro W hW; go_simp; all_goals with_reducible rfl
    change wpAnyH _ _ _ _ _ _ _ (Act.put _ (some 69) _) _
    simp only [Act.put, List.setIfInBounds_toArray, List.set_cons_zero, List.set_cons_succ]
    refine' wpAnyH_take (i := 28) (v := _) rfl (by kernel_rfl) (by kernel_rfl) (by kernel_rfl) (fun _ _ _ h => h) (Or.inl ⟨by kernel_rfl, ?hz28⟩) (by assumption) ?rex28
    case hz28 => intro W hW; go_simp; all_goals with_reducible rfl
    change wpAnyH _ _ _ _ _ _ _ (Act.put _ (some 71) _) _
    simp only [Act.put, List.setIfInBounds_toArray, List.set_cons_zero, List.set_cons_succ]
    refine wpAnyH_ready (rs := [27]) (by kernel_rfl) (by simp) ?_
    refine AllReadyH.cons rfl (fun KK hK => ?_) AllReadyH.nil
    go_simp
    refine (hF2 _ hHeld).mono ?_
    rintro e wp ⟨g3, c3, rfl, h3⟩
    go_wp2_with fail
    refine hK.out _ _ h3.held (fun hHeld => ?_)
    clear hK KK
    try simp only [Act.put, List.setIfInBounds_toArray, List.set_cons_zero, List.set_cons_succ]
    refine wpAnyH_ready (rs := [29]) (by kernel_rfl) (by simp) ?_
    refine AllReadyH.cons rfl (fun KK hK => ?_) AllReadyH.nil
    go_simp
    refine (hS3 _ _ _ h3).mono ?_
    rintro e wq ⟨rfl, hn3⟩
    go_wp2_with fail
    refine hK.out _ _ hn3 (fun hHeld => ?_)
    clear hK KK
    try simp only [Act.put, List.setIfInBounds_toArray, List.set_cons_zero, List.set_cons_succ]
    refine' wpAnyH_take (i := 30) (v := _) rfl (by kernel_rfl) (by kernel_rfl) (by kernel_rfl) (fun _ _ _ h => h) (Or.inl ⟨by kernel_rfl, ?hz30⟩) (by assumption) ?rex30
    case hz30 => intro W hW; go_simp; all_goals with_reducible rfl
    change wpAnyH _ _ _ _ _ _ _ (Act.put _ (some 73) _) _
    simp only [Act.put, List.setIfInBounds_toArray, List.set_cons_zero, List.set_cons_succ]
    refine' wpAnyH_take (i := 31) (v := _) rfl (by kernel_rfl) (by kernel_rfl) (by kernel_rfl) (fun _ _ _ h => h) (Or.inl ⟨by kernel_rfl, ?hz31⟩) (by assumption) ?rex31
    case hz31 => intro W hW; go_simp; all_goals with_reducible rfl
    change wpAnyH _ _ _ _ _ _ _ (Act.put _ (some 2) _) _
    simp only [Act.put, List.setIfInBounds_toArray, List.set_cons_zero, List.set_cons_succ]
    refine wpAnyH_done (by kernel_rfl) ?_ _
    go_wp2
    go_ret
    exact ⟨rfl, HB.out _ hHeld⟩
end Go.Proofs.Ythjddmhcppdleab
