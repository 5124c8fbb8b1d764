/-
  Together: LexSpec, WordSpec
-/
import Derived.Test.YtnpfgamlncfikaaGreatDoorPackF2
import Derived.Test.YtnpfgamlncfikaaGreatDoorPackF21
import Derived.Test.YtnpfgamlncfikaaGreatDoorPackF3
import Derived.Deep.LoopGhost
import Derived.Deep.Strs
/-
  The model's Lex: a text as its tokens.
-/
namespace Go.Proofs.YtnpfgamlncfikaaGreatDoor
open Go.RowKit
set_option maxRecDepth 4000

theorem grownBy_setCellT (W : World) (B i : Nat) (u : Value) : W.grownBy (W.setCell ⟨B, i, none⟩ u) (some B) := (Only.setCell (i := i) (Only.refl B W) u).grown

set_option linter.unusedSimpArgs false in
set_option maxHeartbeats 4000000 in
theorem specLex_any (s : ByteArray) (w : World) (hs : s.size ≤ 281474976710656) :
    Calls Tryz.prog 42 #[.string s] w (LexTo w (lexF s 0 [])) := by
  obtain ⟨i0, hi, hz0, hz1, hz2⟩ := infoTok2
  obtain ⟨r, hr⟩ : ∃ r, Hid (lexF s 0 [] = r) := ⟨_, rfl⟩
  rw [hr.out]
  have Hnone : Hid (∀ (W : World) (p : Int), Below w.heap.size w W → r = ([], p) → LexTo w r (.returned (.tuple #[.slice (some ⟨W.heap.size, 0, none⟩) 0 0, .int .i64 p])) (W.alloc (.cells #[] 41))) := fun W p hB e => by
    subst e
    exact ⟨_, rfl, by simp, World.ownsRow_lit (base := w.heap.size) (e := 41) (size := 2) W #[] 0 hB.size (Nat.zero_le _) rfl, hB.alloc hB.size _⟩
  have hO0 := World.ownsRow_lit (base := w.heap.size) (e := 41) (size := 2) w #[] 0 (Nat.le_refl _) (Nat.zero_le _) rfl
  have hB0 : Below w.heap.size w (w.alloc (.cells #[] 41)) := (Below.refl _ _).alloc (Nat.le_refl _) _
  go_enter Tryz.func42, Tryz.ntmps42
  go_wp2
  obtain ⟨W0, hW0⟩ : ∃ W0, Hid (w.alloc (.cells #[] 41) = W0) := ⟨_, rfl⟩
  rw [hW0.out] at hO0 hB0 ⊢
  go_loopg [4, 5] s.size (fun q o at' wr => ∃ (i : Nat) (l : List (Int × ByteArray)) (v : Value), i ≤ s.size ∧ q = s.size - i ∧ v = o ∧ at' = .int .i64 i ∧ v ≠ .slice none 0 0 ∧ l.length ≤ 500 ∧ lexF s i l = r ∧ wr.ownsRow w.heap.size 41 2 v l.length (rowL l) ∧ Below w.heap.size w wr)
  case atStart => exact ⟨0, [], _, Nat.zero_le _, rfl, rfl, rfl, by simp, by simp, hr.out, hO0, hB0⟩
  case round =>
    clear hO0 hB0
    obtain ⟨i, l, v, hi', rfl, hvo, rfl, hne, hl5, hlex, hown, hB⟩ := hrel
    subst hvo
    have HNE : Hid (v ≠ .slice none 0 0) := hne
    have HX : Hid (lexF s i l = r) := hlex
    clear hne hlex
    by_cases hlt : i < s.size
    case neg =>
      have hiz : ¬ (i : Int) < (s.size : Int) := by omega
      have HR : Hid (r = (l, -1)) := by show _ = _; rw [← HX.out]; exact lexF_end hlt
      have HL : Hid (LexTo w r (.returned (.tuple #[v, .int .i64 (-1)])) wr) := by rw [HR.out]; exact ⟨v, rfl, HNE.out, hown, hB⟩
      clear hown hB Hnone
      go_wp2
      exact bodyPost_ret (v := .tuple #[v, .int .i64 (-1)]) (by simp [results, Tryz.results42, go_sem]) rfl HL.out
    case pos =>
      have hiz : (i : Int) < (s.size : Int) := by omega
      have hc := bt_at hlt
      have hbd := bt_bd s i
      obtain ⟨c, hcc⟩ : ∃ c, Hid (bt s i = c) := ⟨_, rfl⟩
      rw [hcc.out] at hc hbd
      by_cases hb : c = 32 ∨ c = 9 ∨ c = 10 ∨ c = 13
      · have HN : Hid (lexF s (i + 1) l = r) := by
          show _ = _
          rw [← HX.out]
          exact (lexF_blank hlt (by rw [hcc.out]; exact decide_eq_true hb)).symm
        clear Hnone HX
        rcases hb with rfl | rfl | rfl | rfl
        all_goals
          go_wp2_with (rw [hc])
          go_roundg (s.size - (i + 1))
          case measure => omega
          case rel => exact ⟨i + 1, l, v, by omega, rfl, rfl, by go_num, HNE.out, hl5, HN.out, hown, hB⟩
      · have HNB : Hid (blank (bt s i) = false) := by show _ = _; rw [hcc.out]; exact decide_eq_false hb
        have q1 : (c == 32) = false := by simp; omega
        have q2 : (c == 9) = false := by simp; omega
        have q3 : (c == 10) = false := by simp; omega
        have q4 : (c == 13) = false := by simp; omega
        obtain ⟨j0, hj0⟩ : ∃ j0 : Nat, Hid (j0 = i + 1) := ⟨_, rfl⟩
        have hj0z : (i : Int) + 1 = (j0 : Int) := by rw [hj0.out]; push_cast; rfl
        have hj0s : j0 ≤ s.size := by rw [hj0.out]; omega
        have hS := l8Small_any c (wr.alloc (.cells #[.int .i64 2, .string ⟨#[]⟩] 41)) hbd.1 hbd.2
        have hV0 := TBox.new wr 2 ⟨#[]⟩
        have hb1 : Below wr.heap.size wr (wr.alloc (.cells #[.int .i64 2, .string ⟨#[]⟩] 41)) := (Below.refl _ _).alloc (Nat.le_refl _) _
        have hB1 := hB.trans (hb1.mono hB.size)
        have hown1 := own_below2 hown hb1
        obtain ⟨W1, hW1⟩ : ∃ W1, Hid (wr.alloc (.cells #[.int .i64 2, .string ⟨#[]⟩] 41) = W1) := ⟨_, rfl⟩
        obtain ⟨A, hA⟩ : ∃ A, Hid (wr.heap.size = A) := ⟨_, rfl⟩
        rw [hW1.out] at hS hV0 hB1 hown1
        rw [hA.out] at hV0
        have hwA : w.heap.size ≤ A := by rw [← hA.out]; exact hB.size
        have HAN : Hid (some A ≠ v.ownBlock) := by
          show some A ≠ _
          intro e
          have := (hown.lt A e.symm).2
          rw [hA.out] at this
          omega
        clear hb1 hB hown hb
        go_wp2_with (first | rw [hc] | rw [hW1.out, hA.out])
        refine hS.mono ?_
        rintro e _ ⟨rfl, rfl⟩
        clear hS
        cases hsm : small c with
        | true =>
          have HK : Hid (kindAt s i = 1) := by show _ = _; unfold kindAt; rw [hcc.out, hsm]; rfl
          have HE : Hid (stopAt s i = endN s (i + 1)) := by show _ = _; unfold stopAt; rw [hcc.out, hsm]; rfl
          clear hsm
          obtain ⟨z0, z1⟩ := hV0.cells
          obtain ⟨f0, f1⟩ := hV0.frozen
          have hV1 := hV0.set0 1
          have hg : W1.grownBy (W1.setCell ⟨A, 0, none⟩ (.int .i64 1)) (some A) := grownBy_setCellT W1 A 0 _
          have hown2 := hown1.kept hg (.inr HAN.out.symm)
          have hB2 := hB1.setCell (p := ⟨A, 0, none⟩) hwA (.int .i64 1)
          obtain ⟨W2, hW2⟩ : ∃ W2, Hid (W1.setCell ⟨A, 0, none⟩ (.int .i64 1) = W2) := ⟨_, rfl⟩
          rw [hW2.out] at hV1 hown2 hB2
          clear hg hown1 hB1 hV0
          go_wp2_with (rw [hW2.out])
          go_loopg [7] (s.size + 1 - j0) (fun q e' wr' => ∃ j : Nat, i < j ∧ j ≤ s.size ∧ q = s.size + 1 - j ∧ e' = .int .i64 j ∧ wr' = W2 ∧ endN s j = endN s (i + 1))
          case atStart => exact ⟨j0, by rw [hj0.out]; omega, hj0s, rfl, rfl, rfl, by rw [hj0.out]⟩
          case round =>
            obtain ⟨j, hj1, hj2, rfl, rfl, rfl, hend⟩ := hrel
            have HEN : Hid (endN s j = endN s (i + 1)) := hend
            clear hend
            by_cases hjl : j < s.size
            · have hjz : (j : Int) < (s.size : Int) := by omega
              have hd := bt_at hjl
              have hdb := bt_bd s j
              obtain ⟨d, hdd⟩ : ∃ d, Hid (bt s j = d) := ⟨_, rfl⟩
              rw [hdd.out] at hd hdb
              have hS2 := l8Small_any d wr hdb.1 hdb.2
              have hD2 := l2Digit_tok d wr hdb.1 hdb.2
              go_wp2_with (rw [hd])
              refine hS2.mono ?_
              rintro e _ ⟨rfl, rfl⟩
              clear hS2
              cases hs2 : small d with
              | true =>
                have HN : Hid (endN s (j + 1) = endN s (i + 1)) := by
                  show _ = _
                  rw [← HEN.out]
                  exact (endN_step hjl (by rw [hdd.out]; unfold inName; rw [hs2]; rfl)).symm
                clear hD2
                go_wp2
                go_roundg (s.size + 1 - (j + 1))
                case measure => omega
                case rel => exact ⟨j + 1, by omega, by omega, rfl, by go_num, rfl, HN.out⟩
              | false =>
                go_wp2_with (rw [hd])
                refine hD2.mono ?_
                rintro e _ ⟨rfl, rfl⟩
                clear hD2
                cases hd2 : digit d with
                | true =>
                  have HN : Hid (endN s (j + 1) = endN s (i + 1)) := by
                    show _ = _
                    rw [← HEN.out]
                    exact (endN_step hjl (by rw [hdd.out]; unfold inName; rw [hd2]; simp)).symm
                  go_wp2
                  go_roundg (s.size + 1 - (j + 1))
                  case measure => omega
                  case rel => exact ⟨j + 1, by omega, by omega, rfl, by go_num, rfl, HN.out⟩
                | false =>
                  have HJ : Hid (stopAt s i = j) := by
                    show _ = _
                    rw [HE.out, ← HEN.out]
                    exact endN_stop (fun h => by have := h.2; rw [hdd.out] at this; unfold inName at this; rw [hs2, hd2] at this; cases this)
                  have hjs : j ≤ s.size := by omega
                  have hij : (i : Int) ≤ ((j : Nat) : Int) := by omega
                  have hjz2 : ((j : Nat) : Int) ≤ (s.size : Int) := by omega
                  have hsub : (s.extract i j).size ≤ 281474976710656 := by rw [ByteArray.size_extract]; omega
                  obtain ⟨sub, hsb⟩ : ∃ sub, Hid (s.extract i j = sub) := ⟨_, rfl⟩
                  rw [hsb.out] at hsub
                  obtain ⟨y0, y1⟩ := hV1.cells
                  obtain ⟨g0, g1⟩ := hV1.frozen
                  have hV3 := hV1.set1 sub
                  have hg3 : wr.grownBy (wr.setCell ⟨A, 1, none⟩ (.string sub)) (some A) := grownBy_setCellT wr A 1 _
                  have hown3 := hown2.kept hg3 (.inr HAN.out.symm)
                  have hB3 := hB2.setCell (p := ⟨A, 1, none⟩) hwA (.string sub)
                  obtain ⟨W3, hW3⟩ : ∃ W3, Hid (wr.setCell ⟨A, 1, none⟩ (.string sub) = W3) := ⟨_, rfl⟩
                  rw [hW3.out] at hV3 hown3 hB3
                  have hC := specTokenOk_any 1 sub W3 hsub
                  obtain ⟨x0, x1⟩ := hV3.cells
                  clear hg3
                  go_wp2_with (first | rw [hsb.out, hW3.out] | rw [hsb.out] | rw [hW3.out])
                  refine hC.mono ?_
                  rintro e w4 ⟨rfl, hb4⟩
                  have hV4 := hV3.below hb4
                  have hown4 := own_below2 hown3 hb4
                  have hB4 := hB3.trans (hb4.mono hB3.size)
                  clear hC x0 x1 y0 y1 g0 g1 hV3 hown3 hB3 hb4
                  cases hok : tokOk 1 sub with
                  | false =>
                    have HR : Hid (r = ([], (i : Int))) := by
                      show _ = _
                      rw [← HX.out]
                      exact lexF_no hlt HNB.out (fun h => by have := h.1; rw [HK.out, HJ.out, hsb.out, hok] at this; cases this)
                    have HL : Hid (LexTo w r (.returned (.tuple #[.slice (some ⟨w4.heap.size, 0, none⟩) 0 0, .int .i64 (i : Int)])) (w4.alloc (.cells #[] 41))) := Hnone.out w4 _ hB4 HR.out
                    clear Hnone hown4 hB4 hV4
                    go_wp2
                    exact bodyPost_ret (v := .tuple #[.slice (some ⟨w4.heap.size, 0, none⟩) 0 0, .int .i64 (i : Int)]) (by simp [results, Tryz.results42, go_sem]) rfl HL.out
                  | true =>
                    obtain ⟨a5, c5, rfl⟩ : ∃ a5 c5, v = .slice a5 l.length c5 := by
                      rcases hown4.2 with ⟨e, _⟩ | ⟨g, c', cur, e, _⟩
                      · exact absurd e HNE.out
                      · exact ⟨_, _, e⟩
                    by_cases hl : l.length = 500
                    · have HR : Hid (r = ([], (i : Int))) := by
                        show _ = _
                        rw [← HX.out]
                        exact lexF_no hlt HNB.out (fun h => h.2 hl)
                      have HL : Hid (LexTo w r (.returned (.tuple #[.slice (some ⟨w4.heap.size, 0, none⟩) 0 0, .int .i64 (i : Int)])) (w4.alloc (.cells #[] 41))) := Hnone.out w4 _ hB4 HR.out
                      have hlz : ((l.length : Int) == 500) = true := by simp; omega
                      clear Hnone hown4 hB4 hV4 hl
                      go_wp2
                      exact bodyPost_ret (v := .tuple #[.slice (some ⟨w4.heap.size, 0, none⟩) 0 0, .int .i64 (i : Int)]) (by simp [results, Tryz.results42, go_sem]) rfl HL.out
                    · have hlz : ((l.length : Int) == 500) = false := by simp; omega
                      have HNX : Hid (lexF s j (l ++ [(1, sub)]) = r) := by
                        show _ = _
                        rw [← HX.out, lexF_tok hlt HNB.out (by rw [HK.out, HJ.out, hsb.out]; exact hok) hl, HK.out, HJ.out, hsb.out]
                      obtain ⟨x0, x1⟩ := hV4.cells
                      have hcl := cells_tok w4 1 sub
                      have hs4 := hB4.size
                      clear hok
                      go_wp2_with (at_builtin; refine wpList_append_own _ rfl (.tmp 72) (.tmp 74) 37 rfl w.heap.size 41 i0 (.agg #[.int .i64 0, .string ⟨#[]⟩]) 2 24 Tryz.underlying37 hi hz0 hz1 hz2 rfl (by decide) (.slice a5 l.length c5) _ _ rfl (own_below2 hown4 ((Below.refl _ _).alloc (Nat.le_refl _) _)) ⟨w4.heap.size, 0, none⟩ 1 1 [.int .i64 1, .string sub] rfl rfl hcl (one_tok _ _) (by unfold maxLen; omega) (by omega) (by simp; omega) ?_; intro v5 w5 hown5 hgr5 hnil5)
                      have HO5 : Hid (w5.ownsRow w.heap.size 41 2 v5 (l ++ [((1 : Int), sub)]).length (rowL (l ++ [((1 : Int), sub)]))) := by
                        rw [rowL_snoc, List.length_append]; exact hown5
                      have HNE5 : Hid (v5 ≠ .slice none 0 0) := fun e => HNE.out (hnil5.1 e).1
                      have hb5 : Below w4.heap.size w4 (w4.alloc (.cells #[.int .i64 1, .string sub] 41)) := (Below.refl _ _).alloc (Nat.le_refl _) _
                      have HB5 : Hid (Below w.heap.size w w5) := (hB4.trans (hb5.mono hs4)).grown hgr5 (by have := (hB4.trans (hb5.mono hs4)).size; exact this) (fun j e => ((own_below2 hown4 hb5).lt j e).1)
                      have HLN : Hid ((l ++ [((1 : Int), sub)]).length ≤ 500) := by show _ ≤ _; rw [List.length_append]; simp; omega
                      clear hown4 hown5 hgr5 hnil5 hcl hB4 hb5 hV4 x0 x1 Hnone
                      go_wp2
                      go_roundg (s.size - j)
                      case measure => omega
                      case rel => exact ⟨j, l ++ [(1, sub)], v5, by omega, rfl, rfl, by go_num, HNE5.out, HLN.out, HNX.out, HO5.out, HB5.out⟩
            · have hjz : ¬ (j : Int) < (s.size : Int) := by omega
              have HJ : Hid (stopAt s i = j) := by
                show _ = _
                rw [HE.out, ← HEN.out]
                exact endN_stop (fun h => hjl h.1)
              have hjs : j ≤ s.size := by omega
              have hij : (i : Int) ≤ ((j : Nat) : Int) := by omega
              have hjz2 : ((j : Nat) : Int) ≤ (s.size : Int) := by omega
              have hsub : (s.extract i j).size ≤ 281474976710656 := by rw [ByteArray.size_extract]; omega
              obtain ⟨sub, hsb⟩ : ∃ sub, Hid (s.extract i j = sub) := ⟨_, rfl⟩
              rw [hsb.out] at hsub
              obtain ⟨y0, y1⟩ := hV1.cells
              obtain ⟨g0, g1⟩ := hV1.frozen
              have hV3 := hV1.set1 sub
              have hg3 : wr.grownBy (wr.setCell ⟨A, 1, none⟩ (.string sub)) (some A) := grownBy_setCellT wr A 1 _
              have hown3 := hown2.kept hg3 (.inr HAN.out.symm)
              have hB3 := hB2.setCell (p := ⟨A, 1, none⟩) hwA (.string sub)
              obtain ⟨W3, hW3⟩ : ∃ W3, Hid (wr.setCell ⟨A, 1, none⟩ (.string sub) = W3) := ⟨_, rfl⟩
              rw [hW3.out] at hV3 hown3 hB3
              have hC := specTokenOk_any 1 sub W3 hsub
              obtain ⟨x0, x1⟩ := hV3.cells
              clear hg3
              go_wp2_with (first | rw [hsb.out, hW3.out] | rw [hsb.out] | rw [hW3.out])
              refine hC.mono ?_
              rintro e w4 ⟨rfl, hb4⟩
              have hV4 := hV3.below hb4
              have hown4 := own_below2 hown3 hb4
              have hB4 := hB3.trans (hb4.mono hB3.size)
              clear hC x0 x1 y0 y1 g0 g1 hV3 hown3 hB3 hb4
              cases hok : tokOk 1 sub with
              | false =>
                have HR : Hid (r = ([], (i : Int))) := by
                  show _ = _
                  rw [← HX.out]
                  exact lexF_no hlt HNB.out (fun h => by have := h.1; rw [HK.out, HJ.out, hsb.out, hok] at this; cases this)
                have HL : Hid (LexTo w r (.returned (.tuple #[.slice (some ⟨w4.heap.size, 0, none⟩) 0 0, .int .i64 (i : Int)])) (w4.alloc (.cells #[] 41))) := Hnone.out w4 _ hB4 HR.out
                clear Hnone hown4 hB4 hV4
                go_wp2
                exact bodyPost_ret (v := .tuple #[.slice (some ⟨w4.heap.size, 0, none⟩) 0 0, .int .i64 (i : Int)]) (by simp [results, Tryz.results42, go_sem]) rfl HL.out
              | true =>
                obtain ⟨a5, c5, rfl⟩ : ∃ a5 c5, v = .slice a5 l.length c5 := by
                  rcases hown4.2 with ⟨e, _⟩ | ⟨g, c', cur, e, _⟩
                  · exact absurd e HNE.out
                  · exact ⟨_, _, e⟩
                by_cases hl : l.length = 500
                · have HR : Hid (r = ([], (i : Int))) := by
                    show _ = _
                    rw [← HX.out]
                    exact lexF_no hlt HNB.out (fun h => h.2 hl)
                  have HL : Hid (LexTo w r (.returned (.tuple #[.slice (some ⟨w4.heap.size, 0, none⟩) 0 0, .int .i64 (i : Int)])) (w4.alloc (.cells #[] 41))) := Hnone.out w4 _ hB4 HR.out
                  have hlz : ((l.length : Int) == 500) = true := by simp; omega
                  clear Hnone hown4 hB4 hV4 hl
                  go_wp2
                  exact bodyPost_ret (v := .tuple #[.slice (some ⟨w4.heap.size, 0, none⟩) 0 0, .int .i64 (i : Int)]) (by simp [results, Tryz.results42, go_sem]) rfl HL.out
                · have hlz : ((l.length : Int) == 500) = false := by simp; omega
                  have HNX : Hid (lexF s j (l ++ [(1, sub)]) = r) := by
                    show _ = _
                    rw [← HX.out, lexF_tok hlt HNB.out (by rw [HK.out, HJ.out, hsb.out]; exact hok) hl, HK.out, HJ.out, hsb.out]
                  obtain ⟨x0, x1⟩ := hV4.cells
                  have hcl := cells_tok w4 1 sub
                  have hs4 := hB4.size
                  clear hok
                  go_wp2_with (at_builtin; refine wpList_append_own _ rfl (.tmp 72) (.tmp 74) 37 rfl w.heap.size 41 i0 (.agg #[.int .i64 0, .string ⟨#[]⟩]) 2 24 Tryz.underlying37 hi hz0 hz1 hz2 rfl (by decide) (.slice a5 l.length c5) _ _ rfl (own_below2 hown4 ((Below.refl _ _).alloc (Nat.le_refl _) _)) ⟨w4.heap.size, 0, none⟩ 1 1 [.int .i64 1, .string sub] rfl rfl hcl (one_tok _ _) (by unfold maxLen; omega) (by omega) (by simp; omega) ?_; intro v5 w5 hown5 hgr5 hnil5)
                  have HO5 : Hid (w5.ownsRow w.heap.size 41 2 v5 (l ++ [((1 : Int), sub)]).length (rowL (l ++ [((1 : Int), sub)]))) := by
                    rw [rowL_snoc, List.length_append]; exact hown5
                  have HNE5 : Hid (v5 ≠ .slice none 0 0) := fun e => HNE.out (hnil5.1 e).1
                  have hb5 : Below w4.heap.size w4 (w4.alloc (.cells #[.int .i64 1, .string sub] 41)) := (Below.refl _ _).alloc (Nat.le_refl _) _
                  have HB5 : Hid (Below w.heap.size w w5) := (hB4.trans (hb5.mono hs4)).grown hgr5 (by have := (hB4.trans (hb5.mono hs4)).size; exact this) (fun j e => ((own_below2 hown4 hb5).lt j e).1)
                  have HLN : Hid ((l ++ [((1 : Int), sub)]).length ≤ 500) := by show _ ≤ _; rw [List.length_append]; simp; omega
                  clear hown4 hown5 hgr5 hnil5 hcl hB4 hb5 hV4 x0 x1 Hnone
                  go_wp2
                  go_roundg (s.size - j)
                  case measure => omega
                  case rel => exact ⟨j, l ++ [(1, sub)], v5, by omega, rfl, rfl, by go_num, HNE5.out, HLN.out, HNX.out, HO5.out, HB5.out⟩
        | false =>
          have HK : Hid (kindAt s i = 2) := by show _ = _; unfold kindAt; rw [hcc.out, hsm]; rfl
          have HJ : Hid (stopAt s i = j0) := by show _ = _; rw [hj0.out]; unfold stopAt; rw [hcc.out, hsm]; rfl
          have hij0 : i < j0 := by rw [hj0.out]; omega
          clear hsm
          have hjs : j0 ≤ s.size := by omega
          have hij : (i : Int) ≤ ((j0 : Nat) : Int) := by omega
          have hjz2 : ((j0 : Nat) : Int) ≤ (s.size : Int) := by omega
          have hsub : (s.extract i j0).size ≤ 281474976710656 := by rw [ByteArray.size_extract]; omega
          obtain ⟨sub, hsb⟩ : ∃ sub, Hid (s.extract i j0 = sub) := ⟨_, rfl⟩
          rw [hsb.out] at hsub
          obtain ⟨y0, y1⟩ := hV0.cells
          obtain ⟨g0, g1⟩ := hV0.frozen
          have hV3 := hV0.set1 sub
          have hg3 : W1.grownBy (W1.setCell ⟨A, 1, none⟩ (.string sub)) (some A) := grownBy_setCellT W1 A 1 _
          have hown3 := hown1.kept hg3 (.inr HAN.out.symm)
          have hB3 := hB1.setCell (p := ⟨A, 1, none⟩) hwA (.string sub)
          obtain ⟨W3, hW3⟩ : ∃ W3, Hid (W1.setCell ⟨A, 1, none⟩ (.string sub) = W3) := ⟨_, rfl⟩
          rw [hW3.out] at hV3 hown3 hB3
          have hC := specTokenOk_any 2 sub W3 hsub
          obtain ⟨x0, x1⟩ := hV3.cells
          clear hg3
          go_wp2_with (first | rw [hsb.out, hW3.out] | rw [hsb.out] | rw [hW3.out])
          refine hC.mono ?_
          rintro e w4 ⟨rfl, hb4⟩
          have hV4 := hV3.below hb4
          have hown4 := own_below2 hown3 hb4
          have hB4 := hB3.trans (hb4.mono hB3.size)
          clear hC x0 x1 y0 y1 g0 g1 hV3 hown3 hB3 hb4
          cases hok : tokOk 2 sub with
          | false =>
            have HR : Hid (r = ([], (i : Int))) := by
              show _ = _
              rw [← HX.out]
              exact lexF_no hlt HNB.out (fun h => by have := h.1; rw [HK.out, HJ.out, hsb.out, hok] at this; cases this)
            have HL : Hid (LexTo w r (.returned (.tuple #[.slice (some ⟨w4.heap.size, 0, none⟩) 0 0, .int .i64 (i : Int)])) (w4.alloc (.cells #[] 41))) := Hnone.out w4 _ hB4 HR.out
            clear Hnone hown4 hB4 hV4
            go_wp2
            exact bodyPost_ret (v := .tuple #[.slice (some ⟨w4.heap.size, 0, none⟩) 0 0, .int .i64 (i : Int)]) (by simp [results, Tryz.results42, go_sem]) rfl HL.out
          | true =>
            obtain ⟨a5, c5, rfl⟩ : ∃ a5 c5, v = .slice a5 l.length c5 := by
              rcases hown4.2 with ⟨e, _⟩ | ⟨g, c', cur, e, _⟩
              · exact absurd e HNE.out
              · exact ⟨_, _, e⟩
            by_cases hl : l.length = 500
            · have HR : Hid (r = ([], (i : Int))) := by
                show _ = _
                rw [← HX.out]
                exact lexF_no hlt HNB.out (fun h => h.2 hl)
              have HL : Hid (LexTo w r (.returned (.tuple #[.slice (some ⟨w4.heap.size, 0, none⟩) 0 0, .int .i64 (i : Int)])) (w4.alloc (.cells #[] 41))) := Hnone.out w4 _ hB4 HR.out
              have hlz : ((l.length : Int) == 500) = true := by simp; omega
              clear Hnone hown4 hB4 hV4 hl
              go_wp2
              exact bodyPost_ret (v := .tuple #[.slice (some ⟨w4.heap.size, 0, none⟩) 0 0, .int .i64 (i : Int)]) (by simp [results, Tryz.results42, go_sem]) rfl HL.out
            · have hlz : ((l.length : Int) == 500) = false := by simp; omega
              have HNX : Hid (lexF s j0 (l ++ [(2, sub)]) = r) := by
                show _ = _
                rw [← HX.out, lexF_tok hlt HNB.out (by rw [HK.out, HJ.out, hsb.out]; exact hok) hl, HK.out, HJ.out, hsb.out]
              obtain ⟨x0, x1⟩ := hV4.cells
              have hcl := cells_tok w4 2 sub
              have hs4 := hB4.size
              clear hok
              go_wp2_with (at_builtin; refine wpList_append_own _ rfl (.tmp 72) (.tmp 74) 37 rfl w.heap.size 41 i0 (.agg #[.int .i64 0, .string ⟨#[]⟩]) 2 24 Tryz.underlying37 hi hz0 hz1 hz2 rfl (by decide) (.slice a5 l.length c5) _ _ rfl (own_below2 hown4 ((Below.refl _ _).alloc (Nat.le_refl _) _)) ⟨w4.heap.size, 0, none⟩ 1 1 [.int .i64 2, .string sub] rfl rfl hcl (one_tok _ _) (by unfold maxLen; omega) (by omega) (by simp; omega) ?_; intro v5 w5 hown5 hgr5 hnil5)
              have HO5 : Hid (w5.ownsRow w.heap.size 41 2 v5 (l ++ [((2 : Int), sub)]).length (rowL (l ++ [((2 : Int), sub)]))) := by
                rw [rowL_snoc, List.length_append]; exact hown5
              have HNE5 : Hid (v5 ≠ .slice none 0 0) := fun e => HNE.out (hnil5.1 e).1
              have hb5 : Below w4.heap.size w4 (w4.alloc (.cells #[.int .i64 2, .string sub] 41)) := (Below.refl _ _).alloc (Nat.le_refl _) _
              have HB5 : Hid (Below w.heap.size w w5) := (hB4.trans (hb5.mono hs4)).grown hgr5 (by have := (hB4.trans (hb5.mono hs4)).size; exact this) (fun j e => ((own_below2 hown4 hb5).lt j e).1)
              have HLN : Hid ((l ++ [((2 : Int), sub)]).length ≤ 500) := by show _ ≤ _; rw [List.length_append]; simp; omega
              clear hown4 hown5 hgr5 hnil5 hcl hB4 hb5 hV4 x0 x1 Hnone
              go_wp2
              go_roundg (s.size - j0)
              case measure => omega
              case rel => exact ⟨j0, l ++ [(2, sub)], v5, by omega, rfl, rfl, by go_num, HNE5.out, HLN.out, HNX.out, HO5.out, HB5.out⟩
end Go.Proofs.YtnpfgamlncfikaaGreatDoor

/-
  The model's l9Has, l9Word: whether a text may be a name in a table.
-/
namespace Go.Proofs.YtnpfgamlncfikaaGreatDoor
open Go.RowKit
set_option maxRecDepth 4000

/-- The words that are no names, as texts. -/
def kwT : List ByteArray := kwords.map (fun l => ⟨l.toArray⟩)
theorem isKw_iff (s : ByteArray) : isKw s = true ↔ ∃ i, i < 10 ∧ kwT.getD i ⟨#[]⟩ = s := by
  have key : ∀ l : List UInt8, s.toList = l ↔ (⟨l.toArray⟩ : ByteArray) = s := by
    intro l
    rw [ByteArray.toList_eq]
    constructor
    · rintro rfl; rfl
    · rintro rfl; rfl
  unfold isKw
  rw [List.contains_iff_mem]
  constructor
  · intro h
    obtain ⟨i, hi, e⟩ := List.mem_iff_getElem.1 h
    refine ⟨i, hi, ?_⟩
    have : kwT.getD i ⟨#[]⟩ = ⟨(kwords[i]'hi).toArray⟩ := by simp [kwT, List.getD, hi]
    rw [this, ← key, e]
  · rintro ⟨i, hi, e⟩
    have hi' : i < kwords.length := hi
    have : kwT.getD i ⟨#[]⟩ = ⟨(kwords[i]'hi').toArray⟩ := by simp [kwT, List.getD, hi']
    rw [this, ← key] at e
    rw [e]
    exact List.getElem_mem _

set_option maxHeartbeats 1000000 in
theorem l9Has_kw (b : Nat) (s : ByteArray) (w : World) (hz : ∀ i, i < 10 → w.cell? ⟨b, i, none⟩ = some (.string (kwT.getD i ⟨#[]⟩))) :
    Calls Tryz.prog 148 #[.slice (some ⟨b, 0, none⟩) 10 10, .string s] w fun e w' => e = .returned (.bool (isKw s)) ∧ w = w' := by
  go_enter Tryz.func148, Tryz.ntmps148
  go_wp2
  go_loopg [5] 10 (fun q i wr => ∃ k : Nat, k ≤ 10 ∧ q = 10 - k ∧ i = .int .i64 k ∧ wr = w ∧ ∀ j, j < k → kwT.getD j ⟨#[]⟩ ≠ s)
  case atStart => exact ⟨0, Nat.zero_le _, rfl, rfl, rfl, fun j hj => absurd hj (Nat.not_lt_zero _)⟩
  case round =>
    obtain ⟨k, hk, rfl, rfl, rfl, hall⟩ := hrel
    have HA : Hid (∀ j, j < k → kwT.getD j ⟨#[]⟩ ≠ s) := hall
    clear hall
    by_cases hlt : k < 10
    · have hkz : (k : Int) < 10 := by omega
      have hc := hz k hlt
      obtain ⟨z, hzz⟩ : ∃ z, Hid (kwT.getD k ⟨#[]⟩ = z) := ⟨_, rfl⟩
      rw [hzz.out] at hc
      clear hz
      by_cases he : z = s
      · have HF : Hid (isKw s = true) := (isKw_iff s).2 ⟨k, hlt, hzz.out.trans he⟩
        subst he
        go_wp2
        go_ret
        exact ⟨by rw [HF.out]; rfl, rfl⟩
      · have HN : Hid (∀ j, j < k + 1 → kwT.getD j ⟨#[]⟩ ≠ s) := by
          intro j hj
          by_cases e : j < k
          · exact HA.out j e
          · obtain rfl : j = k := by omega
            rw [hzz.out]; exact he
        have hne : (z.toList == s.toList) = false := by
          cases h : (z.toList == s.toList) with
          | false => rfl
          | true =>
            have h2 := eq_of_beq h
            rw [ByteArray.toList_eq, ByteArray.toList_eq] at h2
            exact absurd (by obtain ⟨⟨x⟩⟩ := z; obtain ⟨⟨y⟩⟩ := s; simp only at h2; rw [h2]) he
        clear he
        go_wp2
        go_roundg (10 - (k + 1))
        case measure => omega
        case rel => exact ⟨k + 1, by omega, rfl, by go_num, rfl, HN.out⟩
    · have hkz : ¬ (k : Int) < 10 := by omega
      obtain rfl : k = 10 := by omega
      have HF : Hid (isKw s = false) := by
        show _ = _
        cases h : isKw s with
        | false => rfl
        | true =>
          obtain ⟨i, hi, e⟩ := (isKw_iff s).1 h
          exact absurd e (HA.out i hi)
      clear hz
      go_wp2
      go_ret
      exact ⟨by rw [HF.out]; rfl, rfl⟩

set_option maxHeartbeats 1000000 in
theorem l9Word_any (s : ByteArray) (w : World) (hs : s.size ≤ 281474976710656) :
    Calls Tryz.prog 115 #[.string s] w fun e w' => e = .returned (.bool (wordOk s)) ∧ Below w.heap.size w w' := by
  have hN := l8Name_any s w hs
  have HW : Hid (wordOk s = (nameOk s && !isKw s)) := rfl
  have hz : ∀ i, i < 10 → (w.alloc (.cells (kwT.map Value.string).toArray 9)).cell? ⟨w.heap.size, i, none⟩ = some (.string (kwT.getD i ⟨#[]⟩)) := by
    intro i hi
    rw [World.cell?, show (w.alloc (.cells (kwT.map Value.string).toArray 9)).heap[w.heap.size]? = some (.cells (kwT.map Value.string).toArray 9) from Deep.blk_alloc_new _ _]
    have : i < kwT.length := hi
    simp [this]
  have hH := l9Has_kw w.heap.size s _ hz
  cases hn : nameOk s with
  | true =>
    rw [hn] at hN
    go_enter Tryz.func115, Tryz.ntmps115
    go_wp2_with fail
    refine hN.mono ?_
    rintro e _ ⟨rfl, rfl⟩
    clear hN hz
    go_wp2_with fail
    refine hH.mono ?_
    rintro e _ ⟨rfl, rfl⟩
    go_wp2
    go_ret
    exact ⟨by rw [HW.out, hn]; rfl, (Below.refl _ _).alloc (Nat.le_refl _) _⟩
  | false =>
    rw [hn] at hN
    go_enter Tryz.func115, Tryz.ntmps115
    go_wp2_with fail
    refine hN.mono ?_
    rintro e _ ⟨rfl, rfl⟩
    clear hN hz hH
    go_wp2
    go_ret
    exact ⟨by rw [HW.out, hn]; rfl, Below.refl _ _⟩
end Go.Proofs.YtnpfgamlncfikaaGreatDoor

