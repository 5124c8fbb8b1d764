/-
  LawLexed
-/
import Derived.Test.YtbpkonneliidiadPack1
import Derived.Test.YtbpkonneliidiadPack2
import Derived.Test.YtbpkonneliidiadPack3
import Derived.Deep.LoopGhost
import Derived.Deep.RegionHeld3
/-
  The law FnLexed, walked.
-/
namespace Go.Proofs.Ytbpkonneliidiad
open Go.RowKit
set_option maxRecDepth 4000

theorem neTok_run (k : Int) (s : ByteArray) (W : World) : (binOp .neq 40 (.agg #[.int .i64 k, .string s]) (.agg #[.int .i64 k, .string s])).run Try.prog W = .ok (.bool false) W := by
  simp [go_sem]
theorem lexF_none {s : ByteArray} {i : Nat} {l : List (Int × ByteArray)} (h : (lexF s i l).2 ≠ -1) : (lexF s i l).1 = [] := by
  by_cases hi : i < s.size
  · cases hb : blank (bt s i) with
    | true => rw [lexF_blank hi hb] at h ⊢; exact lexF_none h
    | false =>
      by_cases ht : tokOk (kindAt s i) (s.extract i (stopAt s i)) = true ∧ l.length ≠ 500
      · rw [lexF_tok hi hb ht.1 ht.2] at h ⊢; exact lexF_none h
      · rw [lexF_no hi hb ht]
  · rw [lexF_end hi] at h; exact absurd rfl h
  termination_by s.size - i
  decreasing_by all_goals (have := stopAt_gt s i; omega)

set_option linter.unusedSimpArgs false in
set_option maxHeartbeats 4000000 in
theorem lawLexed (ao : Option Addr) (N cap : Nat) (f : Nat → Int) (w : World) (hv0 : View w ao N cap f) (hlen : N ≤ 9223372036854775807) :
    Calls Try.prog 4 #[.slice ao N cap] w fun e w' => e = .returned (.bool true) ∧ Below w.heap.size w w' := by
  by_cases hbig : (1048576 : Int) < (N : Int)
  · go_enter Try.func4, Try.ntmps4
    go_wp2_with fail
    refine (big_any ao N cap w hlen).mono ?_
    rw [decide_eq_true hbig]
    rintro e _ ⟨rfl, rfl⟩
    go_wp2
    go_ret
    exact ⟨rfl, Below.refl _ _⟩
  have hN : N ≤ 1048576 := by omega
  go_enter Try.func4, Try.ntmps4
  go_wp2_with fail
  refine (big_any ao N cap w hlen).mono ?_
  rw [decide_eq_false (by omega : ¬ (1048576 : Int) < (N : Int))]
  rintro e _ ⟨rfl, rfl⟩
  clear hbig
  go_wp2_with fail
  refine (drawJoin_any ao N cap f w hN hv0).mono ?_
  rintro e w1 ⟨a1, l, c1, rfl, hl12, hok, hT1, hB1⟩
  have HOK : Hid (∀ i, i < l.length → tokOk (tk l i) (ts l i) = true) := hok
  have hJ := implJoin_any a1 l.length c1 (tk l) (ts l) w1 hT1 (by omega) (fun i hi => by have := tokOk_few (hok i hi); omega)
  have HLX : Hid (lexF (joinT (ts l) l.length) 0 [] = (l, -1)) := lex_join (by omega) hok
  have hJs := joinT_size (B := 8) (fun i hi => tokOk_few (hok i hi)) l.length (Nat.le_refl _)
  obtain ⟨J, hJJ⟩ : ∃ J, Hid (joinT (ts l) l.length = J) := ⟨_, rfl⟩
  rw [hJJ.out] at hJ HLX hJs
  clear hok
  go_wp2_with fail
  refine hJ.mono ?_
  rintro e w2 ⟨rfl, hb2⟩
  have hT2 := hT1.below hb2
  have hB2 := hB1.trans (hb2.mono hB1.size)
  have hL := implLex_any J w2 (by omega)
  rw [HLX.out] at hL
  obtain ⟨n1, hn1⟩ : ∃ n1, Hid (l.length = n1) := ⟨_, rfl⟩
  obtain ⟨fk, hfk⟩ : ∃ fk, Hid (tk l = fk) := ⟨_, rfl⟩
  obtain ⟨fs, hfs⟩ : ∃ fs, Hid (ts l = fs) := ⟨_, rfl⟩
  unfold LexTo at hL
  simp only [rowL_K] at hL
  rw [hn1.out] at hL hT2 hl12 HOK ⊢
  rw [hfk.out, hfs.out] at hL hT2 HOK
  clear hJ hT1 hb2 hB1 HLX hJs
  go_wp2_with fail
  refine hL.mono ?_
  rintro e w3 ⟨v3, rfl, -, hO3, hb3⟩
  obtain ⟨a3, c3, rfl, hT3x, -⟩ := tview_of_own hO3
  have hT3 := hT2.below hb3
  have hB3 := hB2.trans (hb3.mono hB2.size)
  clear hL hT2 hb3 hB2 hO3
  go_wp2_with fail
  refine (drawLex_any ao N cap f w3 hN (hv0.below hB3)).mono ?_
  rintro e w4 ⟨s, rfl, hs, hb4⟩
  have hT4 := hT3.below hb4
  have hT4x := hT3x.below hb4
  have hB4 := hB3.trans (hb4.mono hB3.size)
  have hI := implLex_any s w4 (by omega)
  have hP := fun W => specLex_any s W (by omega)
  have hr5 : (lexF s 0 []).1.length ≤ 500 := lexF_few s 0 [] (by simp)
  have HNO : Hid ((lexF s 0 []).2 ≠ -1 → (lexF s 0 []).1 = []) := lexF_none
  obtain ⟨⟨l2, p⟩, hr⟩ : ∃ r, Hid (lexF s 0 [] = r) := ⟨_, rfl⟩
  simp only [hr.out] at hP hr5
  rw [hr.out] at hI HNO
  have HN2 : Hid (p ≠ -1 → l2.length = 0) := fun h => by have := HNO.out h; simp only at this; rw [this]; rfl
  obtain ⟨n2, hn2⟩ : ∃ n2, Hid (l2.length = n2) := ⟨_, rfl⟩
  obtain ⟨gk, hgk⟩ : ∃ gk, Hid (tk l2 = gk) := ⟨_, rfl⟩
  obtain ⟨gs, hgs⟩ : ∃ gs, Hid (ts l2 = gs) := ⟨_, rfl⟩
  unfold LexTo at hI hP
  simp only [rowL_K] at hI hP
  rw [hn2.out] at HN2
  simp only [hn2.out, hgk.out, hgs.out] at hI hP hr5
  clear hT3 hT3x hb4 hB3 HNO
  go_wp2_with fail
  refine hI.mono ?_
  rintro e w5 ⟨v5, rfl, -, hO5, hb5⟩
  obtain ⟨a5, c5, rfl, hT5y, -⟩ := tview_of_own hO5
  have hT5 := hT4.below hb5
  have hT5x := hT4x.below hb5
  have hB5 := hB4.trans (hb5.mono hB4.size)
  clear hI hT4 hT4x hb5 hB4 hO5
  go_wp2_with fail
  refine (hP _).mono ?_
  rintro e w6 ⟨v6, rfl, -, hO6, hb6⟩
  obtain ⟨a6, c6, rfl, hT6z, -⟩ := tview_of_own hO6
  have hT6 := hT5.below hb6
  have hT6x := hT5x.below hb6
  have hT6y := hT5y.below hb6
  have hB6 := hB5.trans (hb6.mono hB5.size)
  clear hP hT5 hT5x hT5y hb6 hB5 hO6
  go_wp2_with fail
  refine (drawTokenOk_any ao N cap f w6 hN (hv0.below hB6)).mono ?_
  rintro e w7 ⟨tK, tS, rfl, htS, hb7⟩
  have hQ := TBox.new w7 tK tS
  have hb8 : Below w7.heap.size w7 (w7.alloc (.cells #[.int .i64 tK, .string tS] 40)) := (Below.refl _ _).alloc (Nat.le_refl _) _
  have hT8 := (hT6.below hb7).below hb8
  have hT8x := (hT6x.below hb7).below hb8
  have hT8y := (hT6y.below hb7).below hb8
  have hT8z := (hT6z.below hb7).below hb8
  have hB7 := hB6.trans (hb7.mono hB6.size)
  have hB8 := hB7.trans (hb8.mono hB7.size)
  obtain ⟨W8, hW8⟩ : ∃ W8, Hid (w7.alloc (.cells #[.int .i64 tK, .string tS] 40) = W8) := ⟨_, rfl⟩
  obtain ⟨Q, hQQ⟩ : ∃ Q, Hid (w7.heap.size = Q) := ⟨_, rfl⟩
  rw [hW8.out] at hQ hT8 hT8x hT8y hT8z hB8
  rw [hQQ.out] at hQ
  have hTI := fun W => implTokenOk_any tK tS W (by omega)
  have hTP := fun W => specTokenOk_any tK tS W (by omega)
  obtain ⟨o, ho⟩ : ∃ o, Hid (tokOk tK tS = o) := ⟨_, rfl⟩
  simp only [ho.out] at hTI hTP
  have hoo : (o != o) = false := by cases o <;> rfl
  have hpp : (p != p) = false := by simp
  have hn11 : ((n1 : Int) != (n1 : Int)) = false := by simp
  have hn22 : ((n2 : Int) != (n2 : Int)) = false := by simp
  obtain ⟨z0, z1⟩ := hQ.cells
  have HLT : Hid (Q < W8.heap.size) := hQ.lt
  clear hT6 hT6x hT6y hT6z hb7 hb8 hB6 hB7
  by_cases hp1 : p = -1
  · subst hp1
    go_wp2_with (rw [hW8.out, hQQ.out])
    refine wp_region_held_drew (S := fun W => W.cell? ⟨Q, 0, none⟩ = some (.int .i64 tK) ∧ W.cell? ⟨Q, 1, none⟩ = some (.string tS)) (by kernel_rfl) (⟨z0, z1⟩) (fun hHeld => ?_)
    refine' wpAnyH_take (i := 0) (v := _) rfl (by kernel_rfl) (by kernel_rfl) (by kernel_rfl) (fun _ _ _ h => h) (Or.inl ⟨by kernel_rfl, ?hyes0⟩) (by assumption) ?ryes0
    case hyes0 => intro W hW; go_simp; all_goals with_reducible rfl
    change wpAnyH _ _ _ _ _ _ _ (Act.put _ (some 38) _) _
    simp only [Act.put, List.setIfInBounds_toArray, List.set_cons_zero, List.set_cons_succ]
    refine' wpAnyH_take (i := 1) (v := _) rfl (by kernel_rfl) (by kernel_rfl) (by kernel_rfl) (fun _ _ _ h => h) (Or.inl ⟨by kernel_rfl, ?hyes1⟩) (by assumption) ?ryes1
    case hyes1 => intro W hW; go_simp; all_goals with_reducible rfl
    change wpAnyH _ _ _ _ _ _ _ (Act.put _ (some 39) _) _
    simp only [Act.put, List.setIfInBounds_toArray, List.set_cons_zero, List.set_cons_succ]
    refine' wpAnyH_take (i := 2) (v := _) rfl (by kernel_rfl) (by kernel_rfl) (by kernel_rfl) (fun _ _ _ h => h) (Or.inl ⟨by kernel_rfl, ?hyes2⟩) (by assumption) ?ryes2
    case hyes2 => intro W hW; go_simp; all_goals with_reducible rfl
    change wpAnyH _ _ _ _ _ _ _ (Act.put _ (some 40) _) _
    simp only [Act.put, List.setIfInBounds_toArray, List.set_cons_zero, List.set_cons_succ]
    refine' wpAnyH_take (i := 3) (v := _) rfl (by kernel_rfl) (by kernel_rfl) (by kernel_rfl) (fun _ _ _ h => h) (Or.inl ⟨by kernel_rfl, ?hyes3⟩) (by assumption) ?ryes3
    case hyes3 => intro W hW; go_simp; all_goals with_reducible rfl
    change wpAnyH _ _ _ _ _ _ _ (Act.put _ (some 41) _) _
    simp only [Act.put, List.setIfInBounds_toArray, List.set_cons_zero, List.set_cons_succ]
    refine' wpAnyH_take (i := 4) (v := _) rfl (by kernel_rfl) (by kernel_rfl) (by kernel_rfl) (fun _ _ _ h => h) (Or.inl ⟨by kernel_rfl, ?hyes4⟩) (by assumption) ?ryes4
    case hyes4 => intro W hW; go_simp; all_goals with_reducible rfl
    change wpAnyH _ _ _ _ _ _ _ (Act.put _ (some 42) _) _
    simp only [Act.put, List.setIfInBounds_toArray, List.set_cons_zero, List.set_cons_succ]
    refine' wpAnyH_take (i := 5) (v := _) rfl (by kernel_rfl) (by kernel_rfl) (by kernel_rfl) (fun _ _ _ h => h) (Or.inl ⟨by kernel_rfl, ?hyes5⟩) (by assumption) ?ryes5
    case hyes5 => intro W hW; go_simp; all_goals with_reducible rfl
    change wpAnyH _ _ _ _ _ _ _ (Act.put _ (some 43) _) _
    simp only [Act.put, List.setIfInBounds_toArray, List.set_cons_zero, List.set_cons_succ]
    refine' wpAnyH_take (i := 6) (v := _) rfl (by kernel_rfl) (by kernel_rfl) (by kernel_rfl) (fun _ _ _ h => h) (Or.inl ⟨by kernel_rfl, ?hyes6⟩) (by assumption) ?ryes6
    case hyes6 => intro W hW; go_simp; all_goals with_reducible rfl
    change wpAnyH _ _ _ _ _ _ _ (Act.put _ (some 44) _) _
    simp only [Act.put, List.setIfInBounds_toArray, List.set_cons_zero, List.set_cons_succ]
    refine' wpAnyH_take (i := 7) (v := _) rfl (by kernel_rfl) (by kernel_rfl) (by kernel_rfl) (fun _ _ _ h => h) (Or.inl ⟨by kernel_rfl, ?hyes7⟩) (by assumption) ?ryes7
    case hyes7 => intro W hW; go_simp; all_goals with_reducible rfl
    change wpAnyH _ _ _ _ _ _ _ (Act.put _ (some 45) _) _
    simp only [Act.put, List.setIfInBounds_toArray, List.set_cons_zero, List.set_cons_succ]
    refine' wpAnyH_take (i := 8) (v := _) rfl (by kernel_rfl) (by kernel_rfl) (by kernel_rfl) (fun _ _ _ h => h) (Or.inl ⟨by kernel_rfl, ?hyes8⟩) (by assumption) ?ryes8
    case hyes8 => intro W hW; go_simp; all_goals with_reducible rfl
    change wpAnyH _ _ _ _ _ _ _ (Act.put _ (some 46) _) _
    simp only [Act.put, List.setIfInBounds_toArray, List.set_cons_zero, List.set_cons_succ]
    refine' wpAnyH_take (i := 9) (v := _) rfl (by kernel_rfl) (by kernel_rfl) (by kernel_rfl) (fun _ _ _ h => h) (Or.inl ⟨by kernel_rfl, ?hyes9⟩) (by assumption) ?ryes9
    case hyes9 => intro W hW; go_simp; all_goals with_reducible rfl
    change wpAnyH _ _ _ _ _ _ _ (Act.put _ (some 47) _) _
    simp only [Act.put, List.setIfInBounds_toArray, List.set_cons_zero, List.set_cons_succ]
    refine' wpAnyH_take (i := 10) (v := _) rfl (by kernel_rfl) (by kernel_rfl) (by kernel_rfl) (fun _ _ _ h => h) (Or.inl ⟨by kernel_rfl, ?hyes10⟩) (by assumption) ?ryes10
    case hyes10 => intro W hW; go_simp; all_goals with_reducible rfl
    change wpAnyH _ _ _ _ _ _ _ (Act.put _ (some 48) _) _
    simp only [Act.put, List.setIfInBounds_toArray, List.set_cons_zero, List.set_cons_succ]
    refine' wpAnyH_take (i := 11) (v := _) rfl (by kernel_rfl) (by kernel_rfl) (by kernel_rfl) (fun _ _ _ h => h) (Or.inl ⟨by kernel_rfl, ?hyes11⟩) (by assumption) ?ryes11
    case hyes11 => intro W hW; go_simp; all_goals with_reducible rfl
    change wpAnyH _ _ _ _ _ _ _ (Act.put _ (some 49) _) _
    simp only [Act.put, List.setIfInBounds_toArray, List.set_cons_zero, List.set_cons_succ]
    refine' wpAnyH_take (i := 12) (v := _) rfl (by kernel_rfl) (by kernel_rfl) (by kernel_rfl) (fun _ _ _ h => h) (Or.inl ⟨by kernel_rfl, ?hyes12⟩) (by assumption) ?ryes12
    case hyes12 => intro W hW; go_simp; all_goals with_reducible rfl
    change wpAnyH _ _ _ _ _ _ _ (Act.put _ (some 50) _) _
    simp only [Act.put, List.setIfInBounds_toArray, List.set_cons_zero, List.set_cons_succ]
    refine' wpAnyH_take (i := 13) (v := _) rfl (by kernel_rfl) (by kernel_rfl) (by kernel_rfl) (fun _ _ _ h => h) (Or.inl ⟨by kernel_rfl, ?hyes13⟩) (by assumption) ?ryes13
    case hyes13 => intro W hW; go_simp; all_goals with_reducible rfl
    change wpAnyH _ _ _ _ _ _ _ (Act.put _ (some 51) _) _
    simp only [Act.put, List.setIfInBounds_toArray, List.set_cons_zero, List.set_cons_succ]
    refine' wpAnyH_take (i := 14) (v := _) rfl (by kernel_rfl) (by kernel_rfl) (by kernel_rfl) (fun _ _ _ h => h) (Or.inl ⟨by kernel_rfl, ?hyes14⟩) (by assumption) ?ryes14
    case hyes14 => intro W hW; go_simp; all_goals with_reducible rfl
    change wpAnyH _ _ _ _ _ _ _ (Act.put _ (some 52) _) _
    simp only [Act.put, List.setIfInBounds_toArray, List.set_cons_zero, List.set_cons_succ]
    refine' wpAnyH_take (i := 15) (v := _) rfl (by kernel_rfl) (by kernel_rfl) (by kernel_rfl) (fun _ _ _ h => h) (Or.inl ⟨by kernel_rfl, ?hyes15⟩) (by assumption) ?ryes15
    case hyes15 => intro W hW; go_simp; all_goals with_reducible rfl
    change wpAnyH _ _ _ _ _ _ _ (Act.put _ (some 53) _) _
    simp only [Act.put, List.setIfInBounds_toArray, List.set_cons_zero, List.set_cons_succ]
    refine' wpAnyH_take (i := 16) (v := _) rfl (by kernel_rfl) (by kernel_rfl) (by kernel_rfl) (fun _ _ _ h => h) (Or.inl ⟨by kernel_rfl, ?hyes16⟩) (by assumption) ?ryes16
    case hyes16 => intro W hW; go_simp; all_goals with_reducible rfl
    change wpAnyH _ _ _ _ _ _ _ (Act.put _ (some 54) _) _
    simp only [Act.put, List.setIfInBounds_toArray, List.set_cons_zero, List.set_cons_succ]
    refine' wpAnyH_take (i := 17) (v := _) rfl (by kernel_rfl) (by kernel_rfl) (by kernel_rfl) (fun _ _ _ h => h) (Or.inl ⟨by kernel_rfl, ?hyes17⟩) (by assumption) ?ryes17
    case hyes17 => intro W hW; go_simp; all_goals with_reducible rfl
    change wpAnyH _ _ _ _ _ _ _ (Act.put _ (some 55) _) _
    simp only [Act.put, List.setIfInBounds_toArray, List.set_cons_zero, List.set_cons_succ]
    refine' wpAnyH_take (i := 18) (v := _) rfl (by kernel_rfl) (by kernel_rfl) (by kernel_rfl) (fun _ _ _ h => h) (Or.inl ⟨by kernel_rfl, ?hyes18⟩) (by assumption) ?ryes18
    case hyes18 => intro W hW; go_simp; all_goals with_reducible rfl
    change wpAnyH _ _ _ _ _ _ _ (Act.put _ (some 56) _) _
    simp only [Act.put, List.setIfInBounds_toArray, List.set_cons_zero, List.set_cons_succ]
    refine' wpAnyH_take (i := 19) (v := _) rfl (by kernel_rfl) (by kernel_rfl) (by kernel_rfl) (fun _ _ _ h => h) (Or.inl ⟨by kernel_rfl, ?hyes19⟩) (by assumption) ?ryes19
    case hyes19 => intro W hW; go_simp; all_goals with_reducible rfl
    change wpAnyH _ _ _ _ _ _ _ (Act.put _ (some 57) _) _
    simp only [Act.put, List.setIfInBounds_toArray, List.set_cons_zero, List.set_cons_succ]
    refine' wpAnyH_take (i := 20) (v := _) rfl (by kernel_rfl) (by kernel_rfl) (by kernel_rfl) (fun _ _ _ h => h) (Or.inl ⟨by kernel_rfl, ?hyes20⟩) (by assumption) ?ryes20
    case hyes20 => intro W hW; go_simp; all_goals with_reducible rfl
    change wpAnyH _ _ _ _ _ _ _ (Act.put _ (some 58) _) _
    simp only [Act.put, List.setIfInBounds_toArray, List.set_cons_zero, List.set_cons_succ]
    refine' wpAnyH_take (i := 21) (v := _) rfl (by kernel_rfl) (by kernel_rfl) (by kernel_rfl) (fun _ _ _ h => h) (Or.inl ⟨by kernel_rfl, ?hyes21⟩) (by assumption) ?ryes21
    case hyes21 => intro W hW; go_simp; all_goals with_reducible rfl
    change wpAnyH _ _ _ _ _ _ _ (Act.put _ (some 59) _) _
    simp only [Act.put, List.setIfInBounds_toArray, List.set_cons_zero, List.set_cons_succ]
    refine' wpAnyH_take (i := 22) (v := _) rfl (by kernel_rfl) (by kernel_rfl) (by kernel_rfl) (fun _ _ _ h => h) (Or.inl ⟨by kernel_rfl, ?hyes22⟩) (by assumption) ?ryes22
    case hyes22 => intro W hW; obtain ⟨hW0, hW1⟩ := hW; go_simp; all_goals with_reducible rfl
    change wpAnyH _ _ _ _ _ _ _ (Act.put _ (some 60) _) _
    simp only [Act.put, List.setIfInBounds_toArray, List.set_cons_zero, List.set_cons_succ]
    refine' wpAnyH_take (i := 24) (v := _) rfl (by kernel_rfl) (by kernel_rfl) (by kernel_rfl) (fun _ _ _ h => h) (Or.inl ⟨by kernel_rfl, ?hyes24⟩) (by assumption) ?ryes24
    case hyes24 => intro W hW; obtain ⟨hW0, hW1⟩ := hW; go_simp; all_goals with_reducible rfl
    change wpAnyH _ _ _ _ _ _ _ (Act.put _ (some 62) _) _
    simp only [Act.put, List.setIfInBounds_toArray, List.set_cons_zero, List.set_cons_succ]
    refine wpAnyH_ready (rs := [23]) (by kernel_rfl) (by simp) ?_
    refine AllReadyH.cons rfl (fun KK hK => ?_) AllReadyH.nil
    go_simp
    refine (hTI _).mono ?_
    rintro e w9 ⟨rfl, hb9⟩
    have hz9 : w9.cell? ⟨Q, 0, none⟩ = some (.int .i64 tK) ∧ w9.cell? ⟨Q, 1, none⟩ = some (.string tS) := by rw [hb9.cell (p := ⟨Q, 0, none⟩) HLT.out, hb9.cell (p := ⟨Q, 1, none⟩) HLT.out]; exact ⟨z0, z1⟩
    go_wp2_with fail
    refine hK.out _ _ hz9 (fun hHeld => ?_)
    clear hK KK
    try simp only [Act.put, List.setIfInBounds_toArray, List.set_cons_zero, List.set_cons_succ]
    refine wpAnyH_ready (rs := [25]) (by kernel_rfl) (by simp) ?_
    refine AllReadyH.cons rfl (fun KK hK => ?_) AllReadyH.nil
    go_simp
    refine (hTP _).mono ?_
    rintro e w10 ⟨rfl, hb10⟩
    have hz10 : w10.cell? ⟨Q, 0, none⟩ = some (.int .i64 tK) ∧ w10.cell? ⟨Q, 1, none⟩ = some (.string tS) := by rw [hb10.cell (p := ⟨Q, 0, none⟩) (Nat.lt_of_lt_of_le HLT.out hb9.size), hb10.cell (p := ⟨Q, 1, none⟩) (Nat.lt_of_lt_of_le HLT.out hb9.size)]; exact hz9
    go_wp2_with fail
    refine hK.out _ _ hz10 (fun hHeld => ?_)
    clear hK KK
    try simp only [Act.put, List.setIfInBounds_toArray, List.set_cons_zero, List.set_cons_succ]
    refine' wpAnyH_take (i := 26) (v := _) rfl (by kernel_rfl) (by kernel_rfl) (by kernel_rfl) (fun _ _ _ h => h) (Or.inl ⟨by kernel_rfl, ?hyes26⟩) (by assumption) ?ryes26
    case hyes26 => intro W hW; go_simp; all_goals with_reducible rfl
    change wpAnyH _ _ _ _ _ _ _ (Act.put _ (some 64) _) _
    simp only [Act.put, List.setIfInBounds_toArray, List.set_cons_zero, List.set_cons_succ]
    refine' wpAnyH_take (i := 27) (v := _) rfl (by kernel_rfl) (by kernel_rfl) (by kernel_rfl) (fun _ _ _ h => h) (Or.inl ⟨by kernel_rfl, ?hyes27⟩) (by assumption) ?ryes27
    case hyes27 => intro W hW; go_simp; all_goals with_reducible rfl
    change wpAnyH _ _ _ _ _ _ _ (Act.put _ (some 65) _) _
    simp only [Act.put, List.setIfInBounds_toArray, List.set_cons_zero, List.set_cons_succ]
    refine' wpAnyH_take (i := 28) (v := _) rfl (by kernel_rfl) (by kernel_rfl) (by kernel_rfl) (fun _ _ _ h => h) (Or.inl ⟨by kernel_rfl, ?hyes28⟩) (by assumption) ?ryes28
    case hyes28 => intro W hW; go_simp; all_goals with_reducible rfl
    change wpAnyH _ _ _ _ _ _ _ (Act.put _ (some 66) _) _
    simp only [Act.put, List.setIfInBounds_toArray, List.set_cons_zero, List.set_cons_succ]
    refine' wpAnyH_take (i := 29) (v := _) rfl (by kernel_rfl) (by kernel_rfl) (by kernel_rfl) (fun _ _ _ h => h) (Or.inl ⟨by kernel_rfl, ?hyes29⟩) (by assumption) ?ryes29
    case hyes29 => intro W hW; go_simp; all_goals with_reducible rfl
    change wpAnyH _ _ _ _ _ _ _ (Act.put _ (some 67) _) _
    simp only [Act.put, List.setIfInBounds_toArray, List.set_cons_zero, List.set_cons_succ]
    refine' wpAnyH_take (i := 30) (v := _) rfl (by kernel_rfl) (by kernel_rfl) (by kernel_rfl) (fun _ _ _ h => h) (Or.inl ⟨by kernel_rfl, ?hyes30⟩) (by assumption) ?ryes30
    case hyes30 => intro W hW; go_simp; all_goals with_reducible rfl
    change wpAnyH _ _ _ _ _ _ _ (Act.put _ (some 68) _) _
    simp only [Act.put, List.setIfInBounds_toArray, List.set_cons_zero, List.set_cons_succ]
    refine' wpAnyH_take (i := 31) (v := _) rfl (by kernel_rfl) (by kernel_rfl) (by kernel_rfl) (fun _ _ _ h => h) (Or.inl ⟨by kernel_rfl, ?hyes31⟩) (by assumption) ?ryes31
    case hyes31 => intro W hW; go_simp; all_goals with_reducible rfl
    change wpAnyH _ _ _ _ _ _ _ (Act.put _ (some 69) _) _
    simp only [Act.put, List.setIfInBounds_toArray, List.set_cons_zero, List.set_cons_succ]
    refine wpAnyH_take (i := 32) (v := undef) rfl (by kernel_rfl) (by kernel_rfl) (by kernel_rfl) (fun _ _ _ h => h) (Or.inr ⟨by kernel_rfl, rfl⟩) (by assumption) ?_
    change wpAnyH _ _ _ _ _ _ _ (Act.put _ (some 70) _) _
    simp only [Act.put, List.setIfInBounds_toArray, List.set_cons_zero, List.set_cons_succ]
    refine wpAnyH_take (i := 33) (v := undef) rfl (by kernel_rfl) (by kernel_rfl) (by kernel_rfl) (fun _ _ _ h => h) (Or.inr ⟨by kernel_rfl, rfl⟩) (by assumption) ?_
    change wpAnyH _ _ _ _ _ _ _ (Act.put _ (some 71) _) _
    simp only [Act.put, List.setIfInBounds_toArray, List.set_cons_zero, List.set_cons_succ]
    refine wpAnyH_take (i := 34) (v := undef) rfl (by kernel_rfl) (by kernel_rfl) (by kernel_rfl) (fun _ _ _ h => h) (Or.inr ⟨by kernel_rfl, rfl⟩) (by assumption) ?_
    change wpAnyH _ _ _ _ _ _ _ (Act.put _ (some 72) _) _
    simp only [Act.put, List.setIfInBounds_toArray, List.set_cons_zero, List.set_cons_succ]
    refine' wpAnyH_take (i := 35) (v := _) rfl (by kernel_rfl) (by kernel_rfl) (by kernel_rfl) (fun _ _ _ h => h) (Or.inl ⟨by kernel_rfl, ?hyes35⟩) (by assumption) ?ryes35
    case hyes35 => intro W hW; go_simp; all_goals with_reducible rfl
    change wpAnyH _ _ _ _ _ _ _ (Act.put _ (some 73) _) _
    simp only [Act.put, List.setIfInBounds_toArray, List.set_cons_zero, List.set_cons_succ]
    refine' wpAnyH_take (i := 36) (v := _) rfl (by kernel_rfl) (by kernel_rfl) (by kernel_rfl) (fun _ _ _ h => h) (Or.inl ⟨by kernel_rfl, ?hyes36⟩) (by assumption) ?ryes36
    case hyes36 => intro W hW; go_simp; all_goals with_reducible rfl
    change wpAnyH _ _ _ _ _ _ _ (Act.put _ (some 74) _) _
    simp only [Act.put, List.setIfInBounds_toArray, List.set_cons_zero, List.set_cons_succ]
    refine wpAnyH_done (by kernel_rfl) ?_ _
    have hbb : Below W8.heap.size W8 w10 := (Below.drew (Below.refl _ _)).trans (hb9.trans (hb10.mono hb9.size))
    have hT10 := hT8.below hbb
    have hT10x := hT8x.below hbb
    have hT10y := hT8y.below hbb
    have hT10z := hT8z.below hbb
    have hB10 := hB8.trans (hbb.mono hB8.size)
    clear hHeld hz9 hz10 hb9 hb10 hbb hTP hT8 hT8x hT8y hT8z hB8 z0 z1 hQ
    clear hQQ hW8 hTI hoo hHeld
    go_wp2
    go_loopg [12] n1 (fun q i wr => ∃ k : Nat, k ≤ n1 ∧ q = n1 - k ∧ i = .int .i64 k ∧ Below w10.heap.size w10 wr)
    case atStart => exact ⟨0, Nat.zero_le _, rfl, rfl, Below.refl _ _⟩
    case round =>
      obtain ⟨k, hk, rfl, rfl, hBr⟩ := hrel
      by_cases hlt : k < n1
      · have hkz : (k : Int) < (n1 : Int) := by omega
        have hok := HOK.out k hlt
        obtain ⟨bx, ox, rfl, hbx, hcx⟩ := (hT10x.below hBr).cells (by omega)
        obtain ⟨bl, ol, rfl, hbl, hcl⟩ := (hT10.below hBr).cells (by omega)
        obtain ⟨x0, x1⟩ := hcx k hlt
        obtain ⟨y0, y1⟩ := hcl k hlt
        obtain ⟨p0, hp0⟩ : ∃ p0, Hid (fk k = p0) := ⟨_, rfl⟩
        obtain ⟨p2, hp2⟩ : ∃ p2, Hid (fs k = p2) := ⟨_, rfl⟩
        rw [hp0.out] at hok x0 y0
        rw [hp2.out] at hok x1 y1
        have hTI := fun W => implTokenOk_any p0 p2 W (by have := tokOk_few hok; omega)
        rw [hok] at hTI
        have hq := neTok_run p0 p2
        clear hcx hcl hok
        go_wp2_with fail
        refine wp_region_held_drew (S := fun W => (W.cell? ⟨bx, ox + k * 2, none⟩ = some (.int .i64 p0) ∧ W.cell? ⟨bx, ox + k * 2 + 1, none⟩ = some (.string p2)) ∧ (W.cell? ⟨bl, ol + k * 2, none⟩ = some (.int .i64 p0) ∧ W.cell? ⟨bl, ol + k * 2 + 1, none⟩ = some (.string p2))) (by kernel_rfl) (⟨⟨x0, x1⟩, y0, y1⟩) (fun hHeld => ?_)
        refine' wpAnyH_take (i := 0) (v := _) rfl (by kernel_rfl) (by kernel_rfl) (by kernel_rfl) (fun _ _ _ h => h) (Or.inl ⟨by kernel_rfl, ?hyesl0⟩) (by assumption) ?ryesl0
        case hyesl0 => intro W hW; go_simp; all_goals with_reducible rfl
        change wpAnyH _ _ _ _ _ _ _ (Act.put _ (some 81) _) _
        simp only [Act.put, List.setIfInBounds_toArray, List.set_cons_zero, List.set_cons_succ]
        refine' wpAnyH_take (i := 1) (v := _) rfl (by kernel_rfl) (by kernel_rfl) (by kernel_rfl) (fun _ _ _ h => h) (Or.inl ⟨by kernel_rfl, ?hyesl1⟩) (by assumption) ?ryesl1
        case hyesl1 => intro W hW; go_simp; all_goals with_reducible rfl
        change wpAnyH _ _ _ _ _ _ _ (Act.put _ (some 82) _) _
        simp only [Act.put, List.setIfInBounds_toArray, List.set_cons_zero, List.set_cons_succ]
        refine' wpAnyH_take (i := 2) (v := _) rfl (by kernel_rfl) (by kernel_rfl) (by kernel_rfl) (fun _ _ _ h => h) (Or.inl ⟨by kernel_rfl, ?hyesl2⟩) (by assumption) ?ryesl2
        case hyesl2 => intro W hW; go_simp; all_goals with_reducible rfl
        change wpAnyH _ _ _ _ _ _ _ (Act.put _ (some 83) _) _
        simp only [Act.put, List.setIfInBounds_toArray, List.set_cons_zero, List.set_cons_succ]
        refine' wpAnyH_take (i := 3) (v := _) rfl (by kernel_rfl) (by kernel_rfl) (by kernel_rfl) (fun _ _ _ h => h) (Or.inl ⟨by kernel_rfl, ?hyesl3⟩) (by assumption) ?ryesl3
        case hyesl3 => intro W hW; obtain ⟨⟨hW0, hW1⟩, hW2, hW3⟩ := hW; go_simp; all_goals with_reducible rfl
        change wpAnyH _ _ _ _ _ _ _ (Act.put _ (some 84) _) _
        simp only [Act.put, List.setIfInBounds_toArray, List.set_cons_zero, List.set_cons_succ]
        refine' wpAnyH_take (i := 4) (v := _) rfl (by kernel_rfl) (by kernel_rfl) (by kernel_rfl) (fun _ _ _ h => h) (Or.inl ⟨by kernel_rfl, ?hyesl4⟩) (by assumption) ?ryesl4
        case hyesl4 => intro W hW; go_simp; all_goals with_reducible rfl
        change wpAnyH _ _ _ _ _ _ _ (Act.put _ (some 85) _) _
        simp only [Act.put, List.setIfInBounds_toArray, List.set_cons_zero, List.set_cons_succ]
        refine' wpAnyH_take (i := 5) (v := _) rfl (by kernel_rfl) (by kernel_rfl) (by kernel_rfl) (fun _ _ _ h => h) (Or.inl ⟨by kernel_rfl, ?hyesl5⟩) (by assumption) ?ryesl5
        case hyesl5 => intro W hW; go_simp; all_goals with_reducible rfl
        change wpAnyH _ _ _ _ _ _ _ (Act.put _ (some 86) _) _
        simp only [Act.put, List.setIfInBounds_toArray, List.set_cons_zero, List.set_cons_succ]
        refine' wpAnyH_take (i := 6) (v := _) rfl (by kernel_rfl) (by kernel_rfl) (by kernel_rfl) (fun _ _ _ h => h) (Or.inl ⟨by kernel_rfl, ?hyesl6⟩) (by assumption) ?ryesl6
        case hyesl6 => intro W hW; go_simp; all_goals with_reducible rfl
        change wpAnyH _ _ _ _ _ _ _ (Act.put _ (some 87) _) _
        simp only [Act.put, List.setIfInBounds_toArray, List.set_cons_zero, List.set_cons_succ]
        refine' wpAnyH_take (i := 7) (v := _) rfl (by kernel_rfl) (by kernel_rfl) (by kernel_rfl) (fun _ _ _ h => h) (Or.inl ⟨by kernel_rfl, ?hyesl7⟩) (by assumption) ?ryesl7
        case hyesl7 => intro W hW; obtain ⟨⟨hW0, hW1⟩, hW2, hW3⟩ := hW; go_simp; all_goals with_reducible rfl
        change wpAnyH _ _ _ _ _ _ _ (Act.put _ (some 88) _) _
        simp only [Act.put, List.setIfInBounds_toArray, List.set_cons_zero, List.set_cons_succ]
        refine' wpAnyH_take (i := 8) (v := _) rfl (by kernel_rfl) (by kernel_rfl) (by kernel_rfl) (fun _ _ _ h => h) (Or.inl ⟨by kernel_rfl, ?hyesl8⟩) (by assumption) ?ryesl8
        case hyesl8 => intro W hW; go_simp; all_goals with_reducible rfl
        change wpAnyH _ _ _ _ _ _ _ (Act.put _ (some 89) _) _
        simp only [Act.put, List.setIfInBounds_toArray, List.set_cons_zero, List.set_cons_succ]
        refine' wpAnyH_take (i := 9) (v := _) rfl (by kernel_rfl) (by kernel_rfl) (by kernel_rfl) (fun _ _ _ h => h) (Or.inl ⟨by kernel_rfl, ?hyesl9⟩) (by assumption) ?ryesl9
        case hyesl9 => intro W hW; go_simp; all_goals with_reducible rfl
        change wpAnyH _ _ _ _ _ _ _ (Act.put _ (some 90) _) _
        simp only [Act.put, List.setIfInBounds_toArray, List.set_cons_zero, List.set_cons_succ]
        refine' wpAnyH_take (i := 10) (v := _) rfl (by kernel_rfl) (by kernel_rfl) (by kernel_rfl) (fun _ _ _ h => h) (Or.inl ⟨by kernel_rfl, ?hyesl10⟩) (by assumption) ?ryesl10
        case hyesl10 => intro W hW; go_simp; all_goals with_reducible rfl
        change wpAnyH _ _ _ _ _ _ _ (Act.put _ (some 91) _) _
        simp only [Act.put, List.setIfInBounds_toArray, List.set_cons_zero, List.set_cons_succ]
        refine' wpAnyH_take (i := 11) (v := _) rfl (by kernel_rfl) (by kernel_rfl) (by kernel_rfl) (fun _ _ _ h => h) (Or.inl ⟨by kernel_rfl, ?hyesl11⟩) (by assumption) ?ryesl11
        case hyesl11 => intro W hW; go_simp; all_goals with_reducible rfl
        change wpAnyH _ _ _ _ _ _ _ (Act.put _ (some 92) _) _
        simp only [Act.put, List.setIfInBounds_toArray, List.set_cons_zero, List.set_cons_succ]
        refine' wpAnyH_take (i := 12) (v := _) rfl (by kernel_rfl) (by kernel_rfl) (by kernel_rfl) (fun _ _ _ h => h) (Or.inl ⟨by kernel_rfl, ?hyesl12⟩) (by assumption) ?ryesl12
        case hyesl12 => intro W hW; go_simp; all_goals with_reducible rfl
        change wpAnyH _ _ _ _ _ _ _ (Act.put _ (some 93) _) _
        simp only [Act.put, List.setIfInBounds_toArray, List.set_cons_zero, List.set_cons_succ]
        refine' wpAnyH_take (i := 13) (v := _) rfl (by kernel_rfl) (by kernel_rfl) (by kernel_rfl) (fun _ _ _ h => h) (Or.inl ⟨by kernel_rfl, ?hyesl13⟩) (by assumption) ?ryesl13
        case hyesl13 => intro W hW; obtain ⟨⟨hW0, hW1⟩, hW2, hW3⟩ := hW; go_simp; all_goals with_reducible rfl
        change wpAnyH _ _ _ _ _ _ _ (Act.put _ (some 94) _) _
        simp only [Act.put, List.setIfInBounds_toArray, List.set_cons_zero, List.set_cons_succ]
        refine wpAnyH_ready (rs := [14]) (by kernel_rfl) (by simp) ?_
        refine AllReadyH.cons rfl (fun KK hK => ?_) AllReadyH.nil
        go_simp
        refine (hTI _).mono ?_
        rintro e w11 ⟨rfl, hb11⟩
        go_wp2_with fail
        refine hK.out _ _ (by refine ⟨⟨?_, ?_⟩, ?_, ?_⟩ <;> (rw [hb11.cell (by first | exact hbx | exact hbl)]; assumption)) (fun hHeld => ?_)
        clear hK KK
        try simp only [Act.put, List.setIfInBounds_toArray, List.set_cons_zero, List.set_cons_succ]
        refine' wpAnyH_take (i := 15) (v := _) rfl (by kernel_rfl) (by kernel_rfl) (by kernel_rfl) (fun _ _ _ h => h) (Or.inl ⟨by kernel_rfl, ?hyesl15⟩) (by assumption) ?ryesl15
        case hyesl15 => intro W hW; go_simp; all_goals with_reducible rfl
        change wpAnyH _ _ _ _ _ _ _ (Act.put _ (some 96) _) _
        simp only [Act.put, List.setIfInBounds_toArray, List.set_cons_zero, List.set_cons_succ]
        refine' wpAnyH_take (i := 16) (v := _) rfl (by kernel_rfl) (by kernel_rfl) (by kernel_rfl) (fun _ _ _ h => h) (Or.inl ⟨by kernel_rfl, ?hyesl16⟩) (by assumption) ?ryesl16
        case hyesl16 => intro W hW; go_simp; all_goals with_reducible rfl
        change wpAnyH _ _ _ _ _ _ _ (Act.put _ (some 97) _) _
        simp only [Act.put, List.setIfInBounds_toArray, List.set_cons_zero, List.set_cons_succ]
        refine wpAnyH_done (by kernel_rfl) ?_ _
        have HB11 : Hid (Below w10.heap.size w10 w11) := hBr.trans (Below.trans (Below.drew (Below.refl _ _)) (hb11.mono hBr.size))
        clear hHeld x0 x1 y0 y1 hTI hq hb11
        go_wp2
        go_roundg (n1 - (k + 1))
        case measure => omega
        case rel => exact ⟨k + 1, by omega, rfl, by go_num, HB11.out⟩
      · have hkz : ¬ (k : Int) < (n1 : Int) := by omega
        have hT11y := hT10y.below hBr
        have hT11z := hT10z.below hBr
        have hB11 := hB10.trans (hBr.mono hB10.size)
        clear hT10 hT10x hT10y hT10z hB10 hBr
        go_wp2
        go_loopg [13] n2 (fun q i wr2 => ∃ j : Nat, j ≤ n2 ∧ q = n2 - j ∧ i = .int .i64 j ∧ Below wr.heap.size wr wr2)
        case atStart => exact ⟨0, Nat.zero_le _, rfl, rfl, Below.refl _ _⟩
        case round =>
          obtain ⟨j, hj, rfl, rfl, hBr⟩ := hrel
          by_cases hlt2 : j < n2
          · have hjz : (j : Int) < (n2 : Int) := by omega
            obtain ⟨bx, ox, rfl, hbx, hcx⟩ := (hT11y.below hBr).cells (by omega)
            obtain ⟨bl, ol, rfl, hbl, hcl⟩ := (hT11z.below hBr).cells (by omega)
            obtain ⟨x0, x1⟩ := hcx j hlt2
            obtain ⟨y0, y1⟩ := hcl j hlt2
            obtain ⟨p0, hp0⟩ : ∃ p0, Hid (gk j = p0) := ⟨_, rfl⟩
            obtain ⟨p2, hp2⟩ : ∃ p2, Hid (gs j = p2) := ⟨_, rfl⟩
            rw [hp0.out] at x0 y0
            rw [hp2.out] at x1 y1
            have hq := neTok_run p0 p2
            clear hcx hcl
            go_wp2_with fail
            refine wp_region_held_drew (S := fun W => (W.cell? ⟨bx, ox + j * 2, none⟩ = some (.int .i64 p0) ∧ W.cell? ⟨bx, ox + j * 2 + 1, none⟩ = some (.string p2)) ∧ (W.cell? ⟨bl, ol + j * 2, none⟩ = some (.int .i64 p0) ∧ W.cell? ⟨bl, ol + j * 2 + 1, none⟩ = some (.string p2))) (by kernel_rfl) (⟨⟨x0, x1⟩, y0, y1⟩) (fun hHeld => ?_)
            refine' wpAnyH_take (i := 0) (v := _) rfl (by kernel_rfl) (by kernel_rfl) (by kernel_rfl) (fun _ _ _ h => h) (Or.inl ⟨by kernel_rfl, ?hyesm0⟩) (by assumption) ?ryesm0
            case hyesm0 => intro W hW; go_simp; all_goals with_reducible rfl
            change wpAnyH _ _ _ _ _ _ _ (Act.put _ (some 104) _) _
            simp only [Act.put, List.setIfInBounds_toArray, List.set_cons_zero, List.set_cons_succ]
            refine' wpAnyH_take (i := 1) (v := _) rfl (by kernel_rfl) (by kernel_rfl) (by kernel_rfl) (fun _ _ _ h => h) (Or.inl ⟨by kernel_rfl, ?hyesm1⟩) (by assumption) ?ryesm1
            case hyesm1 => intro W hW; go_simp; all_goals with_reducible rfl
            change wpAnyH _ _ _ _ _ _ _ (Act.put _ (some 105) _) _
            simp only [Act.put, List.setIfInBounds_toArray, List.set_cons_zero, List.set_cons_succ]
            refine' wpAnyH_take (i := 2) (v := _) rfl (by kernel_rfl) (by kernel_rfl) (by kernel_rfl) (fun _ _ _ h => h) (Or.inl ⟨by kernel_rfl, ?hyesm2⟩) (by assumption) ?ryesm2
            case hyesm2 => intro W hW; go_simp; all_goals with_reducible rfl
            change wpAnyH _ _ _ _ _ _ _ (Act.put _ (some 106) _) _
            simp only [Act.put, List.setIfInBounds_toArray, List.set_cons_zero, List.set_cons_succ]
            refine' wpAnyH_take (i := 3) (v := _) rfl (by kernel_rfl) (by kernel_rfl) (by kernel_rfl) (fun _ _ _ h => h) (Or.inl ⟨by kernel_rfl, ?hyesm3⟩) (by assumption) ?ryesm3
            case hyesm3 => intro W hW; obtain ⟨⟨hW0, hW1⟩, hW2, hW3⟩ := hW; go_simp; all_goals with_reducible rfl
            change wpAnyH _ _ _ _ _ _ _ (Act.put _ (some 107) _) _
            simp only [Act.put, List.setIfInBounds_toArray, List.set_cons_zero, List.set_cons_succ]
            refine' wpAnyH_take (i := 4) (v := _) rfl (by kernel_rfl) (by kernel_rfl) (by kernel_rfl) (fun _ _ _ h => h) (Or.inl ⟨by kernel_rfl, ?hyesm4⟩) (by assumption) ?ryesm4
            case hyesm4 => intro W hW; go_simp; all_goals with_reducible rfl
            change wpAnyH _ _ _ _ _ _ _ (Act.put _ (some 108) _) _
            simp only [Act.put, List.setIfInBounds_toArray, List.set_cons_zero, List.set_cons_succ]
            refine' wpAnyH_take (i := 5) (v := _) rfl (by kernel_rfl) (by kernel_rfl) (by kernel_rfl) (fun _ _ _ h => h) (Or.inl ⟨by kernel_rfl, ?hyesm5⟩) (by assumption) ?ryesm5
            case hyesm5 => intro W hW; go_simp; all_goals with_reducible rfl
            change wpAnyH _ _ _ _ _ _ _ (Act.put _ (some 109) _) _
            simp only [Act.put, List.setIfInBounds_toArray, List.set_cons_zero, List.set_cons_succ]
            refine' wpAnyH_take (i := 6) (v := _) rfl (by kernel_rfl) (by kernel_rfl) (by kernel_rfl) (fun _ _ _ h => h) (Or.inl ⟨by kernel_rfl, ?hyesm6⟩) (by assumption) ?ryesm6
            case hyesm6 => intro W hW; go_simp; all_goals with_reducible rfl
            change wpAnyH _ _ _ _ _ _ _ (Act.put _ (some 110) _) _
            simp only [Act.put, List.setIfInBounds_toArray, List.set_cons_zero, List.set_cons_succ]
            refine' wpAnyH_take (i := 7) (v := _) rfl (by kernel_rfl) (by kernel_rfl) (by kernel_rfl) (fun _ _ _ h => h) (Or.inl ⟨by kernel_rfl, ?hyesm7⟩) (by assumption) ?ryesm7
            case hyesm7 => intro W hW; obtain ⟨⟨hW0, hW1⟩, hW2, hW3⟩ := hW; go_simp; all_goals with_reducible rfl
            change wpAnyH _ _ _ _ _ _ _ (Act.put _ (some 111) _) _
            simp only [Act.put, List.setIfInBounds_toArray, List.set_cons_zero, List.set_cons_succ]
            refine' wpAnyH_take (i := 8) (v := _) rfl (by kernel_rfl) (by kernel_rfl) (by kernel_rfl) (fun _ _ _ h => h) (Or.inl ⟨by kernel_rfl, ?hyesm8⟩) (by assumption) ?ryesm8
            case hyesm8 => intro W hW; go_simp; all_goals with_reducible rfl
            change wpAnyH _ _ _ _ _ _ _ (Act.put _ (some 112) _) _
            simp only [Act.put, List.setIfInBounds_toArray, List.set_cons_zero, List.set_cons_succ]
            refine wpAnyH_done (by kernel_rfl) ?_ _
            have HB12 := hBr.drew
            clear hHeld x0 x1 y0 y1 hq
            go_wp2
            go_roundg (n2 - (j + 1))
            case measure => omega
            case rel => exact ⟨j + 1, by omega, rfl, by go_num, HB12⟩
          · have hjz : ¬ (j : Int) < (n2 : Int) := by omega
            have HB : Hid (Below w.heap.size w wr) := hB11.trans (hBr.mono hB11.size)
            clear hT11y hT11z hB11 hBr
            go_wp2
            go_ret
            exact ⟨rfl, HB.out⟩
  · have hp2 : (p != -1) = true := by simpa using hp1
    have hn20 : decide (0 < n2) = false := by have := HN2.out hp1; simp; omega
    go_wp2_with (rw [hW8.out, hQQ.out])
    refine wp_region_held_drew (S := fun W => W.cell? ⟨Q, 0, none⟩ = some (.int .i64 tK) ∧ W.cell? ⟨Q, 1, none⟩ = some (.string tS)) (by kernel_rfl) (⟨z0, z1⟩) (fun hHeld => ?_)
    refine' wpAnyH_take (i := 0) (v := _) rfl (by kernel_rfl) (by kernel_rfl) (by kernel_rfl) (fun _ _ _ h => h) (Or.inl ⟨by kernel_rfl, ?hno0⟩) (by assumption) ?rno0
    case hno0 => intro W hW; go_simp; all_goals with_reducible rfl
    change wpAnyH _ _ _ _ _ _ _ (Act.put _ (some 38) _) _
    simp only [Act.put, List.setIfInBounds_toArray, List.set_cons_zero, List.set_cons_succ]
    refine' wpAnyH_take (i := 1) (v := _) rfl (by kernel_rfl) (by kernel_rfl) (by kernel_rfl) (fun _ _ _ h => h) (Or.inl ⟨by kernel_rfl, ?hno1⟩) (by assumption) ?rno1
    case hno1 => intro W hW; go_simp; all_goals with_reducible rfl
    change wpAnyH _ _ _ _ _ _ _ (Act.put _ (some 39) _) _
    simp only [Act.put, List.setIfInBounds_toArray, List.set_cons_zero, List.set_cons_succ]
    refine' wpAnyH_take (i := 2) (v := _) rfl (by kernel_rfl) (by kernel_rfl) (by kernel_rfl) (fun _ _ _ h => h) (Or.inl ⟨by kernel_rfl, ?hno2⟩) (by assumption) ?rno2
    case hno2 => intro W hW; go_simp; all_goals with_reducible rfl
    change wpAnyH _ _ _ _ _ _ _ (Act.put _ (some 40) _) _
    simp only [Act.put, List.setIfInBounds_toArray, List.set_cons_zero, List.set_cons_succ]
    refine' wpAnyH_take (i := 3) (v := _) rfl (by kernel_rfl) (by kernel_rfl) (by kernel_rfl) (fun _ _ _ h => h) (Or.inl ⟨by kernel_rfl, ?hno3⟩) (by assumption) ?rno3
    case hno3 => intro W hW; go_simp; all_goals with_reducible rfl
    change wpAnyH _ _ _ _ _ _ _ (Act.put _ (some 41) _) _
    simp only [Act.put, List.setIfInBounds_toArray, List.set_cons_zero, List.set_cons_succ]
    refine' wpAnyH_take (i := 4) (v := _) rfl (by kernel_rfl) (by kernel_rfl) (by kernel_rfl) (fun _ _ _ h => h) (Or.inl ⟨by kernel_rfl, ?hno4⟩) (by assumption) ?rno4
    case hno4 => intro W hW; go_simp; all_goals with_reducible rfl
    change wpAnyH _ _ _ _ _ _ _ (Act.put _ (some 42) _) _
    simp only [Act.put, List.setIfInBounds_toArray, List.set_cons_zero, List.set_cons_succ]
    refine' wpAnyH_take (i := 5) (v := _) rfl (by kernel_rfl) (by kernel_rfl) (by kernel_rfl) (fun _ _ _ h => h) (Or.inl ⟨by kernel_rfl, ?hno5⟩) (by assumption) ?rno5
    case hno5 => intro W hW; go_simp; all_goals with_reducible rfl
    change wpAnyH _ _ _ _ _ _ _ (Act.put _ (some 43) _) _
    simp only [Act.put, List.setIfInBounds_toArray, List.set_cons_zero, List.set_cons_succ]
    refine' wpAnyH_take (i := 6) (v := _) rfl (by kernel_rfl) (by kernel_rfl) (by kernel_rfl) (fun _ _ _ h => h) (Or.inl ⟨by kernel_rfl, ?hno6⟩) (by assumption) ?rno6
    case hno6 => intro W hW; go_simp; all_goals with_reducible rfl
    change wpAnyH _ _ _ _ _ _ _ (Act.put _ (some 44) _) _
    simp only [Act.put, List.setIfInBounds_toArray, List.set_cons_zero, List.set_cons_succ]
    refine' wpAnyH_take (i := 7) (v := _) rfl (by kernel_rfl) (by kernel_rfl) (by kernel_rfl) (fun _ _ _ h => h) (Or.inl ⟨by kernel_rfl, ?hno7⟩) (by assumption) ?rno7
    case hno7 => intro W hW; go_simp; all_goals with_reducible rfl
    change wpAnyH _ _ _ _ _ _ _ (Act.put _ (some 45) _) _
    simp only [Act.put, List.setIfInBounds_toArray, List.set_cons_zero, List.set_cons_succ]
    refine' wpAnyH_take (i := 8) (v := _) rfl (by kernel_rfl) (by kernel_rfl) (by kernel_rfl) (fun _ _ _ h => h) (Or.inl ⟨by kernel_rfl, ?hno8⟩) (by assumption) ?rno8
    case hno8 => intro W hW; go_simp; all_goals with_reducible rfl
    change wpAnyH _ _ _ _ _ _ _ (Act.put _ (some 46) _) _
    simp only [Act.put, List.setIfInBounds_toArray, List.set_cons_zero, List.set_cons_succ]
    refine' wpAnyH_take (i := 9) (v := _) rfl (by kernel_rfl) (by kernel_rfl) (by kernel_rfl) (fun _ _ _ h => h) (Or.inl ⟨by kernel_rfl, ?hno9⟩) (by assumption) ?rno9
    case hno9 => intro W hW; go_simp; all_goals with_reducible rfl
    change wpAnyH _ _ _ _ _ _ _ (Act.put _ (some 47) _) _
    simp only [Act.put, List.setIfInBounds_toArray, List.set_cons_zero, List.set_cons_succ]
    refine' wpAnyH_take (i := 10) (v := _) rfl (by kernel_rfl) (by kernel_rfl) (by kernel_rfl) (fun _ _ _ h => h) (Or.inl ⟨by kernel_rfl, ?hno10⟩) (by assumption) ?rno10
    case hno10 => intro W hW; go_simp; all_goals with_reducible rfl
    change wpAnyH _ _ _ _ _ _ _ (Act.put _ (some 48) _) _
    simp only [Act.put, List.setIfInBounds_toArray, List.set_cons_zero, List.set_cons_succ]
    refine' wpAnyH_take (i := 11) (v := _) rfl (by kernel_rfl) (by kernel_rfl) (by kernel_rfl) (fun _ _ _ h => h) (Or.inl ⟨by kernel_rfl, ?hno11⟩) (by assumption) ?rno11
    case hno11 => intro W hW; go_simp; all_goals with_reducible rfl
    change wpAnyH _ _ _ _ _ _ _ (Act.put _ (some 49) _) _
    simp only [Act.put, List.setIfInBounds_toArray, List.set_cons_zero, List.set_cons_succ]
    refine' wpAnyH_take (i := 12) (v := _) rfl (by kernel_rfl) (by kernel_rfl) (by kernel_rfl) (fun _ _ _ h => h) (Or.inl ⟨by kernel_rfl, ?hno12⟩) (by assumption) ?rno12
    case hno12 => intro W hW; go_simp; all_goals with_reducible rfl
    change wpAnyH _ _ _ _ _ _ _ (Act.put _ (some 50) _) _
    simp only [Act.put, List.setIfInBounds_toArray, List.set_cons_zero, List.set_cons_succ]
    refine' wpAnyH_take (i := 13) (v := _) rfl (by kernel_rfl) (by kernel_rfl) (by kernel_rfl) (fun _ _ _ h => h) (Or.inl ⟨by kernel_rfl, ?hno13⟩) (by assumption) ?rno13
    case hno13 => intro W hW; go_simp; all_goals with_reducible rfl
    change wpAnyH _ _ _ _ _ _ _ (Act.put _ (some 51) _) _
    simp only [Act.put, List.setIfInBounds_toArray, List.set_cons_zero, List.set_cons_succ]
    refine' wpAnyH_take (i := 14) (v := _) rfl (by kernel_rfl) (by kernel_rfl) (by kernel_rfl) (fun _ _ _ h => h) (Or.inl ⟨by kernel_rfl, ?hno14⟩) (by assumption) ?rno14
    case hno14 => intro W hW; go_simp; all_goals with_reducible rfl
    change wpAnyH _ _ _ _ _ _ _ (Act.put _ (some 52) _) _
    simp only [Act.put, List.setIfInBounds_toArray, List.set_cons_zero, List.set_cons_succ]
    refine' wpAnyH_take (i := 15) (v := _) rfl (by kernel_rfl) (by kernel_rfl) (by kernel_rfl) (fun _ _ _ h => h) (Or.inl ⟨by kernel_rfl, ?hno15⟩) (by assumption) ?rno15
    case hno15 => intro W hW; go_simp; all_goals with_reducible rfl
    change wpAnyH _ _ _ _ _ _ _ (Act.put _ (some 53) _) _
    simp only [Act.put, List.setIfInBounds_toArray, List.set_cons_zero, List.set_cons_succ]
    refine' wpAnyH_take (i := 16) (v := _) rfl (by kernel_rfl) (by kernel_rfl) (by kernel_rfl) (fun _ _ _ h => h) (Or.inl ⟨by kernel_rfl, ?hno16⟩) (by assumption) ?rno16
    case hno16 => intro W hW; go_simp; all_goals with_reducible rfl
    change wpAnyH _ _ _ _ _ _ _ (Act.put _ (some 54) _) _
    simp only [Act.put, List.setIfInBounds_toArray, List.set_cons_zero, List.set_cons_succ]
    refine' wpAnyH_take (i := 17) (v := _) rfl (by kernel_rfl) (by kernel_rfl) (by kernel_rfl) (fun _ _ _ h => h) (Or.inl ⟨by kernel_rfl, ?hno17⟩) (by assumption) ?rno17
    case hno17 => intro W hW; go_simp; all_goals with_reducible rfl
    change wpAnyH _ _ _ _ _ _ _ (Act.put _ (some 55) _) _
    simp only [Act.put, List.setIfInBounds_toArray, List.set_cons_zero, List.set_cons_succ]
    refine' wpAnyH_take (i := 18) (v := _) rfl (by kernel_rfl) (by kernel_rfl) (by kernel_rfl) (fun _ _ _ h => h) (Or.inl ⟨by kernel_rfl, ?hno18⟩) (by assumption) ?rno18
    case hno18 => intro W hW; go_simp; all_goals with_reducible rfl
    change wpAnyH _ _ _ _ _ _ _ (Act.put _ (some 56) _) _
    simp only [Act.put, List.setIfInBounds_toArray, List.set_cons_zero, List.set_cons_succ]
    refine' wpAnyH_take (i := 19) (v := _) rfl (by kernel_rfl) (by kernel_rfl) (by kernel_rfl) (fun _ _ _ h => h) (Or.inl ⟨by kernel_rfl, ?hno19⟩) (by assumption) ?rno19
    case hno19 => intro W hW; go_simp; all_goals with_reducible rfl
    change wpAnyH _ _ _ _ _ _ _ (Act.put _ (some 57) _) _
    simp only [Act.put, List.setIfInBounds_toArray, List.set_cons_zero, List.set_cons_succ]
    refine' wpAnyH_take (i := 20) (v := _) rfl (by kernel_rfl) (by kernel_rfl) (by kernel_rfl) (fun _ _ _ h => h) (Or.inl ⟨by kernel_rfl, ?hno20⟩) (by assumption) ?rno20
    case hno20 => intro W hW; go_simp; all_goals with_reducible rfl
    change wpAnyH _ _ _ _ _ _ _ (Act.put _ (some 58) _) _
    simp only [Act.put, List.setIfInBounds_toArray, List.set_cons_zero, List.set_cons_succ]
    refine' wpAnyH_take (i := 21) (v := _) rfl (by kernel_rfl) (by kernel_rfl) (by kernel_rfl) (fun _ _ _ h => h) (Or.inl ⟨by kernel_rfl, ?hno21⟩) (by assumption) ?rno21
    case hno21 => intro W hW; go_simp; all_goals with_reducible rfl
    change wpAnyH _ _ _ _ _ _ _ (Act.put _ (some 59) _) _
    simp only [Act.put, List.setIfInBounds_toArray, List.set_cons_zero, List.set_cons_succ]
    refine' wpAnyH_take (i := 22) (v := _) rfl (by kernel_rfl) (by kernel_rfl) (by kernel_rfl) (fun _ _ _ h => h) (Or.inl ⟨by kernel_rfl, ?hno22⟩) (by assumption) ?rno22
    case hno22 => intro W hW; obtain ⟨hW0, hW1⟩ := hW; go_simp; all_goals with_reducible rfl
    change wpAnyH _ _ _ _ _ _ _ (Act.put _ (some 60) _) _
    simp only [Act.put, List.setIfInBounds_toArray, List.set_cons_zero, List.set_cons_succ]
    refine' wpAnyH_take (i := 24) (v := _) rfl (by kernel_rfl) (by kernel_rfl) (by kernel_rfl) (fun _ _ _ h => h) (Or.inl ⟨by kernel_rfl, ?hno24⟩) (by assumption) ?rno24
    case hno24 => intro W hW; obtain ⟨hW0, hW1⟩ := hW; go_simp; all_goals with_reducible rfl
    change wpAnyH _ _ _ _ _ _ _ (Act.put _ (some 62) _) _
    simp only [Act.put, List.setIfInBounds_toArray, List.set_cons_zero, List.set_cons_succ]
    refine wpAnyH_ready (rs := [23]) (by kernel_rfl) (by simp) ?_
    refine AllReadyH.cons rfl (fun KK hK => ?_) AllReadyH.nil
    go_simp
    refine (hTI _).mono ?_
    rintro e w9 ⟨rfl, hb9⟩
    have hz9 : w9.cell? ⟨Q, 0, none⟩ = some (.int .i64 tK) ∧ w9.cell? ⟨Q, 1, none⟩ = some (.string tS) := by rw [hb9.cell (p := ⟨Q, 0, none⟩) HLT.out, hb9.cell (p := ⟨Q, 1, none⟩) HLT.out]; exact ⟨z0, z1⟩
    go_wp2_with fail
    refine hK.out _ _ hz9 (fun hHeld => ?_)
    clear hK KK
    try simp only [Act.put, List.setIfInBounds_toArray, List.set_cons_zero, List.set_cons_succ]
    refine wpAnyH_ready (rs := [25]) (by kernel_rfl) (by simp) ?_
    refine AllReadyH.cons rfl (fun KK hK => ?_) AllReadyH.nil
    go_simp
    refine (hTP _).mono ?_
    rintro e w10 ⟨rfl, hb10⟩
    have hz10 : w10.cell? ⟨Q, 0, none⟩ = some (.int .i64 tK) ∧ w10.cell? ⟨Q, 1, none⟩ = some (.string tS) := by rw [hb10.cell (p := ⟨Q, 0, none⟩) (Nat.lt_of_lt_of_le HLT.out hb9.size), hb10.cell (p := ⟨Q, 1, none⟩) (Nat.lt_of_lt_of_le HLT.out hb9.size)]; exact hz9
    go_wp2_with fail
    refine hK.out _ _ hz10 (fun hHeld => ?_)
    clear hK KK
    try simp only [Act.put, List.setIfInBounds_toArray, List.set_cons_zero, List.set_cons_succ]
    refine' wpAnyH_take (i := 26) (v := _) rfl (by kernel_rfl) (by kernel_rfl) (by kernel_rfl) (fun _ _ _ h => h) (Or.inl ⟨by kernel_rfl, ?hno26⟩) (by assumption) ?rno26
    case hno26 => intro W hW; go_simp; all_goals with_reducible rfl
    change wpAnyH _ _ _ _ _ _ _ (Act.put _ (some 64) _) _
    simp only [Act.put, List.setIfInBounds_toArray, List.set_cons_zero, List.set_cons_succ]
    refine' wpAnyH_take (i := 27) (v := _) rfl (by kernel_rfl) (by kernel_rfl) (by kernel_rfl) (fun _ _ _ h => h) (Or.inl ⟨by kernel_rfl, ?hno27⟩) (by assumption) ?rno27
    case hno27 => intro W hW; go_simp; all_goals with_reducible rfl
    change wpAnyH _ _ _ _ _ _ _ (Act.put _ (some 65) _) _
    simp only [Act.put, List.setIfInBounds_toArray, List.set_cons_zero, List.set_cons_succ]
    refine' wpAnyH_take (i := 28) (v := _) rfl (by kernel_rfl) (by kernel_rfl) (by kernel_rfl) (fun _ _ _ h => h) (Or.inl ⟨by kernel_rfl, ?hno28⟩) (by assumption) ?rno28
    case hno28 => intro W hW; go_simp; all_goals with_reducible rfl
    change wpAnyH _ _ _ _ _ _ _ (Act.put _ (some 66) _) _
    simp only [Act.put, List.setIfInBounds_toArray, List.set_cons_zero, List.set_cons_succ]
    refine' wpAnyH_take (i := 29) (v := _) rfl (by kernel_rfl) (by kernel_rfl) (by kernel_rfl) (fun _ _ _ h => h) (Or.inl ⟨by kernel_rfl, ?hno29⟩) (by assumption) ?rno29
    case hno29 => intro W hW; go_simp; all_goals with_reducible rfl
    change wpAnyH _ _ _ _ _ _ _ (Act.put _ (some 67) _) _
    simp only [Act.put, List.setIfInBounds_toArray, List.set_cons_zero, List.set_cons_succ]
    refine' wpAnyH_take (i := 30) (v := _) rfl (by kernel_rfl) (by kernel_rfl) (by kernel_rfl) (fun _ _ _ h => h) (Or.inl ⟨by kernel_rfl, ?hno30⟩) (by assumption) ?rno30
    case hno30 => intro W hW; go_simp; all_goals with_reducible rfl
    change wpAnyH _ _ _ _ _ _ _ (Act.put _ (some 68) _) _
    simp only [Act.put, List.setIfInBounds_toArray, List.set_cons_zero, List.set_cons_succ]
    refine' wpAnyH_take (i := 31) (v := _) rfl (by kernel_rfl) (by kernel_rfl) (by kernel_rfl) (fun _ _ _ h => h) (Or.inl ⟨by kernel_rfl, ?hno31⟩) (by assumption) ?rno31
    case hno31 => intro W hW; go_simp; all_goals with_reducible rfl
    change wpAnyH _ _ _ _ _ _ _ (Act.put _ (some 69) _) _
    simp only [Act.put, List.setIfInBounds_toArray, List.set_cons_zero, List.set_cons_succ]
    refine' wpAnyH_take (i := 32) (v := _) rfl (by kernel_rfl) (by kernel_rfl) (by kernel_rfl) (fun _ _ _ h => h) (Or.inl ⟨by kernel_rfl, ?hno32⟩) (by assumption) ?rno32
    case hno32 => intro W hW; go_simp; all_goals with_reducible rfl
    change wpAnyH _ _ _ _ _ _ _ (Act.put _ (some 70) _) _
    simp only [Act.put, List.setIfInBounds_toArray, List.set_cons_zero, List.set_cons_succ]
    refine' wpAnyH_take (i := 33) (v := _) rfl (by kernel_rfl) (by kernel_rfl) (by kernel_rfl) (fun _ _ _ h => h) (Or.inl ⟨by kernel_rfl, ?hno33⟩) (by assumption) ?rno33
    case hno33 => intro W hW; go_simp; all_goals with_reducible rfl
    change wpAnyH _ _ _ _ _ _ _ (Act.put _ (some 71) _) _
    simp only [Act.put, List.setIfInBounds_toArray, List.set_cons_zero, List.set_cons_succ]
    refine' wpAnyH_take (i := 34) (v := _) rfl (by kernel_rfl) (by kernel_rfl) (by kernel_rfl) (fun _ _ _ h => h) (Or.inl ⟨by kernel_rfl, ?hno34⟩) (by assumption) ?rno34
    case hno34 => intro W hW; go_simp; all_goals with_reducible rfl
    change wpAnyH _ _ _ _ _ _ _ (Act.put _ (some 72) _) _
    simp only [Act.put, List.setIfInBounds_toArray, List.set_cons_zero, List.set_cons_succ]
    refine' wpAnyH_take (i := 35) (v := _) rfl (by kernel_rfl) (by kernel_rfl) (by kernel_rfl) (fun _ _ _ h => h) (Or.inl ⟨by kernel_rfl, ?hno35⟩) (by assumption) ?rno35
    case hno35 => intro W hW; go_simp; all_goals with_reducible rfl
    change wpAnyH _ _ _ _ _ _ _ (Act.put _ (some 73) _) _
    simp only [Act.put, List.setIfInBounds_toArray, List.set_cons_zero, List.set_cons_succ]
    refine' wpAnyH_take (i := 36) (v := _) rfl (by kernel_rfl) (by kernel_rfl) (by kernel_rfl) (fun _ _ _ h => h) (Or.inl ⟨by kernel_rfl, ?hno36⟩) (by assumption) ?rno36
    case hno36 => intro W hW; go_simp; all_goals with_reducible rfl
    change wpAnyH _ _ _ _ _ _ _ (Act.put _ (some 74) _) _
    simp only [Act.put, List.setIfInBounds_toArray, List.set_cons_zero, List.set_cons_succ]
    refine wpAnyH_done (by kernel_rfl) ?_ _
    have hbb : Below W8.heap.size W8 w10 := (Below.drew (Below.refl _ _)).trans (hb9.trans (hb10.mono hb9.size))
    have hT10 := hT8.below hbb
    have hT10x := hT8x.below hbb
    have hT10y := hT8y.below hbb
    have hT10z := hT8z.below hbb
    have hB10 := hB8.trans (hbb.mono hB8.size)
    clear hHeld hz9 hz10 hb9 hb10 hbb hTP hT8 hT8x hT8y hT8z hB8 z0 z1 hQ
    clear hQQ hW8 hTI hoo hHeld
    go_wp2
    go_loopg [12] n1 (fun q i wr => ∃ k : Nat, k ≤ n1 ∧ q = n1 - k ∧ i = .int .i64 k ∧ Below w10.heap.size w10 wr)
    case atStart => exact ⟨0, Nat.zero_le _, rfl, rfl, Below.refl _ _⟩
    case round =>
      obtain ⟨k, hk, rfl, rfl, hBr⟩ := hrel
      by_cases hlt : k < n1
      · have hkz : (k : Int) < (n1 : Int) := by omega
        have hok := HOK.out k hlt
        obtain ⟨bx, ox, rfl, hbx, hcx⟩ := (hT10x.below hBr).cells (by omega)
        obtain ⟨bl, ol, rfl, hbl, hcl⟩ := (hT10.below hBr).cells (by omega)
        obtain ⟨x0, x1⟩ := hcx k hlt
        obtain ⟨y0, y1⟩ := hcl k hlt
        obtain ⟨p0, hp0⟩ : ∃ p0, Hid (fk k = p0) := ⟨_, rfl⟩
        obtain ⟨p2, hp2⟩ : ∃ p2, Hid (fs k = p2) := ⟨_, rfl⟩
        rw [hp0.out] at hok x0 y0
        rw [hp2.out] at hok x1 y1
        have hTI := fun W => implTokenOk_any p0 p2 W (by have := tokOk_few hok; omega)
        rw [hok] at hTI
        have hq := neTok_run p0 p2
        clear hcx hcl hok
        go_wp2_with fail
        refine wp_region_held_drew (S := fun W => (W.cell? ⟨bx, ox + k * 2, none⟩ = some (.int .i64 p0) ∧ W.cell? ⟨bx, ox + k * 2 + 1, none⟩ = some (.string p2)) ∧ (W.cell? ⟨bl, ol + k * 2, none⟩ = some (.int .i64 p0) ∧ W.cell? ⟨bl, ol + k * 2 + 1, none⟩ = some (.string p2))) (by kernel_rfl) (⟨⟨x0, x1⟩, y0, y1⟩) (fun hHeld => ?_)
        refine' wpAnyH_take (i := 0) (v := _) rfl (by kernel_rfl) (by kernel_rfl) (by kernel_rfl) (fun _ _ _ h => h) (Or.inl ⟨by kernel_rfl, ?hnol0⟩) (by assumption) ?rnol0
        case hnol0 => intro W hW; go_simp; all_goals with_reducible rfl
        change wpAnyH _ _ _ _ _ _ _ (Act.put _ (some 81) _) _
        simp only [Act.put, List.setIfInBounds_toArray, List.set_cons_zero, List.set_cons_succ]
        refine' wpAnyH_take (i := 1) (v := _) rfl (by kernel_rfl) (by kernel_rfl) (by kernel_rfl) (fun _ _ _ h => h) (Or.inl ⟨by kernel_rfl, ?hnol1⟩) (by assumption) ?rnol1
        case hnol1 => intro W hW; go_simp; all_goals with_reducible rfl
        change wpAnyH _ _ _ _ _ _ _ (Act.put _ (some 82) _) _
        simp only [Act.put, List.setIfInBounds_toArray, List.set_cons_zero, List.set_cons_succ]
        refine' wpAnyH_take (i := 2) (v := _) rfl (by kernel_rfl) (by kernel_rfl) (by kernel_rfl) (fun _ _ _ h => h) (Or.inl ⟨by kernel_rfl, ?hnol2⟩) (by assumption) ?rnol2
        case hnol2 => intro W hW; go_simp; all_goals with_reducible rfl
        change wpAnyH _ _ _ _ _ _ _ (Act.put _ (some 83) _) _
        simp only [Act.put, List.setIfInBounds_toArray, List.set_cons_zero, List.set_cons_succ]
        refine' wpAnyH_take (i := 3) (v := _) rfl (by kernel_rfl) (by kernel_rfl) (by kernel_rfl) (fun _ _ _ h => h) (Or.inl ⟨by kernel_rfl, ?hnol3⟩) (by assumption) ?rnol3
        case hnol3 => intro W hW; obtain ⟨⟨hW0, hW1⟩, hW2, hW3⟩ := hW; go_simp; all_goals with_reducible rfl
        change wpAnyH _ _ _ _ _ _ _ (Act.put _ (some 84) _) _
        simp only [Act.put, List.setIfInBounds_toArray, List.set_cons_zero, List.set_cons_succ]
        refine' wpAnyH_take (i := 4) (v := _) rfl (by kernel_rfl) (by kernel_rfl) (by kernel_rfl) (fun _ _ _ h => h) (Or.inl ⟨by kernel_rfl, ?hnol4⟩) (by assumption) ?rnol4
        case hnol4 => intro W hW; go_simp; all_goals with_reducible rfl
        change wpAnyH _ _ _ _ _ _ _ (Act.put _ (some 85) _) _
        simp only [Act.put, List.setIfInBounds_toArray, List.set_cons_zero, List.set_cons_succ]
        refine' wpAnyH_take (i := 5) (v := _) rfl (by kernel_rfl) (by kernel_rfl) (by kernel_rfl) (fun _ _ _ h => h) (Or.inl ⟨by kernel_rfl, ?hnol5⟩) (by assumption) ?rnol5
        case hnol5 => intro W hW; go_simp; all_goals with_reducible rfl
        change wpAnyH _ _ _ _ _ _ _ (Act.put _ (some 86) _) _
        simp only [Act.put, List.setIfInBounds_toArray, List.set_cons_zero, List.set_cons_succ]
        refine' wpAnyH_take (i := 6) (v := _) rfl (by kernel_rfl) (by kernel_rfl) (by kernel_rfl) (fun _ _ _ h => h) (Or.inl ⟨by kernel_rfl, ?hnol6⟩) (by assumption) ?rnol6
        case hnol6 => intro W hW; go_simp; all_goals with_reducible rfl
        change wpAnyH _ _ _ _ _ _ _ (Act.put _ (some 87) _) _
        simp only [Act.put, List.setIfInBounds_toArray, List.set_cons_zero, List.set_cons_succ]
        refine' wpAnyH_take (i := 7) (v := _) rfl (by kernel_rfl) (by kernel_rfl) (by kernel_rfl) (fun _ _ _ h => h) (Or.inl ⟨by kernel_rfl, ?hnol7⟩) (by assumption) ?rnol7
        case hnol7 => intro W hW; obtain ⟨⟨hW0, hW1⟩, hW2, hW3⟩ := hW; go_simp; all_goals with_reducible rfl
        change wpAnyH _ _ _ _ _ _ _ (Act.put _ (some 88) _) _
        simp only [Act.put, List.setIfInBounds_toArray, List.set_cons_zero, List.set_cons_succ]
        refine' wpAnyH_take (i := 8) (v := _) rfl (by kernel_rfl) (by kernel_rfl) (by kernel_rfl) (fun _ _ _ h => h) (Or.inl ⟨by kernel_rfl, ?hnol8⟩) (by assumption) ?rnol8
        case hnol8 => intro W hW; go_simp; all_goals with_reducible rfl
        change wpAnyH _ _ _ _ _ _ _ (Act.put _ (some 89) _) _
        simp only [Act.put, List.setIfInBounds_toArray, List.set_cons_zero, List.set_cons_succ]
        refine' wpAnyH_take (i := 9) (v := _) rfl (by kernel_rfl) (by kernel_rfl) (by kernel_rfl) (fun _ _ _ h => h) (Or.inl ⟨by kernel_rfl, ?hnol9⟩) (by assumption) ?rnol9
        case hnol9 => intro W hW; go_simp; all_goals with_reducible rfl
        change wpAnyH _ _ _ _ _ _ _ (Act.put _ (some 90) _) _
        simp only [Act.put, List.setIfInBounds_toArray, List.set_cons_zero, List.set_cons_succ]
        refine' wpAnyH_take (i := 10) (v := _) rfl (by kernel_rfl) (by kernel_rfl) (by kernel_rfl) (fun _ _ _ h => h) (Or.inl ⟨by kernel_rfl, ?hnol10⟩) (by assumption) ?rnol10
        case hnol10 => intro W hW; go_simp; all_goals with_reducible rfl
        change wpAnyH _ _ _ _ _ _ _ (Act.put _ (some 91) _) _
        simp only [Act.put, List.setIfInBounds_toArray, List.set_cons_zero, List.set_cons_succ]
        refine' wpAnyH_take (i := 11) (v := _) rfl (by kernel_rfl) (by kernel_rfl) (by kernel_rfl) (fun _ _ _ h => h) (Or.inl ⟨by kernel_rfl, ?hnol11⟩) (by assumption) ?rnol11
        case hnol11 => intro W hW; go_simp; all_goals with_reducible rfl
        change wpAnyH _ _ _ _ _ _ _ (Act.put _ (some 92) _) _
        simp only [Act.put, List.setIfInBounds_toArray, List.set_cons_zero, List.set_cons_succ]
        refine' wpAnyH_take (i := 12) (v := _) rfl (by kernel_rfl) (by kernel_rfl) (by kernel_rfl) (fun _ _ _ h => h) (Or.inl ⟨by kernel_rfl, ?hnol12⟩) (by assumption) ?rnol12
        case hnol12 => intro W hW; go_simp; all_goals with_reducible rfl
        change wpAnyH _ _ _ _ _ _ _ (Act.put _ (some 93) _) _
        simp only [Act.put, List.setIfInBounds_toArray, List.set_cons_zero, List.set_cons_succ]
        refine' wpAnyH_take (i := 13) (v := _) rfl (by kernel_rfl) (by kernel_rfl) (by kernel_rfl) (fun _ _ _ h => h) (Or.inl ⟨by kernel_rfl, ?hnol13⟩) (by assumption) ?rnol13
        case hnol13 => intro W hW; obtain ⟨⟨hW0, hW1⟩, hW2, hW3⟩ := hW; go_simp; all_goals with_reducible rfl
        change wpAnyH _ _ _ _ _ _ _ (Act.put _ (some 94) _) _
        simp only [Act.put, List.setIfInBounds_toArray, List.set_cons_zero, List.set_cons_succ]
        refine wpAnyH_ready (rs := [14]) (by kernel_rfl) (by simp) ?_
        refine AllReadyH.cons rfl (fun KK hK => ?_) AllReadyH.nil
        go_simp
        refine (hTI _).mono ?_
        rintro e w11 ⟨rfl, hb11⟩
        go_wp2_with fail
        refine hK.out _ _ (by refine ⟨⟨?_, ?_⟩, ?_, ?_⟩ <;> (rw [hb11.cell (by first | exact hbx | exact hbl)]; assumption)) (fun hHeld => ?_)
        clear hK KK
        try simp only [Act.put, List.setIfInBounds_toArray, List.set_cons_zero, List.set_cons_succ]
        refine' wpAnyH_take (i := 15) (v := _) rfl (by kernel_rfl) (by kernel_rfl) (by kernel_rfl) (fun _ _ _ h => h) (Or.inl ⟨by kernel_rfl, ?hnol15⟩) (by assumption) ?rnol15
        case hnol15 => intro W hW; go_simp; all_goals with_reducible rfl
        change wpAnyH _ _ _ _ _ _ _ (Act.put _ (some 96) _) _
        simp only [Act.put, List.setIfInBounds_toArray, List.set_cons_zero, List.set_cons_succ]
        refine' wpAnyH_take (i := 16) (v := _) rfl (by kernel_rfl) (by kernel_rfl) (by kernel_rfl) (fun _ _ _ h => h) (Or.inl ⟨by kernel_rfl, ?hnol16⟩) (by assumption) ?rnol16
        case hnol16 => intro W hW; go_simp; all_goals with_reducible rfl
        change wpAnyH _ _ _ _ _ _ _ (Act.put _ (some 97) _) _
        simp only [Act.put, List.setIfInBounds_toArray, List.set_cons_zero, List.set_cons_succ]
        refine wpAnyH_done (by kernel_rfl) ?_ _
        have HB11 : Hid (Below w10.heap.size w10 w11) := hBr.trans (Below.trans (Below.drew (Below.refl _ _)) (hb11.mono hBr.size))
        clear hHeld x0 x1 y0 y1 hTI hq hb11
        go_wp2
        go_roundg (n1 - (k + 1))
        case measure => omega
        case rel => exact ⟨k + 1, by omega, rfl, by go_num, HB11.out⟩
      · have hkz : ¬ (k : Int) < (n1 : Int) := by omega
        have hT11y := hT10y.below hBr
        have hT11z := hT10z.below hBr
        have hB11 := hB10.trans (hBr.mono hB10.size)
        clear hT10 hT10x hT10y hT10z hB10 hBr
        go_wp2
        go_loopg [13] n2 (fun q i wr2 => ∃ j : Nat, j ≤ n2 ∧ q = n2 - j ∧ i = .int .i64 j ∧ Below wr.heap.size wr wr2)
        case atStart => exact ⟨0, Nat.zero_le _, rfl, rfl, Below.refl _ _⟩
        case round =>
          obtain ⟨j, hj, rfl, rfl, hBr⟩ := hrel
          by_cases hlt2 : j < n2
          · have hjz : (j : Int) < (n2 : Int) := by omega
            obtain ⟨bx, ox, rfl, hbx, hcx⟩ := (hT11y.below hBr).cells (by omega)
            obtain ⟨bl, ol, rfl, hbl, hcl⟩ := (hT11z.below hBr).cells (by omega)
            obtain ⟨x0, x1⟩ := hcx j hlt2
            obtain ⟨y0, y1⟩ := hcl j hlt2
            obtain ⟨p0, hp0⟩ : ∃ p0, Hid (gk j = p0) := ⟨_, rfl⟩
            obtain ⟨p2, hp2⟩ : ∃ p2, Hid (gs j = p2) := ⟨_, rfl⟩
            rw [hp0.out] at x0 y0
            rw [hp2.out] at x1 y1
            have hq := neTok_run p0 p2
            clear hcx hcl
            go_wp2_with fail
            refine wp_region_held_drew (S := fun W => (W.cell? ⟨bx, ox + j * 2, none⟩ = some (.int .i64 p0) ∧ W.cell? ⟨bx, ox + j * 2 + 1, none⟩ = some (.string p2)) ∧ (W.cell? ⟨bl, ol + j * 2, none⟩ = some (.int .i64 p0) ∧ W.cell? ⟨bl, ol + j * 2 + 1, none⟩ = some (.string p2))) (by kernel_rfl) (⟨⟨x0, x1⟩, y0, y1⟩) (fun hHeld => ?_)
            refine' wpAnyH_take (i := 0) (v := _) rfl (by kernel_rfl) (by kernel_rfl) (by kernel_rfl) (fun _ _ _ h => h) (Or.inl ⟨by kernel_rfl, ?hnom0⟩) (by assumption) ?rnom0
            case hnom0 => intro W hW; go_simp; all_goals with_reducible rfl
            change wpAnyH _ _ _ _ _ _ _ (Act.put _ (some 104) _) _
            simp only [Act.put, List.setIfInBounds_toArray, List.set_cons_zero, List.set_cons_succ]
            refine' wpAnyH_take (i := 1) (v := _) rfl (by kernel_rfl) (by kernel_rfl) (by kernel_rfl) (fun _ _ _ h => h) (Or.inl ⟨by kernel_rfl, ?hnom1⟩) (by assumption) ?rnom1
            case hnom1 => intro W hW; go_simp; all_goals with_reducible rfl
            change wpAnyH _ _ _ _ _ _ _ (Act.put _ (some 105) _) _
            simp only [Act.put, List.setIfInBounds_toArray, List.set_cons_zero, List.set_cons_succ]
            refine' wpAnyH_take (i := 2) (v := _) rfl (by kernel_rfl) (by kernel_rfl) (by kernel_rfl) (fun _ _ _ h => h) (Or.inl ⟨by kernel_rfl, ?hnom2⟩) (by assumption) ?rnom2
            case hnom2 => intro W hW; go_simp; all_goals with_reducible rfl
            change wpAnyH _ _ _ _ _ _ _ (Act.put _ (some 106) _) _
            simp only [Act.put, List.setIfInBounds_toArray, List.set_cons_zero, List.set_cons_succ]
            refine' wpAnyH_take (i := 3) (v := _) rfl (by kernel_rfl) (by kernel_rfl) (by kernel_rfl) (fun _ _ _ h => h) (Or.inl ⟨by kernel_rfl, ?hnom3⟩) (by assumption) ?rnom3
            case hnom3 => intro W hW; obtain ⟨⟨hW0, hW1⟩, hW2, hW3⟩ := hW; go_simp; all_goals with_reducible rfl
            change wpAnyH _ _ _ _ _ _ _ (Act.put _ (some 107) _) _
            simp only [Act.put, List.setIfInBounds_toArray, List.set_cons_zero, List.set_cons_succ]
            refine' wpAnyH_take (i := 4) (v := _) rfl (by kernel_rfl) (by kernel_rfl) (by kernel_rfl) (fun _ _ _ h => h) (Or.inl ⟨by kernel_rfl, ?hnom4⟩) (by assumption) ?rnom4
            case hnom4 => intro W hW; go_simp; all_goals with_reducible rfl
            change wpAnyH _ _ _ _ _ _ _ (Act.put _ (some 108) _) _
            simp only [Act.put, List.setIfInBounds_toArray, List.set_cons_zero, List.set_cons_succ]
            refine' wpAnyH_take (i := 5) (v := _) rfl (by kernel_rfl) (by kernel_rfl) (by kernel_rfl) (fun _ _ _ h => h) (Or.inl ⟨by kernel_rfl, ?hnom5⟩) (by assumption) ?rnom5
            case hnom5 => intro W hW; go_simp; all_goals with_reducible rfl
            change wpAnyH _ _ _ _ _ _ _ (Act.put _ (some 109) _) _
            simp only [Act.put, List.setIfInBounds_toArray, List.set_cons_zero, List.set_cons_succ]
            refine' wpAnyH_take (i := 6) (v := _) rfl (by kernel_rfl) (by kernel_rfl) (by kernel_rfl) (fun _ _ _ h => h) (Or.inl ⟨by kernel_rfl, ?hnom6⟩) (by assumption) ?rnom6
            case hnom6 => intro W hW; go_simp; all_goals with_reducible rfl
            change wpAnyH _ _ _ _ _ _ _ (Act.put _ (some 110) _) _
            simp only [Act.put, List.setIfInBounds_toArray, List.set_cons_zero, List.set_cons_succ]
            refine' wpAnyH_take (i := 7) (v := _) rfl (by kernel_rfl) (by kernel_rfl) (by kernel_rfl) (fun _ _ _ h => h) (Or.inl ⟨by kernel_rfl, ?hnom7⟩) (by assumption) ?rnom7
            case hnom7 => intro W hW; obtain ⟨⟨hW0, hW1⟩, hW2, hW3⟩ := hW; go_simp; all_goals with_reducible rfl
            change wpAnyH _ _ _ _ _ _ _ (Act.put _ (some 111) _) _
            simp only [Act.put, List.setIfInBounds_toArray, List.set_cons_zero, List.set_cons_succ]
            refine' wpAnyH_take (i := 8) (v := _) rfl (by kernel_rfl) (by kernel_rfl) (by kernel_rfl) (fun _ _ _ h => h) (Or.inl ⟨by kernel_rfl, ?hnom8⟩) (by assumption) ?rnom8
            case hnom8 => intro W hW; go_simp; all_goals with_reducible rfl
            change wpAnyH _ _ _ _ _ _ _ (Act.put _ (some 112) _) _
            simp only [Act.put, List.setIfInBounds_toArray, List.set_cons_zero, List.set_cons_succ]
            refine wpAnyH_done (by kernel_rfl) ?_ _
            have HB12 := hBr.drew
            clear hHeld x0 x1 y0 y1 hq
            go_wp2
            go_roundg (n2 - (j + 1))
            case measure => omega
            case rel => exact ⟨j + 1, by omega, rfl, by go_num, HB12⟩
          · have hjz : ¬ (j : Int) < (n2 : Int) := by omega
            have HB : Hid (Below w.heap.size w wr) := hB11.trans (hBr.mono hB11.size)
            clear hT11y hT11z hB11 hBr
            go_wp2
            go_ret
            exact ⟨rfl, HB.out⟩
end Go.Proofs.Ytbpkonneliidiad

