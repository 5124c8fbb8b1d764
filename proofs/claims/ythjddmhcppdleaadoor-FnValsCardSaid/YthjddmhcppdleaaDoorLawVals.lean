/-
  The walk over the law FnVals: it answers true and writes nothing that was there, at every code that reads.
-/
import Derived.Test.YthjddmhcppdleaaDoorDrawVals
import Derived.Test.YthjddmhcppdleaaDoorReadAll
import Derived.Test.YthjddmhcppdleaaDoorValOkImpl
import Derived.Test.YthjddmhcppdleaaDoorBig
import Derived.Deep.RegionHeld3
namespace Go.Proofs.YthjddmhcppdleaaDoor
open Go.RowKit Go.Lib

set_option linter.unusedSimpArgs false in
set_option maxHeartbeats 8000000 in
theorem lawVals (ao : Option Addr) (n cap : Nat) (f : Nat → Int) (w : World) (hv : View w ao n cap f) (hn63 : n ≤ 9223372036854775807) (ht : Tab w) (E1 : ErrVar "strconv.ErrSyntax" w) (E2 : ErrVar "strconv.ErrRange" w) :
    Calls Tryd.prog 3 #[.slice ao n cap] w fun e w' => e = .returned (.bool true) ∧ Below w.heap.size w w' := by
  by_cases hbig : 1048576 < n
  · have hd : decide ((1048576 : Int) < (n : Int)) = true := by simp; omega
    go_enter Tryd.func3, Tryd.ntmps3
    go_wp2_with fail
    refine (big_any ao n cap w hn63).mono ?_
    rw [hd]
    rintro e _ ⟨rfl, rfl⟩
    go_wp2
    go_ret
    exact ⟨rfl, Below.refl _ _⟩
  have hd : decide ((1048576 : Int) < (n : Int)) = false := by simp; omega
  have hn : n ≤ 1048576 := by omega
  clear hbig
  go_enter Tryd.func3, Tryd.ntmps3
  go_wp2_with fail
  refine (big_any ao n cap w hn63).mono ?_
  rw [hd]
  rintro e _ ⟨rfl, rfl⟩
  clear hd
  go_wp2_with fail
  refine (drawValText_any ao n cap f w hn hv).mono ?_
  rintro e w1 ⟨⟨k, m, s, rfl, hs⟩, hb1⟩
  have hV := Box.new w1 k m s
  have hB1 : Below w.heap.size w (w1.alloc (.cells #[.int .i64 k, .int .i64 m, .string s] 25)) := hb1.alloc hb1.size _
  have hl1 := hb1.size
  obtain ⟨c0, c1, c2⟩ := hV.cells
  obtain ⟨l, hl⟩ : ∃ l, Hid (textF k m s = l) := ⟨_, rfl⟩
  have hll : l.length ≤ 40 := by rw [← hl.out]; exact textF_len k m s
  have hlz : (bytesOf l).size ≤ 1048576 := by rw [bytesOf_size]; omega
  obtain ⟨k1, m1, s1, g1, hP1⟩ : ∃ k1 m1 s1 g1, Hid (Parsed (bytesOf l).data.toList k1 m1 s1 g1) := ⟨_, _, _, _, finM_parsed _⟩
  clear hb1
  go_wp2_with fail
  refine (valText_any k m s _ (tab_below ht hB1)).mono ?_
  rw [hl.out]
  rintro e w2 ⟨rfl, hb2⟩
  replace hV := hV.below hb2
  replace hB1 := hB1.trans (hb2.mono hB1.size)
  clear hb2 c0 c1 c2
  go_wp2_with fail
  refine (parseVal_impl (bytesOf l) w2 hlz (tab_below ht hB1) (errVar_below E1 hB1) (errVar_below E2 hB1) k1 m1 s1 g1 hP1.out).mono ?_
  rintro e w3 ⟨rfl, hb3⟩
  have hbX : Below w3.heap.size w3 (w3.alloc (.cells #[.int .i64 k1, .int .i64 m1, .string s1] 25)) := (Below.refl _ _).alloc (Nat.le_refl _) _
  replace hV := (hV.below hb3).below hbX
  have hX := Box.new w3 k1 m1 s1
  replace hB1 := hB1.trans (hb3.mono hB1.size)
  have hB3 := hB1.trans (hbX.mono hB1.size)
  clear hb3 hbX hB1
  go_wp2_with fail
  refine (drawParseVal_any ao n cap f _ hn (hv.below hB3)).mono ?_
  rintro e w4 ⟨⟨t, rfl, htz⟩, hb4⟩
  replace hV := hV.below hb4
  replace hX := hX.below hb4
  have hB4 := hB3.trans (hb4.mono hB3.size)
  clear hb4 hB3
  have hPt := finM_parsed t.data.toList
  have hSp := fun W => specParseVal_any t W (by omega)
  unfold retM at hSp
  generalize finM (readM t.data.toList) = r at *
  obtain ⟨ky, my, sy, by'⟩ := r
  unfold valAgg at hSp
  simp only at hPt hSp
  have HP : Hid (Parsed t.data.toList ky my sy by') := hPt
  clear hPt
  go_wp2_with fail
  refine (parseVal_impl t w4 (by omega) (tab_below ht hB4) (errVar_below E1 hB4) (errVar_below E2 hB4) ky my sy by' HP.out).mono ?_
  rintro e w5 ⟨rfl, hb5⟩
  have hbY : Below w5.heap.size w5 (w5.alloc (.cells #[.int .i64 ky, .int .i64 my, .string sy] 25)) := (Below.refl _ _).alloc (Nat.le_refl _) _
  replace hV := (hV.below hb5).below hbY
  replace hX := (hX.below hb5).below hbY
  have hY := Box.new w5 ky my sy
  replace hB4 := hB4.trans (hb5.mono hB4.size)
  have hB5 := hB4.trans (hbY.mono hB4.size)
  clear hb5 hbY hB4
  go_wp2_with fail
  refine (hSp _).mono ?_
  rintro e w6' ⟨rfl, hb6⟩
  have hbZ : Below w6'.heap.size w6' (w6'.alloc (.cells #[.int .i64 ky, .int .i64 my, .string sy] 25)) := (Below.refl _ _).alloc (Nat.le_refl _) _
  replace hV := (hV.below hb6).below hbZ
  replace hX := (hX.below hb6).below hbZ
  replace hY := (hY.below hb6).below hbZ
  replace hB5 := hB5.trans (hb6.mono hB5.size)
  have hB6 := hB5.trans (hbZ.mono hB5.size)
  clear hb6 hbZ hB5 hSp
  have hn1 : w1.heap.size < w6'.heap.size + 1 := by have := hV.lt; simp at this; omega
  go_wp2_with fail
  generalize w6'.alloc (.cells #[.int .i64 ky, .int .i64 my, .string sy] 25) = w6 at *
  have ht6 := tab_below ht hB6
  have hC20 := fun W => specValText_any k m s W (by omega)
  have hC25 := fun W => valOk_any k m s W
  have hC27 := fun W => specValOk_any k m s W (by omega)
  unfold valAgg at hC27
  have hC7 := fun W h => valText_any ky my sy W h
  have hC12 := fun W => valOk_any ky my sy W
  rw [hl.out] at hC20
  have HF : Hid ((l = [] ∧ True) ∨ (l ≠ [] ∧ k1 = k ∧ m1 = m ∧ s1 = s ∧ g1 = true)) := by
    by_cases h0 : l = []
    · exact .inl ⟨h0, trivial⟩
    · right
      have hp := textF_parsed (k := k) (n := m) (s := s) (by rw [hl.out]; exact h0)
      rw [hl.out] at hp
      have hp1 := hP1.out
      rw [bytesOf_list] at hp1
      obtain ⟨a1, a2, a3, a4⟩ := hp1.unique hp
      exact ⟨h0, a1, a2, a3, a4⟩
  have e1 : (t.toList != t.toList) = false := by simp
  have e2 : ((bytesOf l).toList != (bytesOf l).toList) = false := by simp
  generalize okF k m s = z at *
  have e3 : (z != z) = false := by simp
  clear hP1 hs hll hlz hl1 hn1 htz ht E1 E2 hv
  cases by' with
  | true =>
    have HT : Hid (textF ky my sy = t.data.toList ∧ okF ky my sy = true) := by
      rcases HP.out with ⟨_, h1, h2, _⟩ | ⟨h, _⟩
      · exact ⟨h2, h1⟩
      · cases h
    rw [HT.out.1, bytesOf_back] at hC7
    rw [HT.out.2] at hC12
    clear HT HP
    refine wp_region_held_drew (S := fun W => Below w6.heap.size w6 W) (by kernel_rfl) (Below.refl _ _).drew (fun hHeld => ?_)
    refine' wpAnyH_take (i := 0) (v := _) rfl (by kernel_rfl) (by kernel_rfl) (by kernel_rfl) (fun _ _ _ h => h) (Or.inl ⟨by kernel_rfl, ?hyt0⟩) (by assumption) ?restt0
    case hyt0 => intro W hW; go_simp; all_goals with_reducible rfl
    change wpAnyH _ _ _ _ _ _ _ (Act.put _ (some 35) _) _
    simp only [Act.put, List.setIfInBounds_toArray, List.set_cons_zero, List.set_cons_succ]
    refine' wpAnyH_take (i := 1) (v := _) rfl (by kernel_rfl) (by kernel_rfl) (by kernel_rfl) (fun _ _ _ h => h) (Or.inl ⟨by kernel_rfl, ?hyt1⟩) (by assumption) ?restt1
    case hyt1 => intro W hW; go_simp; all_goals with_reducible rfl
    change wpAnyH _ _ _ _ _ _ _ (Act.put _ (some 36) _) _
    simp only [Act.put, List.setIfInBounds_toArray, List.set_cons_zero, List.set_cons_succ]
    refine' wpAnyH_take (i := 2) (v := _) rfl (by kernel_rfl) (by kernel_rfl) (by kernel_rfl) (fun _ _ _ h => h) (Or.inl ⟨by kernel_rfl, ?hyt2⟩) (by assumption) ?restt2
    case hyt2 => intro W hW; go_simp; all_goals with_reducible rfl
    change wpAnyH _ _ _ _ _ _ _ (Act.put _ (some 37) _) _
    simp only [Act.put, List.setIfInBounds_toArray, List.set_cons_zero, List.set_cons_succ]
    refine' wpAnyH_take (i := 3) (v := _) rfl (by kernel_rfl) (by kernel_rfl) (by kernel_rfl) (fun _ _ _ h => h) (Or.inl ⟨by kernel_rfl, ?hyt3⟩) (by assumption) ?restt3
    case hyt3 => intro W hW; go_simp; all_goals with_reducible rfl
    change wpAnyH _ _ _ _ _ _ _ (Act.put _ (some 38) _) _
    simp only [Act.put, List.setIfInBounds_toArray, List.set_cons_zero, List.set_cons_succ]
    refine' wpAnyH_take (i := 4) (v := _) rfl (by kernel_rfl) (by kernel_rfl) (by kernel_rfl) (fun _ _ _ h => h) (Or.inl ⟨by kernel_rfl, ?hyt4⟩) (by assumption) ?restt4
    case hyt4 => intro W hW; go_simp; all_goals with_reducible rfl
    change wpAnyH _ _ _ _ _ _ _ (Act.put _ (some 39) _) _
    simp only [Act.put, List.setIfInBounds_toArray, List.set_cons_zero, List.set_cons_succ]
    refine' wpAnyH_take (i := 5) (v := _) rfl (by kernel_rfl) (by kernel_rfl) (by kernel_rfl) (fun _ _ _ h => h) (Or.inl ⟨by kernel_rfl, ?hyt5⟩) (by assumption) ?restt5
    case hyt5 => intro W hW; go_simp; all_goals with_reducible rfl
    change wpAnyH _ _ _ _ _ _ _ (Act.put _ (some 40) _) _
    simp only [Act.put, List.setIfInBounds_toArray, List.set_cons_zero, List.set_cons_succ]
    refine' wpAnyH_take (i := 6) (v := _) rfl (by kernel_rfl) (by kernel_rfl) (by kernel_rfl) (fun _ _ _ h => h) (Or.inl ⟨by kernel_rfl, ?hyt6⟩) (by assumption) ?restt6
    case hyt6 => intro W hW; obtain ⟨c0, c1, c2⟩ := (hY.below hW).cells; go_simp; all_goals with_reducible rfl
    change wpAnyH _ _ _ _ _ _ _ (Act.put _ (some 41) _) _
    simp only [Act.put, List.setIfInBounds_toArray, List.set_cons_zero, List.set_cons_succ]
    refine' wpAnyH_take (i := 8) (v := _) rfl (by kernel_rfl) (by kernel_rfl) (by kernel_rfl) (fun _ _ _ h => h) (Or.inl ⟨by kernel_rfl, ?hyt8⟩) (by assumption) ?restt8
    case hyt8 => intro W hW; go_simp; all_goals with_reducible rfl
    change wpAnyH _ _ _ _ _ _ _ (Act.put _ (some 43) _) _
    simp only [Act.put, List.setIfInBounds_toArray, List.set_cons_zero, List.set_cons_succ]
    refine wpAnyH_ready (rs := [7]) (by kernel_rfl) (by simp) ?_
    refine AllReadyH.cons rfl (fun KK hK => ?_) AllReadyH.nil
    go_simp
    refine (hC7 _ (tab_below ht6 hHeld)).mono ?_
    rintro e wc7 ⟨rfl, hbc⟩
    replace hHeld := hHeld.trans (hbc.mono hHeld.size)
    clear hbc
    go_wp2_with fail
    refine hK.out _ _ hHeld (fun _ => ?_)
    clear hK KK
    try simp only [Act.put, List.setIfInBounds_toArray, List.set_cons_zero, List.set_cons_succ]
    refine' wpAnyH_take (i := 9) (v := _) rfl (by kernel_rfl) (by kernel_rfl) (by kernel_rfl) (fun _ _ _ h => h) (Or.inl ⟨by kernel_rfl, ?hyt9⟩) (by assumption) ?restt9
    case hyt9 => intro W hW; go_simp; all_goals with_reducible rfl
    change wpAnyH _ _ _ _ _ _ _ (Act.put _ (some 44) _) _
    simp only [Act.put, List.setIfInBounds_toArray, List.set_cons_zero, List.set_cons_succ]
    refine' wpAnyH_take (i := 10) (v := _) rfl (by kernel_rfl) (by kernel_rfl) (by kernel_rfl) (fun _ _ _ h => h) (Or.inl ⟨by kernel_rfl, ?hyt10⟩) (by assumption) ?restt10
    case hyt10 => intro W hW; go_simp; all_goals with_reducible rfl
    change wpAnyH _ _ _ _ _ _ _ (Act.put _ (some 45) _) _
    simp only [Act.put, List.setIfInBounds_toArray, List.set_cons_zero, List.set_cons_succ]
    refine' wpAnyH_take (i := 11) (v := _) rfl (by kernel_rfl) (by kernel_rfl) (by kernel_rfl) (fun _ _ _ h => h) (Or.inl ⟨by kernel_rfl, ?hyt11⟩) (by assumption) ?restt11
    case hyt11 => intro W hW; obtain ⟨c0, c1, c2⟩ := (hY.below hW).cells; go_simp; all_goals with_reducible rfl
    change wpAnyH _ _ _ _ _ _ _ (Act.put _ (some 46) _) _
    simp only [Act.put, List.setIfInBounds_toArray, List.set_cons_zero, List.set_cons_succ]
    refine wpAnyH_ready (rs := [12]) (by kernel_rfl) (by simp) ?_
    refine AllReadyH.cons rfl (fun KK hK => ?_) AllReadyH.nil
    go_simp
    refine (hC12 _).mono ?_
    rintro e wc12 ⟨rfl, hbc⟩
    replace hHeld := hHeld.trans (hbc.mono hHeld.size)
    clear hbc
    go_wp2_with fail
    refine hK.out _ _ hHeld (fun _ => ?_)
    clear hK KK
    try simp only [Act.put, List.setIfInBounds_toArray, List.set_cons_zero, List.set_cons_succ]
    refine' wpAnyH_take (i := 13) (v := _) rfl (by kernel_rfl) (by kernel_rfl) (by kernel_rfl) (fun _ _ _ h => h) (Or.inl ⟨by kernel_rfl, ?hyt13⟩) (by assumption) ?restt13
    case hyt13 => intro W hW; go_simp; all_goals with_reducible rfl
    change wpAnyH _ _ _ _ _ _ _ (Act.put _ (some 48) _) _
    simp only [Act.put, List.setIfInBounds_toArray, List.set_cons_zero, List.set_cons_succ]
    refine' wpAnyH_take (i := 14) (v := _) rfl (by kernel_rfl) (by kernel_rfl) (by kernel_rfl) (fun _ _ _ h => h) (Or.inl ⟨by kernel_rfl, ?hyt14⟩) (by assumption) ?restt14
    case hyt14 => intro W hW; go_simp; all_goals with_reducible rfl
    change wpAnyH _ _ _ _ _ _ _ (Act.put _ (some 49) _) _
    simp only [Act.put, List.setIfInBounds_toArray, List.set_cons_zero, List.set_cons_succ]
    refine' wpAnyH_take (i := 15) (v := _) rfl (by kernel_rfl) (by kernel_rfl) (by kernel_rfl) (fun _ _ _ h => h) (Or.inl ⟨by kernel_rfl, ?hyt15⟩) (by assumption) ?restt15
    case hyt15 => intro W hW; go_simp; all_goals with_reducible rfl
    change wpAnyH _ _ _ _ _ _ _ (Act.put _ (some 50) _) _
    simp only [Act.put, List.setIfInBounds_toArray, List.set_cons_zero, List.set_cons_succ]
    refine' wpAnyH_take (i := 16) (v := _) rfl (by kernel_rfl) (by kernel_rfl) (by kernel_rfl) (fun _ _ _ h => h) (Or.inl ⟨by kernel_rfl, ?hyt16⟩) (by assumption) ?restt16
    case hyt16 => intro W hW; go_simp; all_goals with_reducible rfl
    change wpAnyH _ _ _ _ _ _ _ (Act.put _ (some 51) _) _
    simp only [Act.put, List.setIfInBounds_toArray, List.set_cons_zero, List.set_cons_succ]
    refine' wpAnyH_take (i := 17) (v := _) rfl (by kernel_rfl) (by kernel_rfl) (by kernel_rfl) (fun _ _ _ h => h) (Or.inl ⟨by kernel_rfl, ?hyt17⟩) (by assumption) ?restt17
    case hyt17 => intro W hW; go_simp; all_goals with_reducible rfl
    change wpAnyH _ _ _ _ _ _ _ (Act.put _ (some 52) _) _
    simp only [Act.put, List.setIfInBounds_toArray, List.set_cons_zero, List.set_cons_succ]
    refine' wpAnyH_take (i := 18) (v := _) rfl (by kernel_rfl) (by kernel_rfl) (by kernel_rfl) (fun _ _ _ h => h) (Or.inl ⟨by kernel_rfl, ?hyt18⟩) (by assumption) ?restt18
    case hyt18 => intro W hW; go_simp; all_goals with_reducible rfl
    change wpAnyH _ _ _ _ _ _ _ (Act.put _ (some 53) _) _
    simp only [Act.put, List.setIfInBounds_toArray, List.set_cons_zero, List.set_cons_succ]
    refine' wpAnyH_take (i := 19) (v := _) rfl (by kernel_rfl) (by kernel_rfl) (by kernel_rfl) (fun _ _ _ h => h) (Or.inl ⟨by kernel_rfl, ?hyt19⟩) (by assumption) ?restt19
    case hyt19 => intro W hW; obtain ⟨c0, c1, c2⟩ := (hV.below hW).cells; go_simp; all_goals with_reducible rfl
    change wpAnyH _ _ _ _ _ _ _ (Act.put _ (some 54) _) _
    simp only [Act.put, List.setIfInBounds_toArray, List.set_cons_zero, List.set_cons_succ]
    refine wpAnyH_ready (rs := [20]) (by kernel_rfl) (by simp) ?_
    refine AllReadyH.cons rfl (fun KK hK => ?_) AllReadyH.nil
    go_simp
    refine (hC20 _).mono ?_
    rintro e wc20 ⟨rfl, hbc⟩
    replace hHeld := hHeld.trans (hbc.mono hHeld.size)
    clear hbc
    go_wp2_with fail
    refine hK.out _ _ hHeld (fun _ => ?_)
    clear hK KK
    try simp only [Act.put, List.setIfInBounds_toArray, List.set_cons_zero, List.set_cons_succ]
    refine' wpAnyH_take (i := 21) (v := _) rfl (by kernel_rfl) (by kernel_rfl) (by kernel_rfl) (fun _ _ _ h => h) (Or.inl ⟨by kernel_rfl, ?hyt21⟩) (by assumption) ?restt21
    case hyt21 => intro W hW; go_simp; all_goals with_reducible rfl
    change wpAnyH _ _ _ _ _ _ _ (Act.put _ (some 56) _) _
    simp only [Act.put, List.setIfInBounds_toArray, List.set_cons_zero, List.set_cons_succ]
    refine' wpAnyH_take (i := 22) (v := _) rfl (by kernel_rfl) (by kernel_rfl) (by kernel_rfl) (fun _ _ _ h => h) (Or.inl ⟨by kernel_rfl, ?hyt22⟩) (by assumption) ?restt22
    case hyt22 => intro W hW; go_simp; all_goals with_reducible rfl
    change wpAnyH _ _ _ _ _ _ _ (Act.put _ (some 57) _) _
    simp only [Act.put, List.setIfInBounds_toArray, List.set_cons_zero, List.set_cons_succ]
    refine' wpAnyH_take (i := 23) (v := _) rfl (by kernel_rfl) (by kernel_rfl) (by kernel_rfl) (fun _ _ _ h => h) (Or.inl ⟨by kernel_rfl, ?hyt23⟩) (by assumption) ?restt23
    case hyt23 => intro W hW; go_simp; all_goals with_reducible rfl
    change wpAnyH _ _ _ _ _ _ _ (Act.put _ (some 58) _) _
    simp only [Act.put, List.setIfInBounds_toArray, List.set_cons_zero, List.set_cons_succ]
    refine' wpAnyH_take (i := 24) (v := _) rfl (by kernel_rfl) (by kernel_rfl) (by kernel_rfl) (fun _ _ _ h => h) (Or.inl ⟨by kernel_rfl, ?hyt24⟩) (by assumption) ?restt24
    case hyt24 => intro W hW; obtain ⟨c0, c1, c2⟩ := (hV.below hW).cells; go_simp; all_goals with_reducible rfl
    change wpAnyH _ _ _ _ _ _ _ (Act.put _ (some 59) _) _
    simp only [Act.put, List.setIfInBounds_toArray, List.set_cons_zero, List.set_cons_succ]
    refine' wpAnyH_take (i := 26) (v := _) rfl (by kernel_rfl) (by kernel_rfl) (by kernel_rfl) (fun _ _ _ h => h) (Or.inl ⟨by kernel_rfl, ?hyt26⟩) (by assumption) ?restt26
    case hyt26 => intro W hW; obtain ⟨c0, c1, c2⟩ := (hV.below hW).cells; go_simp; all_goals with_reducible rfl
    change wpAnyH _ _ _ _ _ _ _ (Act.put _ (some 61) _) _
    simp only [Act.put, List.setIfInBounds_toArray, List.set_cons_zero, List.set_cons_succ]
    refine wpAnyH_ready (rs := [25]) (by kernel_rfl) (by simp) ?_
    refine AllReadyH.cons rfl (fun KK hK => ?_) AllReadyH.nil
    go_simp
    refine (hC25 _).mono ?_
    rintro e wc25 ⟨rfl, hbc⟩
    replace hHeld := hHeld.trans (hbc.mono hHeld.size)
    clear hbc
    go_wp2_with fail
    refine hK.out _ _ hHeld (fun _ => ?_)
    clear hK KK
    try simp only [Act.put, List.setIfInBounds_toArray, List.set_cons_zero, List.set_cons_succ]
    refine wpAnyH_ready (rs := [27]) (by kernel_rfl) (by simp) ?_
    refine AllReadyH.cons rfl (fun KK hK => ?_) AllReadyH.nil
    go_simp
    refine (hC27 _).mono ?_
    rintro e wc27 ⟨rfl, hbc⟩
    replace hHeld := hHeld.trans (hbc.mono hHeld.size)
    clear hbc
    go_wp2_with fail
    refine hK.out _ _ hHeld (fun _ => ?_)
    clear hK KK
    try simp only [Act.put, List.setIfInBounds_toArray, List.set_cons_zero, List.set_cons_succ]
    refine' wpAnyH_take (i := 28) (v := _) rfl (by kernel_rfl) (by kernel_rfl) (by kernel_rfl) (fun _ _ _ h => h) (Or.inl ⟨by kernel_rfl, ?hyt28⟩) (by assumption) ?restt28
    case hyt28 => intro W hW; go_simp; all_goals with_reducible rfl
    change wpAnyH _ _ _ _ _ _ _ (Act.put _ (some 63) _) _
    simp only [Act.put, List.setIfInBounds_toArray, List.set_cons_zero, List.set_cons_succ]
    refine' wpAnyH_take (i := 29) (v := _) rfl (by kernel_rfl) (by kernel_rfl) (by kernel_rfl) (fun _ _ _ h => h) (Or.inl ⟨by kernel_rfl, ?hyt29⟩) (by assumption) ?restt29
    case hyt29 => intro W hW; go_simp; all_goals with_reducible rfl
    change wpAnyH _ _ _ _ _ _ _ (Act.put _ (some 64) _) _
    simp only [Act.put, List.setIfInBounds_toArray, List.set_cons_zero, List.set_cons_succ]
    refine wpAnyH_done (by kernel_rfl) ?_ _
    obtain ⟨c0, c1, c2⟩ := (hV.below hHeld).cells
    obtain ⟨d0, d1, d2⟩ := (hX.below hHeld).cells
    have HB : Hid (Below w.heap.size w wc27) := hB6.trans (hHeld.mono hB6.size)
    clear hHeld hV hX hY hB6 hC20 hC25 hC27 hC7 hC12 ht6
    rcases HF.out with ⟨rfl, -⟩ | ⟨h0, rfl, rfl, rfl, rfl⟩
    · clear HF
      have e4 : (bytesOf []).toList.isEmpty = true := by rw [ByteArray.toList_eq, bytesOf_list]; rfl
      go_wp2
      go_ret
      exact ⟨rfl, HB.out⟩
    · clear HF
      have e4 : (bytesOf l).toList.isEmpty = false := by
        rw [ByteArray.toList_eq, bytesOf_list]
        simpa using h0
      have q := eqVal_run k1 m1 s1 k1 m1 s1
      rw [show eqV k1 m1 s1 k1 m1 s1 = true by simp [eqV]] at q
      clear h0
      go_wp2
      go_ret
      exact ⟨rfl, HB.out⟩
  | false =>
    clear HP
    refine wp_region_held_drew (S := fun W => Below w6.heap.size w6 W) (by kernel_rfl) (Below.refl _ _).drew (fun hHeld => ?_)
    refine' wpAnyH_take (i := 0) (v := _) rfl (by kernel_rfl) (by kernel_rfl) (by kernel_rfl) (fun _ _ _ h => h) (Or.inl ⟨by kernel_rfl, ?hyf0⟩) (by assumption) ?restf0
    case hyf0 => intro W hW; go_simp; all_goals with_reducible rfl
    change wpAnyH _ _ _ _ _ _ _ (Act.put _ (some 35) _) _
    simp only [Act.put, List.setIfInBounds_toArray, List.set_cons_zero, List.set_cons_succ]
    refine' wpAnyH_take (i := 1) (v := _) rfl (by kernel_rfl) (by kernel_rfl) (by kernel_rfl) (fun _ _ _ h => h) (Or.inl ⟨by kernel_rfl, ?hyf1⟩) (by assumption) ?restf1
    case hyf1 => intro W hW; go_simp; all_goals with_reducible rfl
    change wpAnyH _ _ _ _ _ _ _ (Act.put _ (some 36) _) _
    simp only [Act.put, List.setIfInBounds_toArray, List.set_cons_zero, List.set_cons_succ]
    refine' wpAnyH_take (i := 2) (v := _) rfl (by kernel_rfl) (by kernel_rfl) (by kernel_rfl) (fun _ _ _ h => h) (Or.inl ⟨by kernel_rfl, ?hyf2⟩) (by assumption) ?restf2
    case hyf2 => intro W hW; go_simp; all_goals with_reducible rfl
    change wpAnyH _ _ _ _ _ _ _ (Act.put _ (some 37) _) _
    simp only [Act.put, List.setIfInBounds_toArray, List.set_cons_zero, List.set_cons_succ]
    refine' wpAnyH_take (i := 3) (v := _) rfl (by kernel_rfl) (by kernel_rfl) (by kernel_rfl) (fun _ _ _ h => h) (Or.inl ⟨by kernel_rfl, ?hyf3⟩) (by assumption) ?restf3
    case hyf3 => intro W hW; go_simp; all_goals with_reducible rfl
    change wpAnyH _ _ _ _ _ _ _ (Act.put _ (some 38) _) _
    simp only [Act.put, List.setIfInBounds_toArray, List.set_cons_zero, List.set_cons_succ]
    refine' wpAnyH_take (i := 4) (v := _) rfl (by kernel_rfl) (by kernel_rfl) (by kernel_rfl) (fun _ _ _ h => h) (Or.inl ⟨by kernel_rfl, ?hyf4⟩) (by assumption) ?restf4
    case hyf4 => intro W hW; go_simp; all_goals with_reducible rfl
    change wpAnyH _ _ _ _ _ _ _ (Act.put _ (some 39) _) _
    simp only [Act.put, List.setIfInBounds_toArray, List.set_cons_zero, List.set_cons_succ]
    refine' wpAnyH_take (i := 5) (v := _) rfl (by kernel_rfl) (by kernel_rfl) (by kernel_rfl) (fun _ _ _ h => h) (Or.inl ⟨by kernel_rfl, ?hyf5⟩) (by assumption) ?restf5
    case hyf5 => intro W hW; go_simp; all_goals with_reducible rfl
    change wpAnyH _ _ _ _ _ _ _ (Act.put _ (some 40) _) _
    simp only [Act.put, List.setIfInBounds_toArray, List.set_cons_zero, List.set_cons_succ]
    refine wpAnyH_take (i := 6) (v := undef) rfl (by kernel_rfl) (by kernel_rfl) (by kernel_rfl) (fun _ _ _ h => h) (Or.inr ⟨by kernel_rfl, rfl⟩) (by assumption) ?_
    change wpAnyH _ _ _ _ _ _ _ (Act.put _ (some 41) _) _
    simp only [Act.put, List.setIfInBounds_toArray, List.set_cons_zero, List.set_cons_succ]
    refine wpAnyH_take (i := 7) (v := undef) rfl (by kernel_rfl) (by kernel_rfl) (by kernel_rfl) (fun _ _ _ h => h) (Or.inr ⟨by kernel_rfl, rfl⟩) (by assumption) ?_
    change wpAnyH _ _ _ _ _ _ _ (Act.put _ (some 42) _) _
    simp only [Act.put, List.setIfInBounds_toArray, List.set_cons_zero, List.set_cons_succ]
    refine wpAnyH_take (i := 8) (v := undef) rfl (by kernel_rfl) (by kernel_rfl) (by kernel_rfl) (fun _ _ _ h => h) (Or.inr ⟨by kernel_rfl, rfl⟩) (by assumption) ?_
    change wpAnyH _ _ _ _ _ _ _ (Act.put _ (some 43) _) _
    simp only [Act.put, List.setIfInBounds_toArray, List.set_cons_zero, List.set_cons_succ]
    refine wpAnyH_take (i := 9) (v := undef) rfl (by kernel_rfl) (by kernel_rfl) (by kernel_rfl) (fun _ _ _ h => h) (Or.inr ⟨by kernel_rfl, rfl⟩) (by assumption) ?_
    change wpAnyH _ _ _ _ _ _ _ (Act.put _ (some 44) _) _
    simp only [Act.put, List.setIfInBounds_toArray, List.set_cons_zero, List.set_cons_succ]
    refine wpAnyH_take (i := 10) (v := undef) rfl (by kernel_rfl) (by kernel_rfl) (by kernel_rfl) (fun _ _ _ h => h) (Or.inr ⟨by kernel_rfl, rfl⟩) (by assumption) ?_
    change wpAnyH _ _ _ _ _ _ _ (Act.put _ (some 45) _) _
    simp only [Act.put, List.setIfInBounds_toArray, List.set_cons_zero, List.set_cons_succ]
    refine wpAnyH_take (i := 11) (v := undef) rfl (by kernel_rfl) (by kernel_rfl) (by kernel_rfl) (fun _ _ _ h => h) (Or.inr ⟨by kernel_rfl, rfl⟩) (by assumption) ?_
    change wpAnyH _ _ _ _ _ _ _ (Act.put _ (some 46) _) _
    simp only [Act.put, List.setIfInBounds_toArray, List.set_cons_zero, List.set_cons_succ]
    refine wpAnyH_take (i := 12) (v := undef) rfl (by kernel_rfl) (by kernel_rfl) (by kernel_rfl) (fun _ _ _ h => h) (Or.inr ⟨by kernel_rfl, rfl⟩) (by assumption) ?_
    change wpAnyH _ _ _ _ _ _ _ (Act.put _ (some 47) _) _
    simp only [Act.put, List.setIfInBounds_toArray, List.set_cons_zero, List.set_cons_succ]
    refine wpAnyH_take (i := 13) (v := undef) rfl (by kernel_rfl) (by kernel_rfl) (by kernel_rfl) (fun _ _ _ h => h) (Or.inr ⟨by kernel_rfl, rfl⟩) (by assumption) ?_
    change wpAnyH _ _ _ _ _ _ _ (Act.put _ (some 48) _) _
    simp only [Act.put, List.setIfInBounds_toArray, List.set_cons_zero, List.set_cons_succ]
    refine wpAnyH_take (i := 14) (v := undef) rfl (by kernel_rfl) (by kernel_rfl) (by kernel_rfl) (fun _ _ _ h => h) (Or.inr ⟨by kernel_rfl, rfl⟩) (by assumption) ?_
    change wpAnyH _ _ _ _ _ _ _ (Act.put _ (some 49) _) _
    simp only [Act.put, List.setIfInBounds_toArray, List.set_cons_zero, List.set_cons_succ]
    refine' wpAnyH_take (i := 15) (v := _) rfl (by kernel_rfl) (by kernel_rfl) (by kernel_rfl) (fun _ _ _ h => h) (Or.inl ⟨by kernel_rfl, ?hyf15⟩) (by assumption) ?restf15
    case hyf15 => intro W hW; go_simp; all_goals with_reducible rfl
    change wpAnyH _ _ _ _ _ _ _ (Act.put _ (some 50) _) _
    simp only [Act.put, List.setIfInBounds_toArray, List.set_cons_zero, List.set_cons_succ]
    refine' wpAnyH_take (i := 16) (v := _) rfl (by kernel_rfl) (by kernel_rfl) (by kernel_rfl) (fun _ _ _ h => h) (Or.inl ⟨by kernel_rfl, ?hyf16⟩) (by assumption) ?restf16
    case hyf16 => intro W hW; go_simp; all_goals with_reducible rfl
    change wpAnyH _ _ _ _ _ _ _ (Act.put _ (some 51) _) _
    simp only [Act.put, List.setIfInBounds_toArray, List.set_cons_zero, List.set_cons_succ]
    refine' wpAnyH_take (i := 17) (v := _) rfl (by kernel_rfl) (by kernel_rfl) (by kernel_rfl) (fun _ _ _ h => h) (Or.inl ⟨by kernel_rfl, ?hyf17⟩) (by assumption) ?restf17
    case hyf17 => intro W hW; go_simp; all_goals with_reducible rfl
    change wpAnyH _ _ _ _ _ _ _ (Act.put _ (some 52) _) _
    simp only [Act.put, List.setIfInBounds_toArray, List.set_cons_zero, List.set_cons_succ]
    refine' wpAnyH_take (i := 18) (v := _) rfl (by kernel_rfl) (by kernel_rfl) (by kernel_rfl) (fun _ _ _ h => h) (Or.inl ⟨by kernel_rfl, ?hyf18⟩) (by assumption) ?restf18
    case hyf18 => intro W hW; go_simp; all_goals with_reducible rfl
    change wpAnyH _ _ _ _ _ _ _ (Act.put _ (some 53) _) _
    simp only [Act.put, List.setIfInBounds_toArray, List.set_cons_zero, List.set_cons_succ]
    refine' wpAnyH_take (i := 19) (v := _) rfl (by kernel_rfl) (by kernel_rfl) (by kernel_rfl) (fun _ _ _ h => h) (Or.inl ⟨by kernel_rfl, ?hyf19⟩) (by assumption) ?restf19
    case hyf19 => intro W hW; obtain ⟨c0, c1, c2⟩ := (hV.below hW).cells; go_simp; all_goals with_reducible rfl
    change wpAnyH _ _ _ _ _ _ _ (Act.put _ (some 54) _) _
    simp only [Act.put, List.setIfInBounds_toArray, List.set_cons_zero, List.set_cons_succ]
    refine wpAnyH_ready (rs := [20]) (by kernel_rfl) (by simp) ?_
    refine AllReadyH.cons rfl (fun KK hK => ?_) AllReadyH.nil
    go_simp
    refine (hC20 _).mono ?_
    rintro e wc20 ⟨rfl, hbc⟩
    replace hHeld := hHeld.trans (hbc.mono hHeld.size)
    clear hbc
    go_wp2_with fail
    refine hK.out _ _ hHeld (fun _ => ?_)
    clear hK KK
    try simp only [Act.put, List.setIfInBounds_toArray, List.set_cons_zero, List.set_cons_succ]
    refine' wpAnyH_take (i := 21) (v := _) rfl (by kernel_rfl) (by kernel_rfl) (by kernel_rfl) (fun _ _ _ h => h) (Or.inl ⟨by kernel_rfl, ?hyf21⟩) (by assumption) ?restf21
    case hyf21 => intro W hW; go_simp; all_goals with_reducible rfl
    change wpAnyH _ _ _ _ _ _ _ (Act.put _ (some 56) _) _
    simp only [Act.put, List.setIfInBounds_toArray, List.set_cons_zero, List.set_cons_succ]
    refine' wpAnyH_take (i := 22) (v := _) rfl (by kernel_rfl) (by kernel_rfl) (by kernel_rfl) (fun _ _ _ h => h) (Or.inl ⟨by kernel_rfl, ?hyf22⟩) (by assumption) ?restf22
    case hyf22 => intro W hW; go_simp; all_goals with_reducible rfl
    change wpAnyH _ _ _ _ _ _ _ (Act.put _ (some 57) _) _
    simp only [Act.put, List.setIfInBounds_toArray, List.set_cons_zero, List.set_cons_succ]
    refine' wpAnyH_take (i := 23) (v := _) rfl (by kernel_rfl) (by kernel_rfl) (by kernel_rfl) (fun _ _ _ h => h) (Or.inl ⟨by kernel_rfl, ?hyf23⟩) (by assumption) ?restf23
    case hyf23 => intro W hW; go_simp; all_goals with_reducible rfl
    change wpAnyH _ _ _ _ _ _ _ (Act.put _ (some 58) _) _
    simp only [Act.put, List.setIfInBounds_toArray, List.set_cons_zero, List.set_cons_succ]
    refine' wpAnyH_take (i := 24) (v := _) rfl (by kernel_rfl) (by kernel_rfl) (by kernel_rfl) (fun _ _ _ h => h) (Or.inl ⟨by kernel_rfl, ?hyf24⟩) (by assumption) ?restf24
    case hyf24 => intro W hW; obtain ⟨c0, c1, c2⟩ := (hV.below hW).cells; go_simp; all_goals with_reducible rfl
    change wpAnyH _ _ _ _ _ _ _ (Act.put _ (some 59) _) _
    simp only [Act.put, List.setIfInBounds_toArray, List.set_cons_zero, List.set_cons_succ]
    refine' wpAnyH_take (i := 26) (v := _) rfl (by kernel_rfl) (by kernel_rfl) (by kernel_rfl) (fun _ _ _ h => h) (Or.inl ⟨by kernel_rfl, ?hyf26⟩) (by assumption) ?restf26
    case hyf26 => intro W hW; obtain ⟨c0, c1, c2⟩ := (hV.below hW).cells; go_simp; all_goals with_reducible rfl
    change wpAnyH _ _ _ _ _ _ _ (Act.put _ (some 61) _) _
    simp only [Act.put, List.setIfInBounds_toArray, List.set_cons_zero, List.set_cons_succ]
    refine wpAnyH_ready (rs := [25]) (by kernel_rfl) (by simp) ?_
    refine AllReadyH.cons rfl (fun KK hK => ?_) AllReadyH.nil
    go_simp
    refine (hC25 _).mono ?_
    rintro e wc25 ⟨rfl, hbc⟩
    replace hHeld := hHeld.trans (hbc.mono hHeld.size)
    clear hbc
    go_wp2_with fail
    refine hK.out _ _ hHeld (fun _ => ?_)
    clear hK KK
    try simp only [Act.put, List.setIfInBounds_toArray, List.set_cons_zero, List.set_cons_succ]
    refine wpAnyH_ready (rs := [27]) (by kernel_rfl) (by simp) ?_
    refine AllReadyH.cons rfl (fun KK hK => ?_) AllReadyH.nil
    go_simp
    refine (hC27 _).mono ?_
    rintro e wc27 ⟨rfl, hbc⟩
    replace hHeld := hHeld.trans (hbc.mono hHeld.size)
    clear hbc
    go_wp2_with fail
    refine hK.out _ _ hHeld (fun _ => ?_)
    clear hK KK
    try simp only [Act.put, List.setIfInBounds_toArray, List.set_cons_zero, List.set_cons_succ]
    refine' wpAnyH_take (i := 28) (v := _) rfl (by kernel_rfl) (by kernel_rfl) (by kernel_rfl) (fun _ _ _ h => h) (Or.inl ⟨by kernel_rfl, ?hyf28⟩) (by assumption) ?restf28
    case hyf28 => intro W hW; go_simp; all_goals with_reducible rfl
    change wpAnyH _ _ _ _ _ _ _ (Act.put _ (some 63) _) _
    simp only [Act.put, List.setIfInBounds_toArray, List.set_cons_zero, List.set_cons_succ]
    refine' wpAnyH_take (i := 29) (v := _) rfl (by kernel_rfl) (by kernel_rfl) (by kernel_rfl) (fun _ _ _ h => h) (Or.inl ⟨by kernel_rfl, ?hyf29⟩) (by assumption) ?restf29
    case hyf29 => intro W hW; go_simp; all_goals with_reducible rfl
    change wpAnyH _ _ _ _ _ _ _ (Act.put _ (some 64) _) _
    simp only [Act.put, List.setIfInBounds_toArray, List.set_cons_zero, List.set_cons_succ]
    refine wpAnyH_done (by kernel_rfl) ?_ _
    obtain ⟨c0, c1, c2⟩ := (hV.below hHeld).cells
    obtain ⟨d0, d1, d2⟩ := (hX.below hHeld).cells
    have HB : Hid (Below w.heap.size w wc27) := hB6.trans (hHeld.mono hB6.size)
    clear hHeld hV hX hY hB6 hC20 hC25 hC27 hC7 hC12 ht6
    rcases HF.out with ⟨rfl, -⟩ | ⟨h0, rfl, rfl, rfl, rfl⟩
    · clear HF
      have e4 : (bytesOf []).toList.isEmpty = true := by rw [ByteArray.toList_eq, bytesOf_list]; rfl
      go_wp2
      go_ret
      exact ⟨rfl, HB.out⟩
    · clear HF
      have e4 : (bytesOf l).toList.isEmpty = false := by
        rw [ByteArray.toList_eq, bytesOf_list]
        simpa using h0
      have q := eqVal_run k1 m1 s1 k1 m1 s1
      rw [show eqV k1 m1 s1 k1 m1 s1 = true by simp [eqV]] at q
      clear h0
      go_wp2
      go_ret
      exact ⟨rfl, HB.out⟩
end Go.Proofs.YthjddmhcppdleaaDoor
