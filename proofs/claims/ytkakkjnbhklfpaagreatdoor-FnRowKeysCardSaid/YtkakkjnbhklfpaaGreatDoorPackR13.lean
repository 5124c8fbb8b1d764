/-
  Together: PartPutImpl, EncTo
-/
import Derived.Test.YtkakkjnbhklfpaaGreatDoorPackR10
import Derived.Test.YtkakkjnbhklfpaaGreatDoorPackR11
import Derived.Test.YtkakkjnbhklfpaaGreatDoorPackR12
import Derived.Test.YtkakkjnbhklfpaaGreatDoorPackR2
import Derived.Test.YtkakkjnbhklfpaaGreatDoorPartTwo
import Derived.Deep.RegionHeld3
import Derived.Test.YtkakkjnbhklfpaaGreatDoorPackR1
/-
  The program's PutPart: one value of a key behind the bytes that are there, in a row of the call's own.
-/
namespace Go.Proofs.YtkakkjnbhklfpaaGreatDoor
open Go.RowKit
set_option maxRecDepth 4000

set_option maxHeartbeats 1000000 in
theorem presence_any (k x : Int) (s : ByteArray) (w : World) :
    Calls Tryz.prog 139 #[.agg #[.int .i64 k, .int .i64 x, .string s]] w fun e w' => e = .returned (.int .u8 (if k = 0 then 0 else 1)) ∧ Below w.heap.size w w' := by
  have hb0 : Below w.heap.size w (w.alloc (.cells #[.int .i64 k, .int .i64 x, .string s] 58)) := (Below.refl _ _).alloc (Nat.le_refl _) _
  by_cases h : k = 0
  · rw [if_pos h]
    subst h
    go_enter Tryz.func139, Tryz.ntmps139
    go_wp2
    go_ret
    exact ⟨rfl, hb0⟩
  · rw [if_neg h]
    have q : (k == 0) = false := by simpa using h
    go_enter Tryz.func139, Tryz.ntmps139
    go_wp2
    go_ret
    exact ⟨rfl, hb0⟩

/-- The function is Go's own. -/
def Enters (F : Nat) : Prop := ∀ (args : Array Value) (W : World), (callFunc F args).run Tryz.prog W = .ok (.enter F args) W
/-- A type's writer, by its number. -/
theorem formPut {t x : Int} {s : ByteArray} (ht : 1 ≤ t ∧ t ≤ 4) (ho : okF t x s = true) : ∃ F G : Nat, (formV t).1 = .func (.func F) #[] #[] ∧ (formV t).2 = .func (.func G) #[] #[] ∧ Enters F ∧ ∀ n f, n ≤ 1759218600000 → Writes F n f t x s (valL t x s) := by
  have hs := okF_few ho
  obtain rfl | rfl | rfl | rfl : t = 1 ∨ t = 2 ∨ t = 3 ∨ t = 4 := by omega
  · rw [okF_spec1] at ho; simp at ho
    exact ⟨_, _, rfl, rfl, fun _ _ => by kernel_rfl, fun n f hn => putInt_any n f 1 x s (by omega) (by omega)⟩
  · rw [okF_spec2] at ho; simp at ho
    exact ⟨_, _, rfl, rfl, fun _ _ => by kernel_rfl, fun n f hn => putNum_any n f 2 x s (by omega) (by omega)⟩
  · exact ⟨_, _, rfl, rfl, fun _ _ => by kernel_rfl, fun n f hn => putText_any n f 3 x s (by omega) (by omega)⟩
  · rw [okF_spec4] at ho; simp at ho
    exact ⟨_, _, rfl, rfl, fun _ _ => by kernel_rfl, fun n f hn => putBool_any n f 4 x s (by omega) (by omega)⟩

/-- What PutPart comes to: the list's bytes behind those that are there, in memory of its own. -/
def Puts (n : Nat) (f : Nat → Int) (w : World) (l : List Int) (e : Ending) (w' : World) : Prop :=
  ∃ g c, e = .returned (.slice (some ⟨g, 0, none⟩) (n + l.length) c) ∧ w.heap.size ≤ g ∧ n + l.length ≤ c ∧ Row 5 w' g (n + l.length) (fun i => (lof n f ++ l).getD i 0) ∧ Below w.heap.size w w'
theorem View.nil0 (w : World) : View w none 0 0 (fun _ => 0) := ⟨Nat.le_refl _, fun _ hi => absurd hi (Nat.not_lt_zero _), fun h => absurd h (Nat.lt_irrefl _)⟩
theorem one_list (n : Nat) (f : Nat → Int) (z : Int) (l : List Int) (m : Nat) (hm : m = n + 1) : lof m (fun i => (lof n f ++ [z]).getD i 0) ++ l = lof n f ++ (z :: l) := by
  subst hm
  have e : lof (n + 1) (fun i => (lof n f ++ [z]).getD i 0) = lof n f ++ [z] := by have := lof_self (lof n f ++ [z]); simpa [lof_len] using this
  rw [e, List.append_assoc]; rfl

set_option maxHeartbeats 4000000 in
theorem putPart_no (b off n cap : Nat) (f : Nat → Int) (c t : Int) (nul d : Bool) (k x : Int) (s : ByteArray) (w : World) (hv : View w (some ⟨b, off, none⟩) n cap f) (hn : n ≤ 10000000) (hok : partOk c t = false) :
    Calls Tryz.prog 106 #[.slice (some ⟨b, off, none⟩) n cap, .agg #[.int .i64 c, .int .i64 t, .bool nul, .bool d], .agg #[.int .i64 k, .int .i64 x, .string s]] w (Puts n f w []) := by
  have hPV := PV.start w 50 58 c t nul d k x s
  have hB := hPV.all
  go_enter Tryz.func106, Tryz.ntmps106
  go_wp2_with fail
  refine (implPartOk_any c t nul d _).mono ?_
  rw [hok]
  rintro e w1 ⟨rfl, hb⟩
  replace hPV := hPV.step hb
  replace hB := hB.trans (hb.mono hB.size)
  clear hb
  go_wp2_with fail
  refine (putBytes_any b off n cap f none 0 0 (fun _ => 0) _ (hv.below hB) (View.nil0 _) (fun _ => ⟨rfl, rfl⟩) (by omega)).mono ?_
  rintro e w3 ⟨rfl, hown, hb⟩
  have hs := hB.size
  replace hPV := hPV.step hb
  replace hB := hB.trans (hb.mono hB.size)
  clear hb
  go_wp2
  go_ret
  rw [show lof 0 (fun _ => (0 : Int)) = [] from rfl] at hown
  obtain ⟨g, cg, e, hg, hc, hr⟩ := row_of_own' hown (by intro h; cases h)
  cases e
  exact ⟨_, _, rfl, hs, hc, hr, hB⟩

set_option maxHeartbeats 4000000 in
theorem putPart_not (b off n cap : Nat) (f : Nat → Int) (c t : Int) (nul d : Bool) (k x : Int) (s : ByteArray) (w : World) (hv : View w (some ⟨b, off, none⟩) n cap f) (hn : n ≤ 10000000) (hok : partOk c t = true) (hfit : fitsI t nul k x s = false) :
    Calls Tryz.prog 106 #[.slice (some ⟨b, off, none⟩) n cap, .agg #[.int .i64 c, .int .i64 t, .bool nul, .bool d], .agg #[.int .i64 k, .int .i64 x, .string s]] w (Puts n f w []) := by
  have hPV := PV.start w 50 58 c t nul d k x s
  have hB := hPV.all
  go_enter Tryz.func106, Tryz.ntmps106
  go_wp2_with fail
  refine (implPartOk_any c t nul d _).mono ?_
  rw [hok]
  rintro e w1 ⟨rfl, hb⟩
  replace hPV := hPV.step hb
  replace hB := hB.trans (hb.mono hB.size)
  clear hb
  obtain ⟨p0, p1, p2, p3⟩ := hPV.part
  obtain ⟨v0, v1, v2⟩ := hPV.val
  go_wp2_with fail
  clear p0 p1 p2 p3 v0 v1 v2
  refine (implFits_any c t nul d k x s _).mono ?_
  rw [hfit]
  rintro e w2 ⟨rfl, hb⟩
  replace hPV := hPV.step hb
  replace hB := hB.trans (hb.mono hB.size)
  clear hb
  go_wp2_with fail
  refine (putBytes_any b off n cap f none 0 0 (fun _ => 0) _ (hv.below hB) (View.nil0 _) (fun _ => ⟨rfl, rfl⟩) (by omega)).mono ?_
  rintro e w3 ⟨rfl, hown, hb⟩
  have hs := hB.size
  replace hPV := hPV.step hb
  replace hB := hB.trans (hb.mono hB.size)
  clear hb
  go_wp2
  go_ret
  rw [show lof 0 (fun _ => (0 : Int)) = [] from rfl] at hown
  obtain ⟨g, cg, e, hg, hc, hr⟩ := row_of_own' hown (by intro h; cases h)
  cases e
  exact ⟨_, _, rfl, hs, hc, hr, hB⟩

set_option maxHeartbeats 8000000 in
theorem putPart_ff (b off n cap : Nat) (f : Nat → Int) (c t : Int) (x : Int) (s : ByteArray) (w : World) (hv : View w (some ⟨b, off, none⟩) n cap f) (hn : n ≤ 10000000) (hok : partOk c t = true) (hfit : fitsI t false t x s = true) (_hs30 : s.size ≤ 30) (ht : 1 ≤ t ∧ t ≤ 4) (F G : Nat) (hF : (formV t).1 = .func (.func F) #[] #[]) (hG : (formV t).2 = .func (.func G) #[] #[]) (hE : Enters F) (hW : ∀ n f, n ≤ 1759218600000 → Writes F n f t x s (valL t x s)) :
    Calls Tryz.prog 106 #[.slice (some ⟨b, off, none⟩) n cap, .agg #[.int .i64 c, .int .i64 t, .bool false, .bool false], .agg #[.int .i64 t, .int .i64 x, .string s]] w (Puts n f w (valL t x s)) := by
  have hPV := PV.start w 50 58 c t false false t x s
  have hB := hPV.all
  have HYF : Hid (∀ y ∈ lof n f, 0 ≤ y ∧ y ≤ 255) := lof_byte hv.byte
  have q4 : (t != 0) = true := by simp; omega
  go_enter Tryz.func106, Tryz.ntmps106
  go_wp2_with fail
  refine (implPartOk_any c t false false _).mono ?_
  rw [hok]
  rintro e w1 ⟨rfl, hb⟩
  replace hPV := hPV.step hb
  replace hB := hB.trans (hb.mono hB.size)
  clear hb
  obtain ⟨p0, p1, p2, p3⟩ := hPV.part
  obtain ⟨v0, v1, v2⟩ := hPV.val
  go_wp2_with fail
  clear p0 p1 p2 p3 v0 v1 v2
  refine (implFits_any c t false false t x s _).mono ?_
  rw [hfit]
  rintro e w2 ⟨rfl, hb⟩
  replace hPV := hPV.step hb
  replace hB := hB.trans (hb.mono hB.size)
  clear hb
  obtain ⟨p0, p1, p2, p3⟩ := hPV.part
  obtain ⟨v0, v1, v2⟩ := hPV.val
  go_wp2_with fail
  clear p0 p1 p2 p3 v0 v1 v2
  have hb : Below w2.heap.size w2 w2.drew := (Below.refl _ _).drew
  replace hPV := hPV.step hb
  replace hB := hB.trans (hb.mono hB.size)
  clear hb
  refine wp_region_held_drew (S := PV w 50 58 c t false false t x s) (by kernel_rfl) (hPV) (fun hHeld => ?_)
  refine' wpAnyH_take (i := 0) (v := _) rfl (by kernel_rfl) (by kernel_rfl) (by kernel_rfl) (fun _ _ _ h => h) (Or.inl ⟨by kernel_rfl, ?ha0⟩) (by assumption) ?ra0
  case ha0 => intro W hW; go_simp; all_goals with_reducible rfl
  change wpAnyH _ _ _ _ _ _ _ (Act.put _ (some 30) _) _
  simp only [Act.put, List.setIfInBounds_toArray, List.set_cons_zero, List.set_cons_succ]
  refine' wpAnyH_take (i := 1) (v := _) rfl (by kernel_rfl) (by kernel_rfl) (by kernel_rfl) (fun _ _ _ h => h) (Or.inl ⟨by kernel_rfl, ?ha1⟩) (by assumption) ?ra1
  case ha1 => intro W hW; obtain ⟨c0, c1, c2, c3⟩ := PV.part hW; go_simp; all_goals with_reducible rfl
  change wpAnyH _ _ _ _ _ _ _ (Act.put _ (some 31) _) _
  simp only [Act.put, List.setIfInBounds_toArray, List.set_cons_zero, List.set_cons_succ]
  refine' wpAnyH_take (i := 4) (v := _) rfl (by kernel_rfl) (by kernel_rfl) (by kernel_rfl) (fun _ _ _ h => h) (Or.inl ⟨by kernel_rfl, ?ha4⟩) (by assumption) ?ra4
  case ha4 => intro W hW; go_simp; all_goals with_reducible rfl
  change wpAnyH _ _ _ _ _ _ _ (Act.put _ (some 34) _) _
  simp only [Act.put, List.setIfInBounds_toArray, List.set_cons_zero, List.set_cons_succ]
  refine' wpAnyH_take (i := 5) (v := _) rfl (by kernel_rfl) (by kernel_rfl) (by kernel_rfl) (fun _ _ _ h => h) (Or.inl ⟨by kernel_rfl, ?ha5⟩) (by assumption) ?ra5
  case ha5 => intro W hW; obtain ⟨c0, c1, c2⟩ := PV.val hW; go_simp; all_goals with_reducible rfl
  change wpAnyH _ _ _ _ _ _ _ (Act.put _ (some 35) _) _
  simp only [Act.put, List.setIfInBounds_toArray, List.set_cons_zero, List.set_cons_succ]
  refine wpAnyH_ready (rs := [2]) (by kernel_rfl) (by simp) ?_
  refine AllReadyH.cons rfl (fun KK hK => ?_) AllReadyH.nil
  go_simp
  refine (formOf_any t _ ht).mono ?_
  rintro e w5 ⟨rfl, hb⟩
  rw [hF, hG]
  have fp := form_put F G
  replace hPV := hPV.step hb
  replace hB := hB.trans (hb.mono hB.size)
  clear hb
  go_wp2_with fail
  refine hK.out _ _ hPV (fun hHeld => ?_)
  clear hK KK
  try simp only [Act.put, List.setIfInBounds_toArray, List.set_cons_zero, List.set_cons_succ]
  refine' wpAnyH_take (i := 3) (v := _) rfl (by kernel_rfl) (by kernel_rfl) (by kernel_rfl) (fun _ _ _ h => h) (Or.inl ⟨by kernel_rfl, ?ha3⟩) (by assumption) ?ra3
  case ha3 => intro W hW; go_simp; all_goals with_reducible rfl
  change wpAnyH _ _ _ _ _ _ _ (Act.put _ (some 33) _) _
  simp only [Act.put, List.setIfInBounds_toArray, List.set_cons_zero, List.set_cons_succ]
  clear fp
  have hEF : ∀ (args : Array Value) (W : World), (callFunc F args).run Tryz.prog W = .ok (.enter F args) W := hE
  refine wpAnyH_ready (rs := [6]) (by kernel_rfl) (by simp) ?_
  refine AllReadyH.cons rfl (fun KK hK => ?_) AllReadyH.nil
  go_simp
  refine (hW _ _ (by omega) _ _ _ _ (hv.below hB)).mono ?_
  rintro e w6 ⟨g, cg, rfl, hg, hcg, hr, hb⟩
  replace hg := Nat.le_trans hB.size hg
  replace hPV := hPV.step hb
  replace hB := hB.trans (hb.mono hB.size)
  clear hb
  go_wp2_with fail
  refine hK.out _ _ hPV (fun hHeld => ?_)
  clear hK KK
  try simp only [Act.put, List.setIfInBounds_toArray, List.set_cons_zero, List.set_cons_succ]
  clear hEF
  refine' wpAnyH_take (i := 7) (v := _) rfl (by kernel_rfl) (by kernel_rfl) (by kernel_rfl) (fun _ _ _ h => h) (Or.inl ⟨by kernel_rfl, ?ha7⟩) (by assumption) ?ra7
  case ha7 => intro W hW; go_simp; all_goals with_reducible rfl
  change wpAnyH _ _ _ _ _ _ _ (Act.put _ (some 7) _) _
  simp only [Act.put, List.setIfInBounds_toArray, List.set_cons_zero, List.set_cons_succ]
  refine wpAnyH_done (by kernel_rfl) ?_ _
  have hr9 : Row 5 w6 g (n + (valL t x s).length) (fun i => (lof n f ++ valL t x s).getD i 0) := hr
  have hcg9 := hcg
  clear hr hcg
  have hbyt : Hid (∀ y ∈ (valL t x s), 0 ≤ y ∧ y ≤ 255) := (valL_byte t x s)
  have hlen := (valL_len t x s).2
  obtain ⟨p0, p1, p2, p3⟩ := hPV.part
  obtain ⟨v0, v1, v2⟩ := hPV.val
  go_wp2
  go_ret
  exact ⟨_, _, rfl, hg, hcg9, hr9, hB⟩

set_option maxHeartbeats 8000000 in
theorem putPart_ft (b off n cap : Nat) (f : Nat → Int) (c t : Int) (x : Int) (s : ByteArray) (w : World) (hv : View w (some ⟨b, off, none⟩) n cap f) (hn : n ≤ 10000000) (hok : partOk c t = true) (hfit : fitsI t false t x s = true) (hs30 : s.size ≤ 30) (ht : 1 ≤ t ∧ t ≤ 4) (F G : Nat) (hF : (formV t).1 = .func (.func F) #[] #[]) (hG : (formV t).2 = .func (.func G) #[] #[]) (hE : Enters F) (hW : ∀ n f, n ≤ 1759218600000 → Writes F n f t x s (valL t x s)) :
    Calls Tryz.prog 106 #[.slice (some ⟨b, off, none⟩) n cap, .agg #[.int .i64 c, .int .i64 t, .bool false, .bool true], .agg #[.int .i64 t, .int .i64 x, .string s]] w (Puts n f w ((valL t x s).map (fun y => 255 - y))) := by
  have hPV := PV.start w 50 58 c t false true t x s
  have hB := hPV.all
  have HYF : Hid (∀ y ∈ lof n f, 0 ≤ y ∧ y ≤ 255) := lof_byte hv.byte
  have q4 : (t != 0) = true := by simp; omega
  go_enter Tryz.func106, Tryz.ntmps106
  go_wp2_with fail
  refine (implPartOk_any c t false true _).mono ?_
  rw [hok]
  rintro e w1 ⟨rfl, hb⟩
  replace hPV := hPV.step hb
  replace hB := hB.trans (hb.mono hB.size)
  clear hb
  obtain ⟨p0, p1, p2, p3⟩ := hPV.part
  obtain ⟨v0, v1, v2⟩ := hPV.val
  go_wp2_with fail
  clear p0 p1 p2 p3 v0 v1 v2
  refine (implFits_any c t false true t x s _).mono ?_
  rw [hfit]
  rintro e w2 ⟨rfl, hb⟩
  replace hPV := hPV.step hb
  replace hB := hB.trans (hb.mono hB.size)
  clear hb
  obtain ⟨p0, p1, p2, p3⟩ := hPV.part
  obtain ⟨v0, v1, v2⟩ := hPV.val
  go_wp2_with fail
  clear p0 p1 p2 p3 v0 v1 v2
  have hb : Below w2.heap.size w2 w2.drew := (Below.refl _ _).drew
  replace hPV := hPV.step hb
  replace hB := hB.trans (hb.mono hB.size)
  clear hb
  refine wp_region_held_drew (S := PV w 50 58 c t false true t x s) (by kernel_rfl) (hPV) (fun hHeld => ?_)
  refine' wpAnyH_take (i := 0) (v := _) rfl (by kernel_rfl) (by kernel_rfl) (by kernel_rfl) (fun _ _ _ h => h) (Or.inl ⟨by kernel_rfl, ?ha0⟩) (by assumption) ?ra0
  case ha0 => intro W hW; go_simp; all_goals with_reducible rfl
  change wpAnyH _ _ _ _ _ _ _ (Act.put _ (some 30) _) _
  simp only [Act.put, List.setIfInBounds_toArray, List.set_cons_zero, List.set_cons_succ]
  refine' wpAnyH_take (i := 1) (v := _) rfl (by kernel_rfl) (by kernel_rfl) (by kernel_rfl) (fun _ _ _ h => h) (Or.inl ⟨by kernel_rfl, ?ha1⟩) (by assumption) ?ra1
  case ha1 => intro W hW; obtain ⟨c0, c1, c2, c3⟩ := PV.part hW; go_simp; all_goals with_reducible rfl
  change wpAnyH _ _ _ _ _ _ _ (Act.put _ (some 31) _) _
  simp only [Act.put, List.setIfInBounds_toArray, List.set_cons_zero, List.set_cons_succ]
  refine' wpAnyH_take (i := 4) (v := _) rfl (by kernel_rfl) (by kernel_rfl) (by kernel_rfl) (fun _ _ _ h => h) (Or.inl ⟨by kernel_rfl, ?ha4⟩) (by assumption) ?ra4
  case ha4 => intro W hW; go_simp; all_goals with_reducible rfl
  change wpAnyH _ _ _ _ _ _ _ (Act.put _ (some 34) _) _
  simp only [Act.put, List.setIfInBounds_toArray, List.set_cons_zero, List.set_cons_succ]
  refine' wpAnyH_take (i := 5) (v := _) rfl (by kernel_rfl) (by kernel_rfl) (by kernel_rfl) (fun _ _ _ h => h) (Or.inl ⟨by kernel_rfl, ?ha5⟩) (by assumption) ?ra5
  case ha5 => intro W hW; obtain ⟨c0, c1, c2⟩ := PV.val hW; go_simp; all_goals with_reducible rfl
  change wpAnyH _ _ _ _ _ _ _ (Act.put _ (some 35) _) _
  simp only [Act.put, List.setIfInBounds_toArray, List.set_cons_zero, List.set_cons_succ]
  refine wpAnyH_ready (rs := [2]) (by kernel_rfl) (by simp) ?_
  refine AllReadyH.cons rfl (fun KK hK => ?_) AllReadyH.nil
  go_simp
  refine (formOf_any t _ ht).mono ?_
  rintro e w5 ⟨rfl, hb⟩
  rw [hF, hG]
  have fp := form_put F G
  replace hPV := hPV.step hb
  replace hB := hB.trans (hb.mono hB.size)
  clear hb
  go_wp2_with fail
  refine hK.out _ _ hPV (fun hHeld => ?_)
  clear hK KK
  try simp only [Act.put, List.setIfInBounds_toArray, List.set_cons_zero, List.set_cons_succ]
  refine' wpAnyH_take (i := 3) (v := _) rfl (by kernel_rfl) (by kernel_rfl) (by kernel_rfl) (fun _ _ _ h => h) (Or.inl ⟨by kernel_rfl, ?ha3⟩) (by assumption) ?ra3
  case ha3 => intro W hW; go_simp; all_goals with_reducible rfl
  change wpAnyH _ _ _ _ _ _ _ (Act.put _ (some 33) _) _
  simp only [Act.put, List.setIfInBounds_toArray, List.set_cons_zero, List.set_cons_succ]
  clear fp
  have hEF : ∀ (args : Array Value) (W : World), (callFunc F args).run Tryz.prog W = .ok (.enter F args) W := hE
  refine wpAnyH_ready (rs := [6]) (by kernel_rfl) (by simp) ?_
  refine AllReadyH.cons rfl (fun KK hK => ?_) AllReadyH.nil
  go_simp
  refine (hW _ _ (by omega) _ _ _ _ (hv.below hB)).mono ?_
  rintro e w6 ⟨g, cg, rfl, hg, hcg, hr, hb⟩
  replace hg := Nat.le_trans hB.size hg
  replace hPV := hPV.step hb
  replace hB := hB.trans (hb.mono hB.size)
  clear hb
  go_wp2_with fail
  refine hK.out _ _ hPV (fun hHeld => ?_)
  clear hK KK
  try simp only [Act.put, List.setIfInBounds_toArray, List.set_cons_zero, List.set_cons_succ]
  clear hEF
  refine' wpAnyH_take (i := 7) (v := _) rfl (by kernel_rfl) (by kernel_rfl) (by kernel_rfl) (fun _ _ _ h => h) (Or.inl ⟨by kernel_rfl, ?ha7⟩) (by assumption) ?ra7
  case ha7 => intro W hW; go_simp; all_goals with_reducible rfl
  change wpAnyH _ _ _ _ _ _ _ (Act.put _ (some 7) _) _
  simp only [Act.put, List.setIfInBounds_toArray, List.set_cons_zero, List.set_cons_succ]
  refine wpAnyH_done (by kernel_rfl) ?_ _
  have hr9 : Row 5 w6 g (n + (valL t x s).length) (fun i => (lof n f ++ valL t x s).getD i 0) := hr
  have hcg9 := hcg
  clear hr hcg
  have hbyt : Hid (∀ y ∈ (valL t x s), 0 ≤ y ∧ y ≤ 255) := (valL_byte t x s)
  have hlen := (valL_len t x s).2
  obtain ⟨p0, p1, p2, p3⟩ := hPV.part
  obtain ⟨v0, v1, v2⟩ := hPV.val
  go_wp2_with fail
  clear p0 p1 p2 p3 v0 v1 v2
  refine (flip_impl g 0 (n + (valL t x s).length) cg _ (n : Int) _ (hr9.view hcg9 (fun i hi => (List.forall_mem_append.2 ⟨HYF.out, hbyt.out⟩ : ∀ y ∈ lof n f ++ (valL t x s), 0 ≤ y ∧ y ≤ 255) _ (getD_in (by rw [List.length_append, lof_len]; exact hi)))) (by first | omega | (simp; omega)) (by omega)).mono ?_
  rintro e w8 ⟨g8, c8, rfl, hg8, hc8, hr8, hb⟩
  have hg9 := Nat.le_trans hB.size hg8
  replace hPV := hPV.step hb
  replace hB := hB.trans (hb.mono hB.size)
  clear hb
  have hr7 := turn_row rfl (fun i _ => rfl) hr8
  clear hr8 hr9
  obtain ⟨p0, p1, p2, p3⟩ := hPV.part
  obtain ⟨v0, v1, v2⟩ := hPV.val
  go_wp2
  go_ret
  exact ⟨g8, c8, by simp, hg9, by simpa using hc8, hr7, hB⟩

set_option maxHeartbeats 8000000 in
theorem putPart_tf (b off n cap : Nat) (f : Nat → Int) (c t : Int) (x : Int) (s : ByteArray) (w : World) (hv : View w (some ⟨b, off, none⟩) n cap f) (hn : n ≤ 10000000) (hok : partOk c t = true) (hfit : fitsI t true t x s = true) (_hs30 : s.size ≤ 30) (ht : 1 ≤ t ∧ t ≤ 4) (F G : Nat) (hF : (formV t).1 = .func (.func F) #[] #[]) (hG : (formV t).2 = .func (.func G) #[] #[]) (hE : Enters F) (hW : ∀ n f, n ≤ 1759218600000 → Writes F n f t x s (valL t x s)) :
    Calls Tryz.prog 106 #[.slice (some ⟨b, off, none⟩) n cap, .agg #[.int .i64 c, .int .i64 t, .bool true, .bool false], .agg #[.int .i64 t, .int .i64 x, .string s]] w (Puts n f w (1 :: valL t x s)) := by
  have hPV := PV.start w 50 58 c t true false t x s
  have hB := hPV.all
  have HYF : Hid (∀ y ∈ lof n f, 0 ≤ y ∧ y ≤ 255) := lof_byte hv.byte
  have q4 : (t != 0) = true := by simp; omega
  go_enter Tryz.func106, Tryz.ntmps106
  go_wp2_with fail
  refine (implPartOk_any c t true false _).mono ?_
  rw [hok]
  rintro e w1 ⟨rfl, hb⟩
  replace hPV := hPV.step hb
  replace hB := hB.trans (hb.mono hB.size)
  clear hb
  obtain ⟨p0, p1, p2, p3⟩ := hPV.part
  obtain ⟨v0, v1, v2⟩ := hPV.val
  go_wp2_with fail
  clear p0 p1 p2 p3 v0 v1 v2
  refine (implFits_any c t true false t x s _).mono ?_
  rw [hfit]
  rintro e w2 ⟨rfl, hb⟩
  replace hPV := hPV.step hb
  replace hB := hB.trans (hb.mono hB.size)
  clear hb
  obtain ⟨p0, p1, p2, p3⟩ := hPV.part
  obtain ⟨v0, v1, v2⟩ := hPV.val
  go_wp2_with fail
  clear p0 p1 p2 p3 v0 v1 v2
  refine (presence_any t x s _).mono ?_
  rintro e w3 ⟨rfl, hb⟩
  rw [if_neg (by omega)]
  replace hPV := hPV.step hb
  replace hB := hB.trans (hb.mono hB.size)
  clear hb
  have hz := Row.lit1 w3 5 1
  have hzv := hz.view (cap := 1) (Nat.le_refl _) (fun _ _ => ⟨by decide, by decide⟩)
  have hb : Below w3.heap.size w3 (w3.alloc (.cells #[.int .u8 1] 5)) := (Below.refl _ _).alloc (Nat.le_refl _) _
  obtain ⟨W3, hW3⟩ : ∃ W3, Hid (W3 = w3.alloc (.cells #[.int .u8 1] 5)) := ⟨_, rfl⟩
  rw [← hW3.out] at hzv hb
  go_wp2_with fail
  rw [← hW3.out]
  replace hPV := hPV.step hb
  replace hB := hB.trans (hb.mono hB.size)
  clear hb
  refine (putBytes_any b off n cap f (some ⟨w3.heap.size, 0, none⟩) 1 1 (fun _ => 1) _ (hv.below hB) hzv (fun h => by cases h) (by omega)).mono ?_
  rintro e w4 ⟨rfl, hown, hb⟩
  rw [lof_one] at hown
  have hs := hB.size
  obtain ⟨g1, c1, e, -, hc1, hr1⟩ := row_of_own' hown (by intro h; cases h)
  cases e
  replace hPV := hPV.step hb
  replace hB := hB.trans (hb.mono hB.size)
  clear hb
  clear hown hzv hz hW3
  obtain ⟨A, hA⟩ : ∃ A, Hid (A = W3.heap.size) := ⟨_, rfl⟩
  rw [← hA.out] at hr1 hs ⊢
  obtain ⟨p0, p1, p2, p3⟩ := hPV.part
  obtain ⟨v0, v1, v2⟩ := hPV.val
  go_wp2_with fail
  clear p0 p1 p2 p3 v0 v1 v2
  have hb : Below w4.heap.size w4 w4.drew := (Below.refl _ _).drew
  replace hr1 := hr1.belowAll hb
  replace hPV := hPV.step hb
  replace hB := hB.trans (hb.mono hB.size)
  clear hb
  refine wp_region_held_drew (S := PV w 50 58 c t true false t x s) (by kernel_rfl) (hPV) (fun hHeld => ?_)
  refine' wpAnyH_take (i := 0) (v := _) rfl (by kernel_rfl) (by kernel_rfl) (by kernel_rfl) (fun _ _ _ h => h) (Or.inl ⟨by kernel_rfl, ?ha0⟩) (by assumption) ?ra0
  case ha0 => intro W hW; go_simp; all_goals with_reducible rfl
  change wpAnyH _ _ _ _ _ _ _ (Act.put _ (some 30) _) _
  simp only [Act.put, List.setIfInBounds_toArray, List.set_cons_zero, List.set_cons_succ]
  refine' wpAnyH_take (i := 1) (v := _) rfl (by kernel_rfl) (by kernel_rfl) (by kernel_rfl) (fun _ _ _ h => h) (Or.inl ⟨by kernel_rfl, ?ha1⟩) (by assumption) ?ra1
  case ha1 => intro W hW; obtain ⟨c0, c1, c2, c3⟩ := PV.part hW; go_simp; all_goals with_reducible rfl
  change wpAnyH _ _ _ _ _ _ _ (Act.put _ (some 31) _) _
  simp only [Act.put, List.setIfInBounds_toArray, List.set_cons_zero, List.set_cons_succ]
  refine' wpAnyH_take (i := 4) (v := _) rfl (by kernel_rfl) (by kernel_rfl) (by kernel_rfl) (fun _ _ _ h => h) (Or.inl ⟨by kernel_rfl, ?ha4⟩) (by assumption) ?ra4
  case ha4 => intro W hW; go_simp; all_goals with_reducible rfl
  change wpAnyH _ _ _ _ _ _ _ (Act.put _ (some 34) _) _
  simp only [Act.put, List.setIfInBounds_toArray, List.set_cons_zero, List.set_cons_succ]
  refine' wpAnyH_take (i := 5) (v := _) rfl (by kernel_rfl) (by kernel_rfl) (by kernel_rfl) (fun _ _ _ h => h) (Or.inl ⟨by kernel_rfl, ?ha5⟩) (by assumption) ?ra5
  case ha5 => intro W hW; obtain ⟨c0, c1, c2⟩ := PV.val hW; go_simp; all_goals with_reducible rfl
  change wpAnyH _ _ _ _ _ _ _ (Act.put _ (some 35) _) _
  simp only [Act.put, List.setIfInBounds_toArray, List.set_cons_zero, List.set_cons_succ]
  refine wpAnyH_ready (rs := [2]) (by kernel_rfl) (by simp) ?_
  refine AllReadyH.cons rfl (fun KK hK => ?_) AllReadyH.nil
  go_simp
  refine (formOf_any t _ ht).mono ?_
  rintro e w5 ⟨rfl, hb⟩
  rw [hF, hG]
  have fp := form_put F G
  replace hr1 := hr1.belowAll hb
  replace hPV := hPV.step hb
  replace hB := hB.trans (hb.mono hB.size)
  clear hb
  go_wp2_with fail
  refine hK.out _ _ hPV (fun hHeld => ?_)
  clear hK KK
  try simp only [Act.put, List.setIfInBounds_toArray, List.set_cons_zero, List.set_cons_succ]
  refine' wpAnyH_take (i := 3) (v := _) rfl (by kernel_rfl) (by kernel_rfl) (by kernel_rfl) (fun _ _ _ h => h) (Or.inl ⟨by kernel_rfl, ?ha3⟩) (by assumption) ?ra3
  case ha3 => intro W hW; go_simp; all_goals with_reducible rfl
  change wpAnyH _ _ _ _ _ _ _ (Act.put _ (some 33) _) _
  simp only [Act.put, List.setIfInBounds_toArray, List.set_cons_zero, List.set_cons_succ]
  clear fp
  have hEF : ∀ (args : Array Value) (W : World), (callFunc F args).run Tryz.prog W = .ok (.enter F args) W := hE
  refine wpAnyH_ready (rs := [6]) (by kernel_rfl) (by simp) ?_
  refine AllReadyH.cons rfl (fun KK hK => ?_) AllReadyH.nil
  go_simp
  refine (hW _ _ (by omega) _ _ _ _ (hr1.view (Nat.le_refl _) (fun i hi => (List.forall_mem_append.2 ⟨HYF.out, fun y hy => by simp at hy; omega⟩ : ∀ y ∈ lof n f ++ [1], 0 ≤ y ∧ y ≤ 255) _ (getD_in (by rw [List.length_append, lof_len]; exact hi))))).mono ?_
  rintro e w6 ⟨g, cg, rfl, hg, hcg, hr, hb⟩
  replace hg := Nat.le_trans hB.size hg
  replace hr1 := hr1.belowAll hb
  replace hPV := hPV.step hb
  replace hB := hB.trans (hb.mono hB.size)
  clear hb
  go_wp2_with fail
  refine hK.out _ _ hPV (fun hHeld => ?_)
  clear hK KK
  try simp only [Act.put, List.setIfInBounds_toArray, List.set_cons_zero, List.set_cons_succ]
  clear hEF
  refine' wpAnyH_take (i := 7) (v := _) rfl (by kernel_rfl) (by kernel_rfl) (by kernel_rfl) (fun _ _ _ h => h) (Or.inl ⟨by kernel_rfl, ?ha7⟩) (by assumption) ?ra7
  case ha7 => intro W hW; go_simp; all_goals with_reducible rfl
  change wpAnyH _ _ _ _ _ _ _ (Act.put _ (some 7) _) _
  simp only [Act.put, List.setIfInBounds_toArray, List.set_cons_zero, List.set_cons_succ]
  refine wpAnyH_done (by kernel_rfl) ?_ _
  have hr9 : Row 5 w6 g (n + (1 :: valL t x s).length) (fun i => (lof n f ++ (1 :: valL t x s)).getD i 0) := by
    rw [one_list n f 1 _ _ rfl] at hr
    rw [show n + (1 :: valL t x s).length = n + 1 + (valL t x s).length by simp; omega]
    exact hr
  have hcg9 : n + (1 :: valL t x s).length ≤ cg := by simp; omega
  rw [show n + 1 + (valL t x s).length = n + (1 :: valL t x s).length by simp; omega]
  clear hr hcg hr1
  have hbyt : Hid (∀ y ∈ (1 :: valL t x s), 0 ≤ y ∧ y ≤ 255) := (fun y hy => by rcases List.mem_cons.1 hy with rfl | hy; exact ⟨by decide, by decide⟩; exact valL_byte t x s y hy)
  have hlen := (valL_len t x s).2
  obtain ⟨p0, p1, p2, p3⟩ := hPV.part
  obtain ⟨v0, v1, v2⟩ := hPV.val
  go_wp2
  go_ret
  exact ⟨_, _, rfl, hg, hcg9, hr9, hB⟩

set_option maxHeartbeats 8000000 in
theorem putPart_tt (b off n cap : Nat) (f : Nat → Int) (c t : Int) (x : Int) (s : ByteArray) (w : World) (hv : View w (some ⟨b, off, none⟩) n cap f) (hn : n ≤ 10000000) (hok : partOk c t = true) (hfit : fitsI t true t x s = true) (hs30 : s.size ≤ 30) (ht : 1 ≤ t ∧ t ≤ 4) (F G : Nat) (hF : (formV t).1 = .func (.func F) #[] #[]) (hG : (formV t).2 = .func (.func G) #[] #[]) (hE : Enters F) (hW : ∀ n f, n ≤ 1759218600000 → Writes F n f t x s (valL t x s)) :
    Calls Tryz.prog 106 #[.slice (some ⟨b, off, none⟩) n cap, .agg #[.int .i64 c, .int .i64 t, .bool true, .bool true], .agg #[.int .i64 t, .int .i64 x, .string s]] w (Puts n f w ((1 :: valL t x s).map (fun y => 255 - y))) := by
  have hPV := PV.start w 50 58 c t true true t x s
  have hB := hPV.all
  have HYF : Hid (∀ y ∈ lof n f, 0 ≤ y ∧ y ≤ 255) := lof_byte hv.byte
  have q4 : (t != 0) = true := by simp; omega
  go_enter Tryz.func106, Tryz.ntmps106
  go_wp2_with fail
  refine (implPartOk_any c t true true _).mono ?_
  rw [hok]
  rintro e w1 ⟨rfl, hb⟩
  replace hPV := hPV.step hb
  replace hB := hB.trans (hb.mono hB.size)
  clear hb
  obtain ⟨p0, p1, p2, p3⟩ := hPV.part
  obtain ⟨v0, v1, v2⟩ := hPV.val
  go_wp2_with fail
  clear p0 p1 p2 p3 v0 v1 v2
  refine (implFits_any c t true true t x s _).mono ?_
  rw [hfit]
  rintro e w2 ⟨rfl, hb⟩
  replace hPV := hPV.step hb
  replace hB := hB.trans (hb.mono hB.size)
  clear hb
  obtain ⟨p0, p1, p2, p3⟩ := hPV.part
  obtain ⟨v0, v1, v2⟩ := hPV.val
  go_wp2_with fail
  clear p0 p1 p2 p3 v0 v1 v2
  refine (presence_any t x s _).mono ?_
  rintro e w3 ⟨rfl, hb⟩
  rw [if_neg (by omega)]
  replace hPV := hPV.step hb
  replace hB := hB.trans (hb.mono hB.size)
  clear hb
  have hz := Row.lit1 w3 5 1
  have hzv := hz.view (cap := 1) (Nat.le_refl _) (fun _ _ => ⟨by decide, by decide⟩)
  have hb : Below w3.heap.size w3 (w3.alloc (.cells #[.int .u8 1] 5)) := (Below.refl _ _).alloc (Nat.le_refl _) _
  obtain ⟨W3, hW3⟩ : ∃ W3, Hid (W3 = w3.alloc (.cells #[.int .u8 1] 5)) := ⟨_, rfl⟩
  rw [← hW3.out] at hzv hb
  go_wp2_with fail
  rw [← hW3.out]
  replace hPV := hPV.step hb
  replace hB := hB.trans (hb.mono hB.size)
  clear hb
  refine (putBytes_any b off n cap f (some ⟨w3.heap.size, 0, none⟩) 1 1 (fun _ => 1) _ (hv.below hB) hzv (fun h => by cases h) (by omega)).mono ?_
  rintro e w4 ⟨rfl, hown, hb⟩
  rw [lof_one] at hown
  have hs := hB.size
  obtain ⟨g1, c1, e, -, hc1, hr1⟩ := row_of_own' hown (by intro h; cases h)
  cases e
  replace hPV := hPV.step hb
  replace hB := hB.trans (hb.mono hB.size)
  clear hb
  clear hown hzv hz hW3
  obtain ⟨A, hA⟩ : ∃ A, Hid (A = W3.heap.size) := ⟨_, rfl⟩
  rw [← hA.out] at hr1 hs ⊢
  obtain ⟨p0, p1, p2, p3⟩ := hPV.part
  obtain ⟨v0, v1, v2⟩ := hPV.val
  go_wp2_with fail
  clear p0 p1 p2 p3 v0 v1 v2
  have hb : Below w4.heap.size w4 w4.drew := (Below.refl _ _).drew
  replace hr1 := hr1.belowAll hb
  replace hPV := hPV.step hb
  replace hB := hB.trans (hb.mono hB.size)
  clear hb
  refine wp_region_held_drew (S := PV w 50 58 c t true true t x s) (by kernel_rfl) (hPV) (fun hHeld => ?_)
  refine' wpAnyH_take (i := 0) (v := _) rfl (by kernel_rfl) (by kernel_rfl) (by kernel_rfl) (fun _ _ _ h => h) (Or.inl ⟨by kernel_rfl, ?ha0⟩) (by assumption) ?ra0
  case ha0 => intro W hW; go_simp; all_goals with_reducible rfl
  change wpAnyH _ _ _ _ _ _ _ (Act.put _ (some 30) _) _
  simp only [Act.put, List.setIfInBounds_toArray, List.set_cons_zero, List.set_cons_succ]
  refine' wpAnyH_take (i := 1) (v := _) rfl (by kernel_rfl) (by kernel_rfl) (by kernel_rfl) (fun _ _ _ h => h) (Or.inl ⟨by kernel_rfl, ?ha1⟩) (by assumption) ?ra1
  case ha1 => intro W hW; obtain ⟨c0, c1, c2, c3⟩ := PV.part hW; go_simp; all_goals with_reducible rfl
  change wpAnyH _ _ _ _ _ _ _ (Act.put _ (some 31) _) _
  simp only [Act.put, List.setIfInBounds_toArray, List.set_cons_zero, List.set_cons_succ]
  refine' wpAnyH_take (i := 4) (v := _) rfl (by kernel_rfl) (by kernel_rfl) (by kernel_rfl) (fun _ _ _ h => h) (Or.inl ⟨by kernel_rfl, ?ha4⟩) (by assumption) ?ra4
  case ha4 => intro W hW; go_simp; all_goals with_reducible rfl
  change wpAnyH _ _ _ _ _ _ _ (Act.put _ (some 34) _) _
  simp only [Act.put, List.setIfInBounds_toArray, List.set_cons_zero, List.set_cons_succ]
  refine' wpAnyH_take (i := 5) (v := _) rfl (by kernel_rfl) (by kernel_rfl) (by kernel_rfl) (fun _ _ _ h => h) (Or.inl ⟨by kernel_rfl, ?ha5⟩) (by assumption) ?ra5
  case ha5 => intro W hW; obtain ⟨c0, c1, c2⟩ := PV.val hW; go_simp; all_goals with_reducible rfl
  change wpAnyH _ _ _ _ _ _ _ (Act.put _ (some 35) _) _
  simp only [Act.put, List.setIfInBounds_toArray, List.set_cons_zero, List.set_cons_succ]
  refine wpAnyH_ready (rs := [2]) (by kernel_rfl) (by simp) ?_
  refine AllReadyH.cons rfl (fun KK hK => ?_) AllReadyH.nil
  go_simp
  refine (formOf_any t _ ht).mono ?_
  rintro e w5 ⟨rfl, hb⟩
  rw [hF, hG]
  have fp := form_put F G
  replace hr1 := hr1.belowAll hb
  replace hPV := hPV.step hb
  replace hB := hB.trans (hb.mono hB.size)
  clear hb
  go_wp2_with fail
  refine hK.out _ _ hPV (fun hHeld => ?_)
  clear hK KK
  try simp only [Act.put, List.setIfInBounds_toArray, List.set_cons_zero, List.set_cons_succ]
  refine' wpAnyH_take (i := 3) (v := _) rfl (by kernel_rfl) (by kernel_rfl) (by kernel_rfl) (fun _ _ _ h => h) (Or.inl ⟨by kernel_rfl, ?ha3⟩) (by assumption) ?ra3
  case ha3 => intro W hW; go_simp; all_goals with_reducible rfl
  change wpAnyH _ _ _ _ _ _ _ (Act.put _ (some 33) _) _
  simp only [Act.put, List.setIfInBounds_toArray, List.set_cons_zero, List.set_cons_succ]
  clear fp
  have hEF : ∀ (args : Array Value) (W : World), (callFunc F args).run Tryz.prog W = .ok (.enter F args) W := hE
  refine wpAnyH_ready (rs := [6]) (by kernel_rfl) (by simp) ?_
  refine AllReadyH.cons rfl (fun KK hK => ?_) AllReadyH.nil
  go_simp
  refine (hW _ _ (by omega) _ _ _ _ (hr1.view (Nat.le_refl _) (fun i hi => (List.forall_mem_append.2 ⟨HYF.out, fun y hy => by simp at hy; omega⟩ : ∀ y ∈ lof n f ++ [1], 0 ≤ y ∧ y ≤ 255) _ (getD_in (by rw [List.length_append, lof_len]; exact hi))))).mono ?_
  rintro e w6 ⟨g, cg, rfl, hg, hcg, hr, hb⟩
  replace hg := Nat.le_trans hB.size hg
  replace hr1 := hr1.belowAll hb
  replace hPV := hPV.step hb
  replace hB := hB.trans (hb.mono hB.size)
  clear hb
  go_wp2_with fail
  refine hK.out _ _ hPV (fun hHeld => ?_)
  clear hK KK
  try simp only [Act.put, List.setIfInBounds_toArray, List.set_cons_zero, List.set_cons_succ]
  clear hEF
  refine' wpAnyH_take (i := 7) (v := _) rfl (by kernel_rfl) (by kernel_rfl) (by kernel_rfl) (fun _ _ _ h => h) (Or.inl ⟨by kernel_rfl, ?ha7⟩) (by assumption) ?ra7
  case ha7 => intro W hW; go_simp; all_goals with_reducible rfl
  change wpAnyH _ _ _ _ _ _ _ (Act.put _ (some 7) _) _
  simp only [Act.put, List.setIfInBounds_toArray, List.set_cons_zero, List.set_cons_succ]
  refine wpAnyH_done (by kernel_rfl) ?_ _
  have hr9 : Row 5 w6 g (n + (1 :: valL t x s).length) (fun i => (lof n f ++ (1 :: valL t x s)).getD i 0) := by
    rw [one_list n f 1 _ _ rfl] at hr
    rw [show n + (1 :: valL t x s).length = n + 1 + (valL t x s).length by simp; omega]
    exact hr
  have hcg9 : n + (1 :: valL t x s).length ≤ cg := by simp; omega
  rw [show n + 1 + (valL t x s).length = n + (1 :: valL t x s).length by simp; omega]
  clear hr hcg hr1
  have hbyt : Hid (∀ y ∈ (1 :: valL t x s), 0 ≤ y ∧ y ≤ 255) := (fun y hy => by rcases List.mem_cons.1 hy with rfl | hy; exact ⟨by decide, by decide⟩; exact valL_byte t x s y hy)
  have hlen := (valL_len t x s).2
  obtain ⟨p0, p1, p2, p3⟩ := hPV.part
  obtain ⟨v0, v1, v2⟩ := hPV.val
  go_wp2_with fail
  clear p0 p1 p2 p3 v0 v1 v2
  refine (flip_impl g 0 (n + (1 :: valL t x s).length) cg _ (n : Int) _ (hr9.view hcg9 (fun i hi => (List.forall_mem_append.2 ⟨HYF.out, hbyt.out⟩ : ∀ y ∈ lof n f ++ (1 :: valL t x s), 0 ≤ y ∧ y ≤ 255) _ (getD_in (by rw [List.length_append, lof_len]; exact hi)))) (by first | omega | (simp; omega)) (by omega)).mono ?_
  rintro e w8 ⟨g8, c8, rfl, hg8, hc8, hr8, hb⟩
  have hg9 := Nat.le_trans hB.size hg8
  replace hPV := hPV.step hb
  replace hB := hB.trans (hb.mono hB.size)
  clear hb
  have hr7 := turn_row rfl (fun i _ => rfl) hr8
  clear hr8 hr9
  obtain ⟨p0, p1, p2, p3⟩ := hPV.part
  obtain ⟨v0, v1, v2⟩ := hPV.val
  go_wp2
  go_ret
  exact ⟨g8, c8, by simp, hg9, by simpa using hc8, hr7, hB⟩

set_option maxHeartbeats 8000000 in
theorem putPart_zf (b off n cap : Nat) (f : Nat → Int) (c t : Int) (x : Int) (s : ByteArray) (w : World) (hv : View w (some ⟨b, off, none⟩) n cap f) (hn : n ≤ 10000000) (hok : partOk c t = true) (hfit : fitsI t true 0 x s = true) :
    Calls Tryz.prog 106 #[.slice (some ⟨b, off, none⟩) n cap, .agg #[.int .i64 c, .int .i64 t, .bool true, .bool false], .agg #[.int .i64 0, .int .i64 x, .string s]] w (Puts n f w [(0 : Int)]) := by
  have hPV := PV.start w 50 58 c t true false 0 x s
  have hB := hPV.all
  have HYF : Hid (∀ y ∈ lof n f, 0 ≤ y ∧ y ≤ 255) := lof_byte hv.byte
  go_enter Tryz.func106, Tryz.ntmps106
  go_wp2_with fail
  refine (implPartOk_any c t true false _).mono ?_
  rw [hok]
  rintro e w1 ⟨rfl, hb⟩
  replace hPV := hPV.step hb
  replace hB := hB.trans (hb.mono hB.size)
  clear hb
  obtain ⟨p0, p1, p2, p3⟩ := hPV.part
  obtain ⟨v0, v1, v2⟩ := hPV.val
  go_wp2_with fail
  clear p0 p1 p2 p3 v0 v1 v2
  refine (implFits_any c t true false 0 x s _).mono ?_
  rw [hfit]
  rintro e w2 ⟨rfl, hb⟩
  replace hPV := hPV.step hb
  replace hB := hB.trans (hb.mono hB.size)
  clear hb
  obtain ⟨p0, p1, p2, p3⟩ := hPV.part
  obtain ⟨v0, v1, v2⟩ := hPV.val
  go_wp2_with fail
  clear p0 p1 p2 p3 v0 v1 v2
  refine (presence_any 0 x s _).mono ?_
  rintro e w3 ⟨rfl, hb⟩
  rw [if_pos rfl]
  replace hPV := hPV.step hb
  replace hB := hB.trans (hb.mono hB.size)
  clear hb
  have hz := Row.lit1 w3 5 0
  have hzv := hz.view (cap := 1) (Nat.le_refl _) (fun _ _ => ⟨by decide, by decide⟩)
  have hb : Below w3.heap.size w3 (w3.alloc (.cells #[.int .u8 0] 5)) := (Below.refl _ _).alloc (Nat.le_refl _) _
  obtain ⟨W3, hW3⟩ : ∃ W3, Hid (W3 = w3.alloc (.cells #[.int .u8 0] 5)) := ⟨_, rfl⟩
  rw [← hW3.out] at hzv hb
  go_wp2_with fail
  rw [← hW3.out]
  replace hPV := hPV.step hb
  replace hB := hB.trans (hb.mono hB.size)
  clear hb
  refine (putBytes_any b off n cap f (some ⟨w3.heap.size, 0, none⟩) 1 1 (fun _ => 0) _ (hv.below hB) hzv (fun h => by cases h) (by omega)).mono ?_
  rintro e w4 ⟨rfl, hown, hb⟩
  rw [lof_one] at hown
  have hs := hB.size
  obtain ⟨g1, c1, e, -, hc1, hr1⟩ := row_of_own' hown (by intro h; cases h)
  cases e
  replace hPV := hPV.step hb
  replace hB := hB.trans (hb.mono hB.size)
  clear hb
  clear hown hzv hz hW3
  obtain ⟨A, hA⟩ : ∃ A, Hid (A = W3.heap.size) := ⟨_, rfl⟩
  rw [← hA.out] at hr1 hs ⊢
  have hr9 : Row 5 w4 A (n + [(0 : Int)].length) (fun i => (lof n f ++ [0]).getD i 0) := hr1
  have hg := hs
  have hcg9 : n + [(0 : Int)].length ≤ n + 1 := hc1
  clear hr1
  have hbyt : Hid (∀ y ∈ [(0 : Int)], 0 ≤ y ∧ y ≤ 255) := (fun y hy => by simp at hy; omega)
  obtain ⟨p0, p1, p2, p3⟩ := hPV.part
  obtain ⟨v0, v1, v2⟩ := hPV.val
  go_wp2
  go_ret
  exact ⟨_, _, rfl, hg, hcg9, hr9, hB⟩

set_option maxHeartbeats 8000000 in
theorem putPart_zt (b off n cap : Nat) (f : Nat → Int) (c t : Int) (x : Int) (s : ByteArray) (w : World) (hv : View w (some ⟨b, off, none⟩) n cap f) (hn : n ≤ 10000000) (hok : partOk c t = true) (hfit : fitsI t true 0 x s = true) :
    Calls Tryz.prog 106 #[.slice (some ⟨b, off, none⟩) n cap, .agg #[.int .i64 c, .int .i64 t, .bool true, .bool true], .agg #[.int .i64 0, .int .i64 x, .string s]] w (Puts n f w ([(0 : Int)].map (fun y => 255 - y))) := by
  have hPV := PV.start w 50 58 c t true true 0 x s
  have hB := hPV.all
  have HYF : Hid (∀ y ∈ lof n f, 0 ≤ y ∧ y ≤ 255) := lof_byte hv.byte
  go_enter Tryz.func106, Tryz.ntmps106
  go_wp2_with fail
  refine (implPartOk_any c t true true _).mono ?_
  rw [hok]
  rintro e w1 ⟨rfl, hb⟩
  replace hPV := hPV.step hb
  replace hB := hB.trans (hb.mono hB.size)
  clear hb
  obtain ⟨p0, p1, p2, p3⟩ := hPV.part
  obtain ⟨v0, v1, v2⟩ := hPV.val
  go_wp2_with fail
  clear p0 p1 p2 p3 v0 v1 v2
  refine (implFits_any c t true true 0 x s _).mono ?_
  rw [hfit]
  rintro e w2 ⟨rfl, hb⟩
  replace hPV := hPV.step hb
  replace hB := hB.trans (hb.mono hB.size)
  clear hb
  obtain ⟨p0, p1, p2, p3⟩ := hPV.part
  obtain ⟨v0, v1, v2⟩ := hPV.val
  go_wp2_with fail
  clear p0 p1 p2 p3 v0 v1 v2
  refine (presence_any 0 x s _).mono ?_
  rintro e w3 ⟨rfl, hb⟩
  rw [if_pos rfl]
  replace hPV := hPV.step hb
  replace hB := hB.trans (hb.mono hB.size)
  clear hb
  have hz := Row.lit1 w3 5 0
  have hzv := hz.view (cap := 1) (Nat.le_refl _) (fun _ _ => ⟨by decide, by decide⟩)
  have hb : Below w3.heap.size w3 (w3.alloc (.cells #[.int .u8 0] 5)) := (Below.refl _ _).alloc (Nat.le_refl _) _
  obtain ⟨W3, hW3⟩ : ∃ W3, Hid (W3 = w3.alloc (.cells #[.int .u8 0] 5)) := ⟨_, rfl⟩
  rw [← hW3.out] at hzv hb
  go_wp2_with fail
  rw [← hW3.out]
  replace hPV := hPV.step hb
  replace hB := hB.trans (hb.mono hB.size)
  clear hb
  refine (putBytes_any b off n cap f (some ⟨w3.heap.size, 0, none⟩) 1 1 (fun _ => 0) _ (hv.below hB) hzv (fun h => by cases h) (by omega)).mono ?_
  rintro e w4 ⟨rfl, hown, hb⟩
  rw [lof_one] at hown
  have hs := hB.size
  obtain ⟨g1, c1, e, -, hc1, hr1⟩ := row_of_own' hown (by intro h; cases h)
  cases e
  replace hPV := hPV.step hb
  replace hB := hB.trans (hb.mono hB.size)
  clear hb
  clear hown hzv hz hW3
  obtain ⟨A, hA⟩ : ∃ A, Hid (A = W3.heap.size) := ⟨_, rfl⟩
  rw [← hA.out] at hr1 hs ⊢
  have hr9 : Row 5 w4 A (n + [(0 : Int)].length) (fun i => (lof n f ++ [0]).getD i 0) := hr1
  have hg := hs
  have hcg9 : n + [(0 : Int)].length ≤ n + 1 := hc1
  clear hr1
  have hbyt : Hid (∀ y ∈ [(0 : Int)], 0 ≤ y ∧ y ≤ 255) := (fun y hy => by simp at hy; omega)
  obtain ⟨p0, p1, p2, p3⟩ := hPV.part
  obtain ⟨v0, v1, v2⟩ := hPV.val
  go_wp2_with fail
  clear p0 p1 p2 p3 v0 v1 v2
  refine (flip_impl A 0 (n + [(0 : Int)].length) (n + 1) _ (n : Int) _ (hr9.view hcg9 (fun i hi => (List.forall_mem_append.2 ⟨HYF.out, hbyt.out⟩ : ∀ y ∈ lof n f ++ [(0 : Int)], 0 ≤ y ∧ y ≤ 255) _ (getD_in (by rw [List.length_append, lof_len]; exact hi)))) (by first | omega | (simp; omega)) (by omega)).mono ?_
  rintro e w8 ⟨g8, c8, rfl, hg8, hc8, hr8, hb⟩
  have hg9 := Nat.le_trans hB.size hg8
  replace hPV := hPV.step hb
  replace hB := hB.trans (hb.mono hB.size)
  clear hb
  have hr7 := turn_row rfl (fun i _ => rfl) hr8
  clear hr8 hr9
  obtain ⟨p0, p1, p2, p3⟩ := hPV.part
  obtain ⟨v0, v1, v2⟩ := hPV.val
  go_wp2
  go_ret
  exact ⟨g8, c8, by simp, hg9, by simpa using hc8, hr7, hB⟩


theorem putPart_impl (b off n cap : Nat) (f : Nat → Int) (c t : Int) (nul d : Bool) (k x : Int) (s : ByteArray) (w : World) (hv : View w (some ⟨b, off, none⟩) n cap f) (hn : n ≤ 10000000) :
    Calls Tryz.prog 106 #[.slice (some ⟨b, off, none⟩) n cap, .agg #[.int .i64 c, .int .i64 t, .bool nul, .bool d], .agg #[.int .i64 k, .int .i64 x, .string s]] w (Puts n f w (putPL c t nul d k x s)) := by
  cases hok : partOk c t with
  | false =>
    have e : putPL c t nul d k x s = [] := by unfold putPL; rw [hok]; rfl
    rw [e]
    exact putPart_no b off n cap f c t nul d k x s w hv hn hok
  | true =>
    have ht : 1 ≤ t ∧ t ≤ 4 := by unfold partOk at hok; simp at hok; omega
    cases hfit : fitsI t nul k x s with
    | false =>
      have e : putPL c t nul d k x s = [] := by unfold putPL; rw [← fitsI_ok ht.1, hok, hfit]; rfl
      rw [e]
      exact putPart_not b off n cap f c t nul d k x s w hv hn hok hfit
    | true =>
      have e : putPL c t nul d k x s = turnL d (partL nul k x s) := by unfold putPL; rw [← fitsI_ok ht.1, hok, hfit]; rfl
      rw [e]
      have hf := hfit
      unfold fitsI at hf
      simp only [Bool.and_eq_true, Bool.or_eq_true, decide_eq_true_eq] at hf
      by_cases k0 : k = 0
      · subst k0
        obtain rfl : nul = true := by rcases hf.2 with h | h; omega; exact h.2
        have e2 : partL true 0 x s = [0] := rfl
        rw [e2]
        cases d with
        | false => exact putPart_zf b off n cap f c t x s w hv hn hok hfit
        | true => exact putPart_zt b off n cap f c t x s w hv hn hok hfit
      · obtain rfl : k = t := by rcases hf.2 with h | h; exact h; exact absurd h.1 k0
        obtain ⟨F, G, hF, hG, hE, hW⟩ := formPut ht hf.1
        have hs := okF_few hf.1
        cases nul with
        | false =>
          have e2 : partL false k x s = valL k x s := by unfold partL; rw [if_neg k0]; rfl
          rw [e2]
          cases d with
          | false => exact putPart_ff b off n cap f c k x s w hv hn hok hfit hs ht F G hF hG hE hW
          | true => exact putPart_ft b off n cap f c k x s w hv hn hok hfit hs ht F G hF hG hE hW
        | true =>
          have e2 : partL true k x s = 1 :: valL k x s := by unfold partL; rw [if_neg k0]; rfl
          rw [e2]
          cases d with
          | false => exact putPart_tf b off n cap f c k x s w hv hn hok hfit hs ht F G hF hG hE hW
          | true => exact putPart_tt b off n cap f c k x s w hv hn hok hfit hs ht F G hF hG hE hW
end Go.Proofs.YtkakkjnbhklfpaaGreatDoor

/-
  Bytes that were put behind one another, in a row of the call's own.
-/
namespace Go.Proofs.YtkakkjnbhklfpaaGreatDoor
open Go.RowKit
set_option maxRecDepth 4000

theorem Row.none (w : World) (t : TypeId) (f : Nat → Int) : Row t (w.alloc (.cells #[] t)) w.heap.size 0 f :=
  Row.ofIs (World.rowIs_alloc w #[] t (fun i => .int .u8 (f i)) (fun _ hj => absurd hj (Nat.not_lt_zero _)))

/-- The first k values are put. -/
structure EncTo (w wr : World) (g cg : Nat) (L : List Int) : Prop where
  row : Row 5 wr g L.length (fun i => L.getD i 0)
  new : w.heap.size ≤ g
  le : L.length ≤ cg
  below : Below w.heap.size w wr
end Go.Proofs.YtkakkjnbhklfpaaGreatDoor

