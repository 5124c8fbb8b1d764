/-
  Together: PartPutImpl, EncImpl
-/
import Derived.Test.YtclegljalndaearPack6
import Derived.Test.YtclegljalndaearPack7
import Derived.Test.YtclegljalndaearPack8
import Derived.Test.YtclegljalndaearPack2
import Derived.Test.YtclegljalndaearPack4
import Derived.Deep.RegionHeld3
import Derived.Test.YtclegljalndaearPack3
/-
  The program's PutPart: one value of a key behind the bytes that are there, in a row of the call's own.
-/
namespace Go.Proofs.Ytclegljalndaear
open Go.RowKit
set_option maxRecDepth 4000

set_option maxHeartbeats 1000000 in
theorem presence_any (k x : Int) (s : ByteArray) (w : World) :
    Calls Try.prog 62 #[.agg #[.int .i64 k, .int .i64 x, .string s]] w fun e w' => e = .returned (.int .u8 (if k = 0 then 0 else 1)) ∧ Below w.heap.size w w' := by
  have hb0 : Below w.heap.size w (w.alloc (.cells #[.int .i64 k, .int .i64 x, .string s] 59)) := (Below.refl _ _).alloc (Nat.le_refl _) _
  by_cases h : k = 0
  · rw [if_pos h]
    subst h
    go_enter Try.func62, Try.ntmps62
    go_wp2
    go_ret
    exact ⟨rfl, hb0⟩
  · rw [if_neg h]
    have q : (k == 0) = false := by simpa using h
    go_enter Try.func62, Try.ntmps62
    go_wp2
    go_ret
    exact ⟨rfl, hb0⟩

/-- The function is Go's own. -/
def Enters (F : Nat) : Prop := ∀ (args : Array Value) (W : World), (callFunc F args).run Try.prog W = .ok (.enter F args) W
/-- A type's writer, by its number. -/
theorem formPut {t x : Int} {s : ByteArray} (ht : 1 ≤ t ∧ t ≤ 4) (ho : okF t x s = true) : ∃ F G : Nat, (formV t).1 = .func (.func F) #[] #[] ∧ (formV t).2 = .func (.func G) #[] #[] ∧ Enters F ∧ ∀ n f, n ≤ 1759218600000 → Writes F n f t x s (valL t x s) := by
  have hs := okF_few ho
  obtain rfl | rfl | rfl | rfl : t = 1 ∨ t = 2 ∨ t = 3 ∨ t = 4 := by omega
  · rw [okF_spec1] at ho; simp at ho
    exact ⟨_, _, rfl, rfl, fun _ _ => by kernel_rfl, fun n f hn => putInt_any n f 1 x s (by omega) (by omega)⟩
  · rw [okF_spec2] at ho; simp at ho
    exact ⟨_, _, rfl, rfl, fun _ _ => by kernel_rfl, fun n f hn => putNum_any n f 2 x s (by omega) (by omega)⟩
  · exact ⟨_, _, rfl, rfl, fun _ _ => by kernel_rfl, fun n f hn => putText_any n f 3 x s (by omega) (by omega)⟩
  · rw [okF_spec4] at ho; simp at ho
    exact ⟨_, _, rfl, rfl, fun _ _ => by kernel_rfl, fun n f hn => putBool_any n f 4 x s (by omega) (by omega)⟩

/-- What PutPart comes to: the list's bytes behind those that are there, in memory of its own. -/
def Puts (n : Nat) (f : Nat → Int) (w : World) (l : List Int) (e : Ending) (w' : World) : Prop :=
  ∃ g c, e = .returned (.slice (some ⟨g, 0, none⟩) (n + l.length) c) ∧ w.heap.size ≤ g ∧ n + l.length ≤ c ∧ Row 5 w' g (n + l.length) (fun i => (lof n f ++ l).getD i 0) ∧ Below w.heap.size w w'
theorem View.nil0 (w : World) : View w none 0 0 (fun _ => 0) := ⟨Nat.le_refl _, fun _ hi => absurd hi (Nat.not_lt_zero _), fun h => absurd h (Nat.lt_irrefl _)⟩
theorem one_list (n : Nat) (f : Nat → Int) (z : Int) (l : List Int) (m : Nat) (hm : m = n + 1) : lof m (fun i => (lof n f ++ [z]).getD i 0) ++ l = lof n f ++ (z :: l) := by
  subst hm
  have e : lof (n + 1) (fun i => (lof n f ++ [z]).getD i 0) = lof n f ++ [z] := by have := lof_self (lof n f ++ [z]); simpa [lof_len] using this
  rw [e, List.append_assoc]; rfl

set_option maxHeartbeats 4000000 in
theorem putPart_no (b off n cap : Nat) (f : Nat → Int) (c t : Int) (nul d : Bool) (k x : Int) (s : ByteArray) (w : World) (hv : View w (some ⟨b, off, none⟩) n cap f) (hn : n ≤ 10000000) (hok : partOk c t = false) :
    Calls Try.prog 45 #[.slice (some ⟨b, off, none⟩) n cap, .agg #[.int .i64 c, .int .i64 t, .bool nul, .bool d], .agg #[.int .i64 k, .int .i64 x, .string s]] w (Puts n f w []) := by
  have hPV := PV.start w 51 59 c t nul d k x s
  have hB := hPV.all
  go_enter Try.func45, Try.ntmps45
  go_wp2_with fail
  refine (implPartOk_any c t nul d _).mono ?_
  rw [hok]
  rintro e w1 ⟨rfl, hb⟩
  replace hPV := hPV.step hb
  replace hB := hB.trans (hb.mono hB.size)
  clear hb
  go_wp2_with fail
  refine (putBytes_any b off n cap f none 0 0 (fun _ => 0) _ (hv.below hB) (View.nil0 _) (fun _ => ⟨rfl, rfl⟩) (by omega)).mono ?_
  rintro e w3 ⟨rfl, hown, hb⟩
  have hs := hB.size
  replace hPV := hPV.step hb
  replace hB := hB.trans (hb.mono hB.size)
  clear hb
  go_wp2
  go_ret
  rw [show lof 0 (fun _ => (0 : Int)) = [] from rfl] at hown
  obtain ⟨g, cg, e, hg, hc, hr⟩ := row_of_own' hown (by intro h; cases h)
  cases e
  exact ⟨_, _, rfl, hs, hc, hr, hB⟩

set_option maxHeartbeats 4000000 in
theorem putPart_not (b off n cap : Nat) (f : Nat → Int) (c t : Int) (nul d : Bool) (k x : Int) (s : ByteArray) (w : World) (hv : View w (some ⟨b, off, none⟩) n cap f) (hn : n ≤ 10000000) (hok : partOk c t = true) (hfit : fitsI t nul k x s = false) :
    Calls Try.prog 45 #[.slice (some ⟨b, off, none⟩) n cap, .agg #[.int .i64 c, .int .i64 t, .bool nul, .bool d], .agg #[.int .i64 k, .int .i64 x, .string s]] w (Puts n f w []) := by
  have hPV := PV.start w 51 59 c t nul d k x s
  have hB := hPV.all
  go_enter Try.func45, Try.ntmps45
  go_wp2_with fail
  refine (implPartOk_any c t nul d _).mono ?_
  rw [hok]
  rintro e w1 ⟨rfl, hb⟩
  replace hPV := hPV.step hb
  replace hB := hB.trans (hb.mono hB.size)
  clear hb
  obtain ⟨p0, p1, p2, p3⟩ := hPV.part
  obtain ⟨v0, v1, v2⟩ := hPV.val
  go_wp2_with fail
  clear p0 p1 p2 p3 v0 v1 v2
  refine (implFits_any c t nul d k x s _).mono ?_
  rw [hfit]
  rintro e w2 ⟨rfl, hb⟩
  replace hPV := hPV.step hb
  replace hB := hB.trans (hb.mono hB.size)
  clear hb
  go_wp2_with fail
  refine (putBytes_any b off n cap f none 0 0 (fun _ => 0) _ (hv.below hB) (View.nil0 _) (fun _ => ⟨rfl, rfl⟩) (by omega)).mono ?_
  rintro e w3 ⟨rfl, hown, hb⟩
  have hs := hB.size
  replace hPV := hPV.step hb
  replace hB := hB.trans (hb.mono hB.size)
  clear hb
  go_wp2
  go_ret
  rw [show lof 0 (fun _ => (0 : Int)) = [] from rfl] at hown
  obtain ⟨g, cg, e, hg, hc, hr⟩ := row_of_own' hown (by intro h; cases h)
  cases e
  exact ⟨_, _, rfl, hs, hc, hr, hB⟩

set_option maxHeartbeats 8000000 in
theorem putPart_ff (b off n cap : Nat) (f : Nat → Int) (c t : Int) (x : Int) (s : ByteArray) (w : World) (hv : View w (some ⟨b, off, none⟩) n cap f) (hn : n ≤ 10000000) (hok : partOk c t = true) (hfit : fitsI t false t x s = true) (_hs30 : s.size ≤ 30) (ht : 1 ≤ t ∧ t ≤ 4) (F G : Nat) (hF : (formV t).1 = .func (.func F) #[] #[]) (hG : (formV t).2 = .func (.func G) #[] #[]) (hE : Enters F) (hW : ∀ n f, n ≤ 1759218600000 → Writes F n f t x s (valL t x s)) :
    Calls Try.prog 45 #[.slice (some ⟨b, off, none⟩) n cap, .agg #[.int .i64 c, .int .i64 t, .bool false, .bool false], .agg #[.int .i64 t, .int .i64 x, .string s]] w (Puts n f w (valL t x s)) := by
  have hPV := PV.start w 51 59 c t false false t x s
  have hB := hPV.all
  have HYF : Hid (∀ y ∈ lof n f, 0 ≤ y ∧ y ≤ 255) := lof_byte hv.byte
  have q4 : (t != 0) = true := by simp; omega
  go_enter Try.func45, Try.ntmps45
  go_wp2_with fail
  refine (implPartOk_any c t false false _).mono ?_
  rw [hok]
  rintro e w1 ⟨rfl, hb⟩
  replace hPV := hPV.step hb
  replace hB := hB.trans (hb.mono hB.size)
  clear hb
  obtain ⟨p0, p1, p2, p3⟩ := hPV.part
  obtain ⟨v0, v1, v2⟩ := hPV.val
  go_wp2_with fail
  clear p0 p1 p2 p3 v0 v1 v2
  refine (implFits_any c t false false t x s _).mono ?_
  rw [hfit]
  rintro e w2 ⟨rfl, hb⟩
  replace hPV := hPV.step hb
  replace hB := hB.trans (hb.mono hB.size)
  clear hb
  obtain ⟨p0, p1, p2, p3⟩ := hPV.part
  obtain ⟨v0, v1, v2⟩ := hPV.val
  go_wp2_with fail
  clear p0 p1 p2 p3 v0 v1 v2
  have hb : Below w2.heap.size w2 w2.drew := (Below.refl _ _).drew
  replace hPV := hPV.step hb
  replace hB := hB.trans (hb.mono hB.size)
  clear hb
  refine wp_region_held_drew (S := PV w 51 59 c t false false t x s) (by kernel_rfl) (hPV) (fun hHeld => ?_)
  refine' wpAnyH_take (i := 0) (v := _) rfl (by kernel_rfl) (by kernel_rfl) (by kernel_rfl) (fun _ _ _ h => h) (Or.inl ⟨by kernel_rfl, ?ha0⟩) (by assumption) ?ra0
  case ha0 => intro W hW; go_simp; all_goals with_reducible rfl
  change wpAnyH _ _ _ _ _ _ _ (Act.put _ (some 30) _) _
  simp only [Act.put, List.setIfInBounds_toArray, List.set_cons_zero, List.set_cons_succ]
  refine' wpAnyH_take (i := 1) (v := _) rfl (by kernel_rfl) (by kernel_rfl) (by kernel_rfl) (fun _ _ _ h => h) (Or.inl ⟨by kernel_rfl, ?ha1⟩) (by assumption) ?ra1
  case ha1 => intro W hW; obtain ⟨c0, c1, c2, c3⟩ := PV.part hW; go_simp; all_goals with_reducible rfl
  change wpAnyH _ _ _ _ _ _ _ (Act.put _ (some 31) _) _
  simp only [Act.put, List.setIfInBounds_toArray, List.set_cons_zero, List.set_cons_succ]
  refine' wpAnyH_take (i := 4) (v := _) rfl (by kernel_rfl) (by kernel_rfl) (by kernel_rfl) (fun _ _ _ h => h) (Or.inl ⟨by kernel_rfl, ?ha4⟩) (by assumption) ?ra4
  case ha4 => intro W hW; go_simp; all_goals with_reducible rfl
  change wpAnyH _ _ _ _ _ _ _ (Act.put _ (some 34) _) _
  simp only [Act.put, List.setIfInBounds_toArray, List.set_cons_zero, List.set_cons_succ]
  refine' wpAnyH_take (i := 5) (v := _) rfl (by kernel_rfl) (by kernel_rfl) (by kernel_rfl) (fun _ _ _ h => h) (Or.inl ⟨by kernel_rfl, ?ha5⟩) (by assumption) ?ra5
  case ha5 => intro W hW; obtain ⟨c0, c1, c2⟩ := PV.val hW; go_simp; all_goals with_reducible rfl
  change wpAnyH _ _ _ _ _ _ _ (Act.put _ (some 35) _) _
  simp only [Act.put, List.setIfInBounds_toArray, List.set_cons_zero, List.set_cons_succ]
  refine wpAnyH_ready (rs := [2]) (by kernel_rfl) (by simp) ?_
  refine AllReadyH.cons rfl (fun KK hK => ?_) AllReadyH.nil
  go_simp
  refine (formOf_any t _ ht).mono ?_
  rintro e w5 ⟨rfl, hb⟩
  rw [hF, hG]
  have fp := form_put F G
  replace hPV := hPV.step hb
  replace hB := hB.trans (hb.mono hB.size)
  clear hb
  go_wp2_with fail
  refine hK.out _ _ hPV (fun hHeld => ?_)
  clear hK KK
  try simp only [Act.put, List.setIfInBounds_toArray, List.set_cons_zero, List.set_cons_succ]
  refine' wpAnyH_take (i := 3) (v := _) rfl (by kernel_rfl) (by kernel_rfl) (by kernel_rfl) (fun _ _ _ h => h) (Or.inl ⟨by kernel_rfl, ?ha3⟩) (by assumption) ?ra3
  case ha3 => intro W hW; go_simp; all_goals with_reducible rfl
  change wpAnyH _ _ _ _ _ _ _ (Act.put _ (some 33) _) _
  simp only [Act.put, List.setIfInBounds_toArray, List.set_cons_zero, List.set_cons_succ]
  clear fp
  have hEF : ∀ (args : Array Value) (W : World), (callFunc F args).run Try.prog W = .ok (.enter F args) W := hE
  refine wpAnyH_ready (rs := [6]) (by kernel_rfl) (by simp) ?_
  refine AllReadyH.cons rfl (fun KK hK => ?_) AllReadyH.nil
  go_simp
  refine (hW _ _ (by omega) _ _ _ _ (hv.below hB)).mono ?_
  rintro e w6 ⟨g, cg, rfl, hg, hcg, hr, hb⟩
  replace hg := Nat.le_trans hB.size hg
  replace hPV := hPV.step hb
  replace hB := hB.trans (hb.mono hB.size)
  clear hb
  go_wp2_with fail
  refine hK.out _ _ hPV (fun hHeld => ?_)
  clear hK KK
  try simp only [Act.put, List.setIfInBounds_toArray, List.set_cons_zero, List.set_cons_succ]
  clear hEF
  refine' wpAnyH_take (i := 7) (v := _) rfl (by kernel_rfl) (by kernel_rfl) (by kernel_rfl) (fun _ _ _ h => h) (Or.inl ⟨by kernel_rfl, ?ha7⟩) (by assumption) ?ra7
  case ha7 => intro W hW; go_simp; all_goals with_reducible rfl
  change wpAnyH _ _ _ _ _ _ _ (Act.put _ (some 7) _) _
  simp only [Act.put, List.setIfInBounds_toArray, List.set_cons_zero, List.set_cons_succ]
  refine wpAnyH_done (by kernel_rfl) ?_ _
  have hr9 : Row 5 w6 g (n + (valL t x s).length) (fun i => (lof n f ++ valL t x s).getD i 0) := hr
  have hcg9 := hcg
  clear hr hcg
  have hbyt : Hid (∀ y ∈ (valL t x s), 0 ≤ y ∧ y ≤ 255) := (valL_byte t x s)
  have hlen := (valL_len t x s).2
  obtain ⟨p0, p1, p2, p3⟩ := hPV.part
  obtain ⟨v0, v1, v2⟩ := hPV.val
  go_wp2
  go_ret
  exact ⟨_, _, rfl, hg, hcg9, hr9, hB⟩

set_option maxHeartbeats 8000000 in
theorem putPart_ft (b off n cap : Nat) (f : Nat → Int) (c t : Int) (x : Int) (s : ByteArray) (w : World) (hv : View w (some ⟨b, off, none⟩) n cap f) (hn : n ≤ 10000000) (hok : partOk c t = true) (hfit : fitsI t false t x s = true) (hs30 : s.size ≤ 30) (ht : 1 ≤ t ∧ t ≤ 4) (F G : Nat) (hF : (formV t).1 = .func (.func F) #[] #[]) (hG : (formV t).2 = .func (.func G) #[] #[]) (hE : Enters F) (hW : ∀ n f, n ≤ 1759218600000 → Writes F n f t x s (valL t x s)) :
    Calls Try.prog 45 #[.slice (some ⟨b, off, none⟩) n cap, .agg #[.int .i64 c, .int .i64 t, .bool false, .bool true], .agg #[.int .i64 t, .int .i64 x, .string s]] w (Puts n f w ((valL t x s).map (fun y => 255 - y))) := by
  have hPV := PV.start w 51 59 c t false true t x s
  have hB := hPV.all
  have HYF : Hid (∀ y ∈ lof n f, 0 ≤ y ∧ y ≤ 255) := lof_byte hv.byte
  have q4 : (t != 0) = true := by simp; omega
  go_enter Try.func45, Try.ntmps45
  go_wp2_with fail
  refine (implPartOk_any c t false true _).mono ?_
  rw [hok]
  rintro e w1 ⟨rfl, hb⟩
  replace hPV := hPV.step hb
  replace hB := hB.trans (hb.mono hB.size)
  clear hb
  obtain ⟨p0, p1, p2, p3⟩ := hPV.part
  obtain ⟨v0, v1, v2⟩ := hPV.val
  go_wp2_with fail
  clear p0 p1 p2 p3 v0 v1 v2
  refine (implFits_any c t false true t x s _).mono ?_
  rw [hfit]
  rintro e w2 ⟨rfl, hb⟩
  replace hPV := hPV.step hb
  replace hB := hB.trans (hb.mono hB.size)
  clear hb
  obtain ⟨p0, p1, p2, p3⟩ := hPV.part
  obtain ⟨v0, v1, v2⟩ := hPV.val
  go_wp2_with fail
  clear p0 p1 p2 p3 v0 v1 v2
  have hb : Below w2.heap.size w2 w2.drew := (Below.refl _ _).drew
  replace hPV := hPV.step hb
  replace hB := hB.trans (hb.mono hB.size)
  clear hb
  refine wp_region_held_drew (S := PV w 51 59 c t false true t x s) (by kernel_rfl) (hPV) (fun hHeld => ?_)
  refine' wpAnyH_take (i := 0) (v := _) rfl (by kernel_rfl) (by kernel_rfl) (by kernel_rfl) (fun _ _ _ h => h) (Or.inl ⟨by kernel_rfl, ?ha0⟩) (by assumption) ?ra0
  case ha0 => intro W hW; go_simp; all_goals with_reducible rfl
  change wpAnyH _ _ _ _ _ _ _ (Act.put _ (some 30) _) _
  simp only [Act.put, List.setIfInBounds_toArray, List.set_cons_zero, List.set_cons_succ]
  refine' wpAnyH_take (i := 1) (v := _) rfl (by kernel_rfl) (by kernel_rfl) (by kernel_rfl) (fun _ _ _ h => h) (Or.inl ⟨by kernel_rfl, ?ha1⟩) (by assumption) ?ra1
  case ha1 => intro W hW; obtain ⟨c0, c1, c2, c3⟩ := PV.part hW; go_simp; all_goals with_reducible rfl
  change wpAnyH _ _ _ _ _ _ _ (Act.put _ (some 31) _) _
  simp only [Act.put, List.setIfInBounds_toArray, List.set_cons_zero, List.set_cons_succ]
  refine' wpAnyH_take (i := 4) (v := _) rfl (by kernel_rfl) (by kernel_rfl) (by kernel_rfl) (fun _ _ _ h => h) (Or.inl ⟨by kernel_rfl, ?ha4⟩) (by assumption) ?ra4
  case ha4 => intro W hW; go_simp; all_goals with_reducible rfl
  change wpAnyH _ _ _ _ _ _ _ (Act.put _ (some 34) _) _
  simp only [Act.put, List.setIfInBounds_toArray, List.set_cons_zero, List.set_cons_succ]
  refine' wpAnyH_take (i := 5) (v := _) rfl (by kernel_rfl) (by kernel_rfl) (by kernel_rfl) (fun _ _ _ h => h) (Or.inl ⟨by kernel_rfl, ?ha5⟩) (by assumption) ?ra5
  case ha5 => intro W hW; obtain ⟨c0, c1, c2⟩ := PV.val hW; go_simp; all_goals with_reducible rfl
  change wpAnyH _ _ _ _ _ _ _ (Act.put _ (some 35) _) _
  simp only [Act.put, List.setIfInBounds_toArray, List.set_cons_zero, List.set_cons_succ]
  refine wpAnyH_ready (rs := [2]) (by kernel_rfl) (by simp) ?_
  refine AllReadyH.cons rfl (fun KK hK => ?_) AllReadyH.nil
  go_simp
  refine (formOf_any t _ ht).mono ?_
  rintro e w5 ⟨rfl, hb⟩
  rw [hF, hG]
  have fp := form_put F G
  replace hPV := hPV.step hb
  replace hB := hB.trans (hb.mono hB.size)
  clear hb
  go_wp2_with fail
  refine hK.out _ _ hPV (fun hHeld => ?_)
  clear hK KK
  try simp only [Act.put, List.setIfInBounds_toArray, List.set_cons_zero, List.set_cons_succ]
  refine' wpAnyH_take (i := 3) (v := _) rfl (by kernel_rfl) (by kernel_rfl) (by kernel_rfl) (fun _ _ _ h => h) (Or.inl ⟨by kernel_rfl, ?ha3⟩) (by assumption) ?ra3
  case ha3 => intro W hW; go_simp; all_goals with_reducible rfl
  change wpAnyH _ _ _ _ _ _ _ (Act.put _ (some 33) _) _
  simp only [Act.put, List.setIfInBounds_toArray, List.set_cons_zero, List.set_cons_succ]
  clear fp
  have hEF : ∀ (args : Array Value) (W : World), (callFunc F args).run Try.prog W = .ok (.enter F args) W := hE
  refine wpAnyH_ready (rs := [6]) (by kernel_rfl) (by simp) ?_
  refine AllReadyH.cons rfl (fun KK hK => ?_) AllReadyH.nil
  go_simp
  refine (hW _ _ (by omega) _ _ _ _ (hv.below hB)).mono ?_
  rintro e w6 ⟨g, cg, rfl, hg, hcg, hr, hb⟩
  replace hg := Nat.le_trans hB.size hg
  replace hPV := hPV.step hb
  replace hB := hB.trans (hb.mono hB.size)
  clear hb
  go_wp2_with fail
  refine hK.out _ _ hPV (fun hHeld => ?_)
  clear hK KK
  try simp only [Act.put, List.setIfInBounds_toArray, List.set_cons_zero, List.set_cons_succ]
  clear hEF
  refine' wpAnyH_take (i := 7) (v := _) rfl (by kernel_rfl) (by kernel_rfl) (by kernel_rfl) (fun _ _ _ h => h) (Or.inl ⟨by kernel_rfl, ?ha7⟩) (by assumption) ?ra7
  case ha7 => intro W hW; go_simp; all_goals with_reducible rfl
  change wpAnyH _ _ _ _ _ _ _ (Act.put _ (some 7) _) _
  simp only [Act.put, List.setIfInBounds_toArray, List.set_cons_zero, List.set_cons_succ]
  refine wpAnyH_done (by kernel_rfl) ?_ _
  have hr9 : Row 5 w6 g (n + (valL t x s).length) (fun i => (lof n f ++ valL t x s).getD i 0) := hr
  have hcg9 := hcg
  clear hr hcg
  have hbyt : Hid (∀ y ∈ (valL t x s), 0 ≤ y ∧ y ≤ 255) := (valL_byte t x s)
  have hlen := (valL_len t x s).2
  obtain ⟨p0, p1, p2, p3⟩ := hPV.part
  obtain ⟨v0, v1, v2⟩ := hPV.val
  go_wp2_with fail
  clear p0 p1 p2 p3 v0 v1 v2
  refine (flip_impl g 0 (n + (valL t x s).length) cg _ (n : Int) _ (hr9.view hcg9 (fun i hi => (List.forall_mem_append.2 ⟨HYF.out, hbyt.out⟩ : ∀ y ∈ lof n f ++ (valL t x s), 0 ≤ y ∧ y ≤ 255) _ (getD_in (by rw [List.length_append, lof_len]; exact hi)))) (by first | omega | (simp; omega)) (by omega)).mono ?_
  rintro e w8 ⟨g8, c8, rfl, hg8, hc8, hr8, hb⟩
  have hg9 := Nat.le_trans hB.size hg8
  replace hPV := hPV.step hb
  replace hB := hB.trans (hb.mono hB.size)
  clear hb
  have hr7 := turn_row rfl (fun i _ => rfl) hr8
  clear hr8 hr9
  obtain ⟨p0, p1, p2, p3⟩ := hPV.part
  obtain ⟨v0, v1, v2⟩ := hPV.val
  go_wp2
  go_ret
  exact ⟨g8, c8, by simp, hg9, by simpa using hc8, hr7, hB⟩

set_option maxHeartbeats 8000000 in
theorem putPart_tf (b off n cap : Nat) (f : Nat → Int) (c t : Int) (x : Int) (s : ByteArray) (w : World) (hv : View w (some ⟨b, off, none⟩) n cap f) (hn : n ≤ 10000000) (hok : partOk c t = true) (hfit : fitsI t true t x s = true) (_hs30 : s.size ≤ 30) (ht : 1 ≤ t ∧ t ≤ 4) (F G : Nat) (hF : (formV t).1 = .func (.func F) #[] #[]) (hG : (formV t).2 = .func (.func G) #[] #[]) (hE : Enters F) (hW : ∀ n f, n ≤ 1759218600000 → Writes F n f t x s (valL t x s)) :
    Calls Try.prog 45 #[.slice (some ⟨b, off, none⟩) n cap, .agg #[.int .i64 c, .int .i64 t, .bool true, .bool false], .agg #[.int .i64 t, .int .i64 x, .string s]] w (Puts n f w (1 :: valL t x s)) := by
  have hPV := PV.start w 51 59 c t true false t x s
  have hB := hPV.all
  have HYF : Hid (∀ y ∈ lof n f, 0 ≤ y ∧ y ≤ 255) := lof_byte hv.byte
  have q4 : (t != 0) = true := by simp; omega
  go_enter Try.func45, Try.ntmps45
  go_wp2_with fail
  refine (implPartOk_any c t true false _).mono ?_
  rw [hok]
  rintro e w1 ⟨rfl, hb⟩
  replace hPV := hPV.step hb
  replace hB := hB.trans (hb.mono hB.size)
  clear hb
  obtain ⟨p0, p1, p2, p3⟩ := hPV.part
  obtain ⟨v0, v1, v2⟩ := hPV.val
  go_wp2_with fail
  clear p0 p1 p2 p3 v0 v1 v2
  refine (implFits_any c t true false t x s _).mono ?_
  rw [hfit]
  rintro e w2 ⟨rfl, hb⟩
  replace hPV := hPV.step hb
  replace hB := hB.trans (hb.mono hB.size)
  clear hb
  obtain ⟨p0, p1, p2, p3⟩ := hPV.part
  obtain ⟨v0, v1, v2⟩ := hPV.val
  go_wp2_with fail
  clear p0 p1 p2 p3 v0 v1 v2
  refine (presence_any t x s _).mono ?_
  rintro e w3 ⟨rfl, hb⟩
  rw [if_neg (by omega)]
  replace hPV := hPV.step hb
  replace hB := hB.trans (hb.mono hB.size)
  clear hb
  have hz := Row.lit1 w3 5 1
  have hzv := hz.view (cap := 1) (Nat.le_refl _) (fun _ _ => ⟨by decide, by decide⟩)
  have hb : Below w3.heap.size w3 (w3.alloc (.cells #[.int .u8 1] 5)) := (Below.refl _ _).alloc (Nat.le_refl _) _
  obtain ⟨W3, hW3⟩ : ∃ W3, Hid (W3 = w3.alloc (.cells #[.int .u8 1] 5)) := ⟨_, rfl⟩
  rw [← hW3.out] at hzv hb
  go_wp2_with fail
  rw [← hW3.out]
  replace hPV := hPV.step hb
  replace hB := hB.trans (hb.mono hB.size)
  clear hb
  refine (putBytes_any b off n cap f (some ⟨w3.heap.size, 0, none⟩) 1 1 (fun _ => 1) _ (hv.below hB) hzv (fun h => by cases h) (by omega)).mono ?_
  rintro e w4 ⟨rfl, hown, hb⟩
  rw [lof_one] at hown
  have hs := hB.size
  obtain ⟨g1, c1, e, -, hc1, hr1⟩ := row_of_own' hown (by intro h; cases h)
  cases e
  replace hPV := hPV.step hb
  replace hB := hB.trans (hb.mono hB.size)
  clear hb
  clear hown hzv hz hW3
  obtain ⟨A, hA⟩ : ∃ A, Hid (A = W3.heap.size) := ⟨_, rfl⟩
  rw [← hA.out] at hr1 hs ⊢
  obtain ⟨p0, p1, p2, p3⟩ := hPV.part
  obtain ⟨v0, v1, v2⟩ := hPV.val
  go_wp2_with fail
  clear p0 p1 p2 p3 v0 v1 v2
  have hb : Below w4.heap.size w4 w4.drew := (Below.refl _ _).drew
  replace hr1 := hr1.belowAll hb
  replace hPV := hPV.step hb
  replace hB := hB.trans (hb.mono hB.size)
  clear hb
  refine wp_region_held_drew (S := PV w 51 59 c t true false t x s) (by kernel_rfl) (hPV) (fun hHeld => ?_)
  refine' wpAnyH_take (i := 0) (v := _) rfl (by kernel_rfl) (by kernel_rfl) (by kernel_rfl) (fun _ _ _ h => h) (Or.inl ⟨by kernel_rfl, ?ha0⟩) (by assumption) ?ra0
  case ha0 => intro W hW; go_simp; all_goals with_reducible rfl
  change wpAnyH _ _ _ _ _ _ _ (Act.put _ (some 30) _) _
  simp only [Act.put, List.setIfInBounds_toArray, List.set_cons_zero, List.set_cons_succ]
  refine' wpAnyH_take (i := 1) (v := _) rfl (by kernel_rfl) (by kernel_rfl) (by kernel_rfl) (fun _ _ _ h => h) (Or.inl ⟨by kernel_rfl, ?ha1⟩) (by assumption) ?ra1
  case ha1 => intro W hW; obtain ⟨c0, c1, c2, c3⟩ := PV.part hW; go_simp; all_goals with_reducible rfl
  change wpAnyH _ _ _ _ _ _ _ (Act.put _ (some 31) _) _
  simp only [Act.put, List.setIfInBounds_toArray, List.set_cons_zero, List.set_cons_succ]
  refine' wpAnyH_take (i := 4) (v := _) rfl (by kernel_rfl) (by kernel_rfl) (by kernel_rfl) (fun _ _ _ h => h) (Or.inl ⟨by kernel_rfl, ?ha4⟩) (by assumption) ?ra4
  case ha4 => intro W hW; go_simp; all_goals with_reducible rfl
  change wpAnyH _ _ _ _ _ _ _ (Act.put _ (some 34) _) _
  simp only [Act.put, List.setIfInBounds_toArray, List.set_cons_zero, List.set_cons_succ]
  refine' wpAnyH_take (i := 5) (v := _) rfl (by kernel_rfl) (by kernel_rfl) (by kernel_rfl) (fun _ _ _ h => h) (Or.inl ⟨by kernel_rfl, ?ha5⟩) (by assumption) ?ra5
  case ha5 => intro W hW; obtain ⟨c0, c1, c2⟩ := PV.val hW; go_simp; all_goals with_reducible rfl
  change wpAnyH _ _ _ _ _ _ _ (Act.put _ (some 35) _) _
  simp only [Act.put, List.setIfInBounds_toArray, List.set_cons_zero, List.set_cons_succ]
  refine wpAnyH_ready (rs := [2]) (by kernel_rfl) (by simp) ?_
  refine AllReadyH.cons rfl (fun KK hK => ?_) AllReadyH.nil
  go_simp
  refine (formOf_any t _ ht).mono ?_
  rintro e w5 ⟨rfl, hb⟩
  rw [hF, hG]
  have fp := form_put F G
  replace hr1 := hr1.belowAll hb
  replace hPV := hPV.step hb
  replace hB := hB.trans (hb.mono hB.size)
  clear hb
  go_wp2_with fail
  refine hK.out _ _ hPV (fun hHeld => ?_)
  clear hK KK
  try simp only [Act.put, List.setIfInBounds_toArray, List.set_cons_zero, List.set_cons_succ]
  refine' wpAnyH_take (i := 3) (v := _) rfl (by kernel_rfl) (by kernel_rfl) (by kernel_rfl) (fun _ _ _ h => h) (Or.inl ⟨by kernel_rfl, ?ha3⟩) (by assumption) ?ra3
  case ha3 => intro W hW; go_simp; all_goals with_reducible rfl
  change wpAnyH _ _ _ _ _ _ _ (Act.put _ (some 33) _) _
  simp only [Act.put, List.setIfInBounds_toArray, List.set_cons_zero, List.set_cons_succ]
  clear fp
  have hEF : ∀ (args : Array Value) (W : World), (callFunc F args).run Try.prog W = .ok (.enter F args) W := hE
  refine wpAnyH_ready (rs := [6]) (by kernel_rfl) (by simp) ?_
  refine AllReadyH.cons rfl (fun KK hK => ?_) AllReadyH.nil
  go_simp
  refine (hW _ _ (by omega) _ _ _ _ (hr1.view (Nat.le_refl _) (fun i hi => (List.forall_mem_append.2 ⟨HYF.out, fun y hy => by simp at hy; omega⟩ : ∀ y ∈ lof n f ++ [1], 0 ≤ y ∧ y ≤ 255) _ (getD_in (by rw [List.length_append, lof_len]; exact hi))))).mono ?_
  rintro e w6 ⟨g, cg, rfl, hg, hcg, hr, hb⟩
  replace hg := Nat.le_trans hB.size hg
  replace hr1 := hr1.belowAll hb
  replace hPV := hPV.step hb
  replace hB := hB.trans (hb.mono hB.size)
  clear hb
  go_wp2_with fail
  refine hK.out _ _ hPV (fun hHeld => ?_)
  clear hK KK
  try simp only [Act.put, List.setIfInBounds_toArray, List.set_cons_zero, List.set_cons_succ]
  clear hEF
  refine' wpAnyH_take (i := 7) (v := _) rfl (by kernel_rfl) (by kernel_rfl) (by kernel_rfl) (fun _ _ _ h => h) (Or.inl ⟨by kernel_rfl, ?ha7⟩) (by assumption) ?ra7
  case ha7 => intro W hW; go_simp; all_goals with_reducible rfl
  change wpAnyH _ _ _ _ _ _ _ (Act.put _ (some 7) _) _
  simp only [Act.put, List.setIfInBounds_toArray, List.set_cons_zero, List.set_cons_succ]
  refine wpAnyH_done (by kernel_rfl) ?_ _
  have hr9 : Row 5 w6 g (n + (1 :: valL t x s).length) (fun i => (lof n f ++ (1 :: valL t x s)).getD i 0) := by
    rw [one_list n f 1 _ _ rfl] at hr
    rw [show n + (1 :: valL t x s).length = n + 1 + (valL t x s).length by simp; omega]
    exact hr
  have hcg9 : n + (1 :: valL t x s).length ≤ cg := by simp; omega
  rw [show n + 1 + (valL t x s).length = n + (1 :: valL t x s).length by simp; omega]
  clear hr hcg hr1
  have hbyt : Hid (∀ y ∈ (1 :: valL t x s), 0 ≤ y ∧ y ≤ 255) := (fun y hy => by rcases List.mem_cons.1 hy with rfl | hy; exact ⟨by decide, by decide⟩; exact valL_byte t x s y hy)
  have hlen := (valL_len t x s).2
  obtain ⟨p0, p1, p2, p3⟩ := hPV.part
  obtain ⟨v0, v1, v2⟩ := hPV.val
  go_wp2
  go_ret
  exact ⟨_, _, rfl, hg, hcg9, hr9, hB⟩

set_option maxHeartbeats 8000000 in
theorem putPart_tt (b off n cap : Nat) (f : Nat → Int) (c t : Int) (x : Int) (s : ByteArray) (w : World) (hv : View w (some ⟨b, off, none⟩) n cap f) (hn : n ≤ 10000000) (hok : partOk c t = true) (hfit : fitsI t true t x s = true) (hs30 : s.size ≤ 30) (ht : 1 ≤ t ∧ t ≤ 4) (F G : Nat) (hF : (formV t).1 = .func (.func F) #[] #[]) (hG : (formV t).2 = .func (.func G) #[] #[]) (hE : Enters F) (hW : ∀ n f, n ≤ 1759218600000 → Writes F n f t x s (valL t x s)) :
    Calls Try.prog 45 #[.slice (some ⟨b, off, none⟩) n cap, .agg #[.int .i64 c, .int .i64 t, .bool true, .bool true], .agg #[.int .i64 t, .int .i64 x, .string s]] w (Puts n f w ((1 :: valL t x s).map (fun y => 255 - y))) := by
  have hPV := PV.start w 51 59 c t true true t x s
  have hB := hPV.all
  have HYF : Hid (∀ y ∈ lof n f, 0 ≤ y ∧ y ≤ 255) := lof_byte hv.byte
  have q4 : (t != 0) = true := by simp; omega
  go_enter Try.func45, Try.ntmps45
  go_wp2_with fail
  refine (implPartOk_any c t true true _).mono ?_
  rw [hok]
  rintro e w1 ⟨rfl, hb⟩
  replace hPV := hPV.step hb
  replace hB := hB.trans (hb.mono hB.size)
  clear hb
  obtain ⟨p0, p1, p2, p3⟩ := hPV.part
  obtain ⟨v0, v1, v2⟩ := hPV.val
  go_wp2_with fail
  clear p0 p1 p2 p3 v0 v1 v2
  refine (implFits_any c t true true t x s _).mono ?_
  rw [hfit]
  rintro e w2 ⟨rfl, hb⟩
  replace hPV := hPV.step hb
  replace hB := hB.trans (hb.mono hB.size)
  clear hb
  obtain ⟨p0, p1, p2, p3⟩ := hPV.part
  obtain ⟨v0, v1, v2⟩ := hPV.val
  go_wp2_with fail
  clear p0 p1 p2 p3 v0 v1 v2
  refine (presence_any t x s _).mono ?_
  rintro e w3 ⟨rfl, hb⟩
  rw [if_neg (by omega)]
  replace hPV := hPV.step hb
  replace hB := hB.trans (hb.mono hB.size)
  clear hb
  have hz := Row.lit1 w3 5 1
  have hzv := hz.view (cap := 1) (Nat.le_refl _) (fun _ _ => ⟨by decide, by decide⟩)
  have hb : Below w3.heap.size w3 (w3.alloc (.cells #[.int .u8 1] 5)) := (Below.refl _ _).alloc (Nat.le_refl _) _
  obtain ⟨W3, hW3⟩ : ∃ W3, Hid (W3 = w3.alloc (.cells #[.int .u8 1] 5)) := ⟨_, rfl⟩
  rw [← hW3.out] at hzv hb
  go_wp2_with fail
  rw [← hW3.out]
  replace hPV := hPV.step hb
  replace hB := hB.trans (hb.mono hB.size)
  clear hb
  refine (putBytes_any b off n cap f (some ⟨w3.heap.size, 0, none⟩) 1 1 (fun _ => 1) _ (hv.below hB) hzv (fun h => by cases h) (by omega)).mono ?_
  rintro e w4 ⟨rfl, hown, hb⟩
  rw [lof_one] at hown
  have hs := hB.size
  obtain ⟨g1, c1, e, -, hc1, hr1⟩ := row_of_own' hown (by intro h; cases h)
  cases e
  replace hPV := hPV.step hb
  replace hB := hB.trans (hb.mono hB.size)
  clear hb
  clear hown hzv hz hW3
  obtain ⟨A, hA⟩ : ∃ A, Hid (A = W3.heap.size) := ⟨_, rfl⟩
  rw [← hA.out] at hr1 hs ⊢
  obtain ⟨p0, p1, p2, p3⟩ := hPV.part
  obtain ⟨v0, v1, v2⟩ := hPV.val
  go_wp2_with fail
  clear p0 p1 p2 p3 v0 v1 v2
  have hb : Below w4.heap.size w4 w4.drew := (Below.refl _ _).drew
  replace hr1 := hr1.belowAll hb
  replace hPV := hPV.step hb
  replace hB := hB.trans (hb.mono hB.size)
  clear hb
  refine wp_region_held_drew (S := PV w 51 59 c t true true t x s) (by kernel_rfl) (hPV) (fun hHeld => ?_)
  refine' wpAnyH_take (i := 0) (v := _) rfl (by kernel_rfl) (by kernel_rfl) (by kernel_rfl) (fun _ _ _ h => h) (Or.inl ⟨by kernel_rfl, ?ha0⟩) (by assumption) ?ra0
  case ha0 => intro W hW; go_simp; all_goals with_reducible rfl
  change wpAnyH _ _ _ _ _ _ _ (Act.put _ (some 30) _) _
  simp only [Act.put, List.setIfInBounds_toArray, List.set_cons_zero, List.set_cons_succ]
  refine' wpAnyH_take (i := 1) (v := _) rfl (by kernel_rfl) (by kernel_rfl) (by kernel_rfl) (fun _ _ _ h => h) (Or.inl ⟨by kernel_rfl, ?ha1⟩) (by assumption) ?ra1
  case ha1 => intro W hW; obtain ⟨c0, c1, c2, c3⟩ := PV.part hW; go_simp; all_goals with_reducible rfl
  change wpAnyH _ _ _ _ _ _ _ (Act.put _ (some 31) _) _
  simp only [Act.put, List.setIfInBounds_toArray, List.set_cons_zero, List.set_cons_succ]
  refine' wpAnyH_take (i := 4) (v := _) rfl (by kernel_rfl) (by kernel_rfl) (by kernel_rfl) (fun _ _ _ h => h) (Or.inl ⟨by kernel_rfl, ?ha4⟩) (by assumption) ?ra4
  case ha4 => intro W hW; go_simp; all_goals with_reducible rfl
  change wpAnyH _ _ _ _ _ _ _ (Act.put _ (some 34) _) _
  simp only [Act.put, List.setIfInBounds_toArray, List.set_cons_zero, List.set_cons_succ]
  refine' wpAnyH_take (i := 5) (v := _) rfl (by kernel_rfl) (by kernel_rfl) (by kernel_rfl) (fun _ _ _ h => h) (Or.inl ⟨by kernel_rfl, ?ha5⟩) (by assumption) ?ra5
  case ha5 => intro W hW; obtain ⟨c0, c1, c2⟩ := PV.val hW; go_simp; all_goals with_reducible rfl
  change wpAnyH _ _ _ _ _ _ _ (Act.put _ (some 35) _) _
  simp only [Act.put, List.setIfInBounds_toArray, List.set_cons_zero, List.set_cons_succ]
  refine wpAnyH_ready (rs := [2]) (by kernel_rfl) (by simp) ?_
  refine AllReadyH.cons rfl (fun KK hK => ?_) AllReadyH.nil
  go_simp
  refine (formOf_any t _ ht).mono ?_
  rintro e w5 ⟨rfl, hb⟩
  rw [hF, hG]
  have fp := form_put F G
  replace hr1 := hr1.belowAll hb
  replace hPV := hPV.step hb
  replace hB := hB.trans (hb.mono hB.size)
  clear hb
  go_wp2_with fail
  refine hK.out _ _ hPV (fun hHeld => ?_)
  clear hK KK
  try simp only [Act.put, List.setIfInBounds_toArray, List.set_cons_zero, List.set_cons_succ]
  refine' wpAnyH_take (i := 3) (v := _) rfl (by kernel_rfl) (by kernel_rfl) (by kernel_rfl) (fun _ _ _ h => h) (Or.inl ⟨by kernel_rfl, ?ha3⟩) (by assumption) ?ra3
  case ha3 => intro W hW; go_simp; all_goals with_reducible rfl
  change wpAnyH _ _ _ _ _ _ _ (Act.put _ (some 33) _) _
  simp only [Act.put, List.setIfInBounds_toArray, List.set_cons_zero, List.set_cons_succ]
  clear fp
  have hEF : ∀ (args : Array Value) (W : World), (callFunc F args).run Try.prog W = .ok (.enter F args) W := hE
  refine wpAnyH_ready (rs := [6]) (by kernel_rfl) (by simp) ?_
  refine AllReadyH.cons rfl (fun KK hK => ?_) AllReadyH.nil
  go_simp
  refine (hW _ _ (by omega) _ _ _ _ (hr1.view (Nat.le_refl _) (fun i hi => (List.forall_mem_append.2 ⟨HYF.out, fun y hy => by simp at hy; omega⟩ : ∀ y ∈ lof n f ++ [1], 0 ≤ y ∧ y ≤ 255) _ (getD_in (by rw [List.length_append, lof_len]; exact hi))))).mono ?_
  rintro e w6 ⟨g, cg, rfl, hg, hcg, hr, hb⟩
  replace hg := Nat.le_trans hB.size hg
  replace hr1 := hr1.belowAll hb
  replace hPV := hPV.step hb
  replace hB := hB.trans (hb.mono hB.size)
  clear hb
  go_wp2_with fail
  refine hK.out _ _ hPV (fun hHeld => ?_)
  clear hK KK
  try simp only [Act.put, List.setIfInBounds_toArray, List.set_cons_zero, List.set_cons_succ]
  clear hEF
  refine' wpAnyH_take (i := 7) (v := _) rfl (by kernel_rfl) (by kernel_rfl) (by kernel_rfl) (fun _ _ _ h => h) (Or.inl ⟨by kernel_rfl, ?ha7⟩) (by assumption) ?ra7
  case ha7 => intro W hW; go_simp; all_goals with_reducible rfl
  change wpAnyH _ _ _ _ _ _ _ (Act.put _ (some 7) _) _
  simp only [Act.put, List.setIfInBounds_toArray, List.set_cons_zero, List.set_cons_succ]
  refine wpAnyH_done (by kernel_rfl) ?_ _
  have hr9 : Row 5 w6 g (n + (1 :: valL t x s).length) (fun i => (lof n f ++ (1 :: valL t x s)).getD i 0) := by
    rw [one_list n f 1 _ _ rfl] at hr
    rw [show n + (1 :: valL t x s).length = n + 1 + (valL t x s).length by simp; omega]
    exact hr
  have hcg9 : n + (1 :: valL t x s).length ≤ cg := by simp; omega
  rw [show n + 1 + (valL t x s).length = n + (1 :: valL t x s).length by simp; omega]
  clear hr hcg hr1
  have hbyt : Hid (∀ y ∈ (1 :: valL t x s), 0 ≤ y ∧ y ≤ 255) := (fun y hy => by rcases List.mem_cons.1 hy with rfl | hy; exact ⟨by decide, by decide⟩; exact valL_byte t x s y hy)
  have hlen := (valL_len t x s).2
  obtain ⟨p0, p1, p2, p3⟩ := hPV.part
  obtain ⟨v0, v1, v2⟩ := hPV.val
  go_wp2_with fail
  clear p0 p1 p2 p3 v0 v1 v2
  refine (flip_impl g 0 (n + (1 :: valL t x s).length) cg _ (n : Int) _ (hr9.view hcg9 (fun i hi => (List.forall_mem_append.2 ⟨HYF.out, hbyt.out⟩ : ∀ y ∈ lof n f ++ (1 :: valL t x s), 0 ≤ y ∧ y ≤ 255) _ (getD_in (by rw [List.length_append, lof_len]; exact hi)))) (by first | omega | (simp; omega)) (by omega)).mono ?_
  rintro e w8 ⟨g8, c8, rfl, hg8, hc8, hr8, hb⟩
  have hg9 := Nat.le_trans hB.size hg8
  replace hPV := hPV.step hb
  replace hB := hB.trans (hb.mono hB.size)
  clear hb
  have hr7 := turn_row rfl (fun i _ => rfl) hr8
  clear hr8 hr9
  obtain ⟨p0, p1, p2, p3⟩ := hPV.part
  obtain ⟨v0, v1, v2⟩ := hPV.val
  go_wp2
  go_ret
  exact ⟨g8, c8, by simp, hg9, by simpa using hc8, hr7, hB⟩

set_option maxHeartbeats 8000000 in
theorem putPart_zf (b off n cap : Nat) (f : Nat → Int) (c t : Int) (x : Int) (s : ByteArray) (w : World) (hv : View w (some ⟨b, off, none⟩) n cap f) (hn : n ≤ 10000000) (hok : partOk c t = true) (hfit : fitsI t true 0 x s = true) :
    Calls Try.prog 45 #[.slice (some ⟨b, off, none⟩) n cap, .agg #[.int .i64 c, .int .i64 t, .bool true, .bool false], .agg #[.int .i64 0, .int .i64 x, .string s]] w (Puts n f w [(0 : Int)]) := by
  have hPV := PV.start w 51 59 c t true false 0 x s
  have hB := hPV.all
  have HYF : Hid (∀ y ∈ lof n f, 0 ≤ y ∧ y ≤ 255) := lof_byte hv.byte
  go_enter Try.func45, Try.ntmps45
  go_wp2_with fail
  refine (implPartOk_any c t true false _).mono ?_
  rw [hok]
  rintro e w1 ⟨rfl, hb⟩
  replace hPV := hPV.step hb
  replace hB := hB.trans (hb.mono hB.size)
  clear hb
  obtain ⟨p0, p1, p2, p3⟩ := hPV.part
  obtain ⟨v0, v1, v2⟩ := hPV.val
  go_wp2_with fail
  clear p0 p1 p2 p3 v0 v1 v2
  refine (implFits_any c t true false 0 x s _).mono ?_
  rw [hfit]
  rintro e w2 ⟨rfl, hb⟩
  replace hPV := hPV.step hb
  replace hB := hB.trans (hb.mono hB.size)
  clear hb
  obtain ⟨p0, p1, p2, p3⟩ := hPV.part
  obtain ⟨v0, v1, v2⟩ := hPV.val
  go_wp2_with fail
  clear p0 p1 p2 p3 v0 v1 v2
  refine (presence_any 0 x s _).mono ?_
  rintro e w3 ⟨rfl, hb⟩
  rw [if_pos rfl]
  replace hPV := hPV.step hb
  replace hB := hB.trans (hb.mono hB.size)
  clear hb
  have hz := Row.lit1 w3 5 0
  have hzv := hz.view (cap := 1) (Nat.le_refl _) (fun _ _ => ⟨by decide, by decide⟩)
  have hb : Below w3.heap.size w3 (w3.alloc (.cells #[.int .u8 0] 5)) := (Below.refl _ _).alloc (Nat.le_refl _) _
  obtain ⟨W3, hW3⟩ : ∃ W3, Hid (W3 = w3.alloc (.cells #[.int .u8 0] 5)) := ⟨_, rfl⟩
  rw [← hW3.out] at hzv hb
  go_wp2_with fail
  rw [← hW3.out]
  replace hPV := hPV.step hb
  replace hB := hB.trans (hb.mono hB.size)
  clear hb
  refine (putBytes_any b off n cap f (some ⟨w3.heap.size, 0, none⟩) 1 1 (fun _ => 0) _ (hv.below hB) hzv (fun h => by cases h) (by omega)).mono ?_
  rintro e w4 ⟨rfl, hown, hb⟩
  rw [lof_one] at hown
  have hs := hB.size
  obtain ⟨g1, c1, e, -, hc1, hr1⟩ := row_of_own' hown (by intro h; cases h)
  cases e
  replace hPV := hPV.step hb
  replace hB := hB.trans (hb.mono hB.size)
  clear hb
  clear hown hzv hz hW3
  obtain ⟨A, hA⟩ : ∃ A, Hid (A = W3.heap.size) := ⟨_, rfl⟩
  rw [← hA.out] at hr1 hs ⊢
  have hr9 : Row 5 w4 A (n + [(0 : Int)].length) (fun i => (lof n f ++ [0]).getD i 0) := hr1
  have hg := hs
  have hcg9 : n + [(0 : Int)].length ≤ n + 1 := hc1
  clear hr1
  have hbyt : Hid (∀ y ∈ [(0 : Int)], 0 ≤ y ∧ y ≤ 255) := (fun y hy => by simp at hy; omega)
  obtain ⟨p0, p1, p2, p3⟩ := hPV.part
  obtain ⟨v0, v1, v2⟩ := hPV.val
  go_wp2
  go_ret
  exact ⟨_, _, rfl, hg, hcg9, hr9, hB⟩

set_option maxHeartbeats 8000000 in
theorem putPart_zt (b off n cap : Nat) (f : Nat → Int) (c t : Int) (x : Int) (s : ByteArray) (w : World) (hv : View w (some ⟨b, off, none⟩) n cap f) (hn : n ≤ 10000000) (hok : partOk c t = true) (hfit : fitsI t true 0 x s = true) :
    Calls Try.prog 45 #[.slice (some ⟨b, off, none⟩) n cap, .agg #[.int .i64 c, .int .i64 t, .bool true, .bool true], .agg #[.int .i64 0, .int .i64 x, .string s]] w (Puts n f w ([(0 : Int)].map (fun y => 255 - y))) := by
  have hPV := PV.start w 51 59 c t true true 0 x s
  have hB := hPV.all
  have HYF : Hid (∀ y ∈ lof n f, 0 ≤ y ∧ y ≤ 255) := lof_byte hv.byte
  go_enter Try.func45, Try.ntmps45
  go_wp2_with fail
  refine (implPartOk_any c t true true _).mono ?_
  rw [hok]
  rintro e w1 ⟨rfl, hb⟩
  replace hPV := hPV.step hb
  replace hB := hB.trans (hb.mono hB.size)
  clear hb
  obtain ⟨p0, p1, p2, p3⟩ := hPV.part
  obtain ⟨v0, v1, v2⟩ := hPV.val
  go_wp2_with fail
  clear p0 p1 p2 p3 v0 v1 v2
  refine (implFits_any c t true true 0 x s _).mono ?_
  rw [hfit]
  rintro e w2 ⟨rfl, hb⟩
  replace hPV := hPV.step hb
  replace hB := hB.trans (hb.mono hB.size)
  clear hb
  obtain ⟨p0, p1, p2, p3⟩ := hPV.part
  obtain ⟨v0, v1, v2⟩ := hPV.val
  go_wp2_with fail
  clear p0 p1 p2 p3 v0 v1 v2
  refine (presence_any 0 x s _).mono ?_
  rintro e w3 ⟨rfl, hb⟩
  rw [if_pos rfl]
  replace hPV := hPV.step hb
  replace hB := hB.trans (hb.mono hB.size)
  clear hb
  have hz := Row.lit1 w3 5 0
  have hzv := hz.view (cap := 1) (Nat.le_refl _) (fun _ _ => ⟨by decide, by decide⟩)
  have hb : Below w3.heap.size w3 (w3.alloc (.cells #[.int .u8 0] 5)) := (Below.refl _ _).alloc (Nat.le_refl _) _
  obtain ⟨W3, hW3⟩ : ∃ W3, Hid (W3 = w3.alloc (.cells #[.int .u8 0] 5)) := ⟨_, rfl⟩
  rw [← hW3.out] at hzv hb
  go_wp2_with fail
  rw [← hW3.out]
  replace hPV := hPV.step hb
  replace hB := hB.trans (hb.mono hB.size)
  clear hb
  refine (putBytes_any b off n cap f (some ⟨w3.heap.size, 0, none⟩) 1 1 (fun _ => 0) _ (hv.below hB) hzv (fun h => by cases h) (by omega)).mono ?_
  rintro e w4 ⟨rfl, hown, hb⟩
  rw [lof_one] at hown
  have hs := hB.size
  obtain ⟨g1, c1, e, -, hc1, hr1⟩ := row_of_own' hown (by intro h; cases h)
  cases e
  replace hPV := hPV.step hb
  replace hB := hB.trans (hb.mono hB.size)
  clear hb
  clear hown hzv hz hW3
  obtain ⟨A, hA⟩ : ∃ A, Hid (A = W3.heap.size) := ⟨_, rfl⟩
  rw [← hA.out] at hr1 hs ⊢
  have hr9 : Row 5 w4 A (n + [(0 : Int)].length) (fun i => (lof n f ++ [0]).getD i 0) := hr1
  have hg := hs
  have hcg9 : n + [(0 : Int)].length ≤ n + 1 := hc1
  clear hr1
  have hbyt : Hid (∀ y ∈ [(0 : Int)], 0 ≤ y ∧ y ≤ 255) := (fun y hy => by simp at hy; omega)
  obtain ⟨p0, p1, p2, p3⟩ := hPV.part
  obtain ⟨v0, v1, v2⟩ := hPV.val
  go_wp2_with fail
  clear p0 p1 p2 p3 v0 v1 v2
  refine (flip_impl A 0 (n + [(0 : Int)].length) (n + 1) _ (n : Int) _ (hr9.view hcg9 (fun i hi => (List.forall_mem_append.2 ⟨HYF.out, hbyt.out⟩ : ∀ y ∈ lof n f ++ [(0 : Int)], 0 ≤ y ∧ y ≤ 255) _ (getD_in (by rw [List.length_append, lof_len]; exact hi)))) (by first | omega | (simp; omega)) (by omega)).mono ?_
  rintro e w8 ⟨g8, c8, rfl, hg8, hc8, hr8, hb⟩
  have hg9 := Nat.le_trans hB.size hg8
  replace hPV := hPV.step hb
  replace hB := hB.trans (hb.mono hB.size)
  clear hb
  have hr7 := turn_row rfl (fun i _ => rfl) hr8
  clear hr8 hr9
  obtain ⟨p0, p1, p2, p3⟩ := hPV.part
  obtain ⟨v0, v1, v2⟩ := hPV.val
  go_wp2
  go_ret
  exact ⟨g8, c8, by simp, hg9, by simpa using hc8, hr7, hB⟩


theorem putPart_impl (b off n cap : Nat) (f : Nat → Int) (c t : Int) (nul d : Bool) (k x : Int) (s : ByteArray) (w : World) (hv : View w (some ⟨b, off, none⟩) n cap f) (hn : n ≤ 10000000) :
    Calls Try.prog 45 #[.slice (some ⟨b, off, none⟩) n cap, .agg #[.int .i64 c, .int .i64 t, .bool nul, .bool d], .agg #[.int .i64 k, .int .i64 x, .string s]] w (Puts n f w (putPL c t nul d k x s)) := by
  cases hok : partOk c t with
  | false =>
    have e : putPL c t nul d k x s = [] := by unfold putPL; rw [hok]; rfl
    rw [e]
    exact putPart_no b off n cap f c t nul d k x s w hv hn hok
  | true =>
    have ht : 1 ≤ t ∧ t ≤ 4 := by unfold partOk at hok; simp at hok; omega
    cases hfit : fitsI t nul k x s with
    | false =>
      have e : putPL c t nul d k x s = [] := by unfold putPL; rw [← fitsI_ok ht.1, hok, hfit]; rfl
      rw [e]
      exact putPart_not b off n cap f c t nul d k x s w hv hn hok hfit
    | true =>
      have e : putPL c t nul d k x s = turnL d (partL nul k x s) := by unfold putPL; rw [← fitsI_ok ht.1, hok, hfit]; rfl
      rw [e]
      have hf := hfit
      unfold fitsI at hf
      simp only [Bool.and_eq_true, Bool.or_eq_true, decide_eq_true_eq] at hf
      by_cases k0 : k = 0
      · subst k0
        obtain rfl : nul = true := by rcases hf.2 with h | h; omega; exact h.2
        have e2 : partL true 0 x s = [0] := rfl
        rw [e2]
        cases d with
        | false => exact putPart_zf b off n cap f c t x s w hv hn hok hfit
        | true => exact putPart_zt b off n cap f c t x s w hv hn hok hfit
      · obtain rfl : k = t := by rcases hf.2 with h | h; exact h; exact absurd h.1 k0
        obtain ⟨F, G, hF, hG, hE, hW⟩ := formPut ht hf.1
        have hs := okF_few hf.1
        cases nul with
        | false =>
          have e2 : partL false k x s = valL k x s := by unfold partL; rw [if_neg k0]; rfl
          rw [e2]
          cases d with
          | false => exact putPart_ff b off n cap f c k x s w hv hn hok hfit hs ht F G hF hG hE hW
          | true => exact putPart_ft b off n cap f c k x s w hv hn hok hfit hs ht F G hF hG hE hW
        | true =>
          have e2 : partL true k x s = 1 :: valL k x s := by unfold partL; rw [if_neg k0]; rfl
          rw [e2]
          cases d with
          | false => exact putPart_tf b off n cap f c k x s w hv hn hok hfit hs ht F G hF hG hE hW
          | true => exact putPart_tt b off n cap f c k x s w hv hn hok hfit hs ht F G hF hG hE hW
end Go.Proofs.Ytclegljalndaear

/-
  The program's EncodeKey: the values are put one behind the other.
-/
namespace Go.Proofs.Ytclegljalndaear
open Go.RowKit
set_option maxRecDepth 4000

attribute [local go_sem] Oper.semAt_some

/-- Where the plan is right the program's answer is the plain one. -/
theorem fitsAllI_ok {n m : Nat} {fc ft : Nat → Int} {fu : Nat → Bool} {fk fn : Nat → Int} {fs : Nat → ByteArray} (h : planOk n fc ft = true) : fitsAllI n m ft fu fk fn fs = fitsAll n m ft fu fk fn fs := by
  unfold fitsAllI fitsAll
  by_cases hm : m ≤ n
  · rw [decide_eq_true hm, Bool.true_and, Bool.true_and]
    have hp := (planOk_iff.1 h).1
    have e : ∀ i, i < m → fitsI (ft i) (fu i) (fk i) (fn i) (fs i) = fitsP (ft i) (fu i) (fk i) (fn i) (fs i) := fun i hi => by
      have := hp i (by omega)
      refine fitsI_ok ?_
      unfold partOk at this; simp at this; omega
    rw [Bool.eq_iff_iff, List.all_eq_true, List.all_eq_true]
    constructor
    · intro h' i hi; rw [← e i (List.mem_range.1 hi)]; exact h' i hi
    · intro h' i hi; rw [e i (List.mem_range.1 hi)]; exact h' i hi
  · rw [decide_eq_false hm, Bool.false_and, Bool.false_and]

/-- The bytes of the values that have come. -/
def keyP {K : Nat} (g : Nat → List Int) (pre : List (Fin K)) : List Int := (pre.map (fun x => g x.1)).flatten
theorem keyP_snoc {K : Nat} (g : Nat → List Int) (pre : List (Fin K)) (x : Fin K) : keyP g (pre ++ [x]) = keyP g pre ++ g x.1 := by simp [keyP]
theorem keyP_take (g : Nat → List Int) (K : Nat) : ∀ j, j ≤ K → keyP g ((List.finRange K).take j) = keyT g j
  | 0, _ => by simp [keyP, keyT]
  | j + 1, h => by rw [fin_take (by omega), keyP_snoc, keyP_take g K j (by omega), keyT]
theorem keyP_all (g : Nat → List Int) (K : Nat) : keyP g (List.finRange K) = keyT g K := by
  rw [← keyP_take g K K (Nat.le_refl _), List.take_of_length_le (by simp)]
theorem keyP_len {K : Nat} {g : Nat → List Int} (h : ∀ i, i < K → (g i).length ≤ 69) : ∀ pre : List (Fin K), (keyP g pre).length ≤ pre.length * 69
  | [] => by simp [keyP]
  | x :: pre => by
    have h1 := keyP_len h pre
    have h2 := h x.1 x.2
    have e : keyP g (x :: pre) = g x.1 ++ keyP g pre := by simp [keyP]
    rw [e, List.length_append, List.length_cons]
    omega
theorem keyP_byte {K : Nat} {g : Nat → List Int} (h : ∀ i, ∀ y ∈ g i, 0 ≤ y ∧ y ≤ 255) (pre : List (Fin K)) : ∀ y ∈ keyP g pre, 0 ≤ y ∧ y ≤ 255 := by
  intro y hy
  unfold keyP at hy
  obtain ⟨l, hl, hy⟩ := List.mem_flatten.1 hy
  obtain ⟨x, _, rfl⟩ := List.mem_map.1 hl
  exact h _ y hy

theorem EncTo.belowAll {w W W' : World} {g cg : Nat} {L : List Int} (h : EncTo w W g cg L) (hb : Below W.heap.size W W') : EncTo w W' g cg L := ⟨h.row.belowAll hb, h.new, h.le, h.below.trans (hb.mono h.below.size)⟩
theorem EncTo.ownK {w W W' : World} {g cg : Nat} {L : List Int} {row : Option Nat} (h : EncTo w W g cg L) (hg : W.grownBy W' row) (hr : ∀ r, row = some r → w.heap.size ≤ r ∧ ∃ o : Obj, W.heap[r]? = some o ∧ o.isCells = false) : EncTo w W' g cg L := by
  refine ⟨?_, h.new, h.le, h.below.grown hg h.below.size (fun k e => (hr k e).1)⟩
  obtain ⟨c, hb, _⟩ := h.row
  exact h.row.of_block (grownBy_keeps_cells hg (fun r e => (hr r e).2) hb rfl)

set_option linter.unusedSimpArgs false in
set_option maxRecDepth 100000 in
set_option maxHeartbeats 4000000 in
theorem implEncodeKey_any (a : Option Addr) (n cap : Nat) (fc ft : Nat → Int) (fu fd : Nat → Bool) (a2 : Option Addr) (m c2 : Nat) (fk fn : Nat → Int) (fs : Nat → ByteArray) (w : World) (hp : PView w a n cap fc ft fu fd) (hq : VView w a2 m c2 fk fn fs) (hn : n ≤ 281474976710656) (hm : m ≤ 281474976710656) :
    Calls Try.prog 20 #[.slice a n cap, .slice a2 m c2] w fun e w' => ∃ g cg, e = .returned (.slice (some ⟨g, 0, none⟩) (keyL n fc ft fu fd m fk fn fs).length cg) ∧ EncTo w w' g cg (keyL n fc ft fu fd m fk fn fs) := by
  refine (callsIn_wide (n := 6)).1 ?_
  refine callsIn_of_wp_marks Try.func20 rfl trivial ?_ rfl
  simp only [Try.ntmps20, List.size_toArray, List.length_cons, List.length_nil, Nat.reduceAdd, Nat.reduceSub, Array.replicate_succ, Array.replicate_zero, List.push_toArray, List.append_toArray, List.nil_append, List.cons_append]
  have hPl := fun W (hb : Below w.heap.size w W) => implPlanOk_any a n cap fc ft fu fd W (hp.below hb)
  have hFi := fun W (hb : Below w.heap.size w W) => implFitsAll_any a n cap fc ft fu fd a2 m c2 fk fn fs W (hp.below hb) (hq.below hb) hn hm
  have hb1 : Below w.heap.size w ((w.alloc (.cells #[] 5)).alloc (.cells #[.slice (some ⟨w.heap.size, 0, none⟩) 0 0] 36)) := ((Below.refl _ _).alloc (Nat.le_refl _) _).alloc (by simp) _
  have bK := Boxed.new (w.alloc (.cells #[] 5)) 36 (.slice (some ⟨w.heap.size, 0, none⟩) 0 0)
  have hR := (Row.none w 5 (fun i => ([] : List Int).getD i 0)).belowAll ((Below.refl _ _).alloc (Nat.le_refl _) (.cells #[.slice (some ⟨w.heap.size, 0, none⟩) 0 0] 36))
  simp only [World.size_alloc] at bK
  have hsz : ((w.alloc (.cells #[] 5)).alloc (.cells #[.slice (some ⟨w.heap.size, 0, none⟩) 0 0] 36)).heap.size = w.heap.size + 2 := by simp
  cases hpk : planOk n fc ft with
  | false =>
    rw [hpk] at hPl
    have HF : Hid (keyL n fc ft fu fd m fk fn fs = []) := by show _ = _; unfold keyL; rw [hpk]; rfl
    gi_wp2_with (refine ⟨trivial, ?_⟩; gi_at_call 12; refine (callsIn_wide.2 (hPl _ hb1)).mono ?_; rintro e w2 ⟨rfl, hB2⟩; have cK2 := (Boxed.below' bK hB2).cell)
    refine ⟨trivial, ?_⟩
    gi_wp2
    refine ⟨_, results_tmp rfl _ _ _, w.heap.size, 0, by rw [HF.out]; rfl, ?_⟩
    rw [HF.out]
    exact ⟨hR.belowAll hB2, Nat.le_refl _, Nat.le_refl _, hb1.trans (hB2.mono (by omega))⟩
  | true =>
    rw [hpk] at hPl
    cases hfi : fitsAllI n m ft fu fk fn fs with
    | false =>
      rw [hfi] at hFi
      gi_wp2_with (first | (refine ⟨trivial, ?_⟩; gi_at_call 12; refine (callsIn_wide.2 (hPl _ hb1)).mono ?_; rintro e w2 ⟨rfl, hB2⟩; have hb2 := hb1.trans (hB2.mono (by omega)); have bK2 := Boxed.below' bK hB2) | (refine ⟨trivial, ?_⟩; gi_at_call 17; refine (callsIn_wide.2 (hFi _ hb2)).mono ?_; rintro e w3 ⟨rfl, hB3⟩; have cK3 := (Boxed.below' bK2 hB3).cell))
      have HF : Hid (keyL n fc ft fu fd m fk fn fs = []) := by
        show _ = _
        unfold keyL
        rw [← fitsAllI_ok hpk, hfi, Bool.and_false]; rfl
      refine ⟨_, results_tmp rfl _ _ _, w.heap.size, 0, by rw [HF.out]; rfl, ?_⟩
      rw [HF.out]
      exact ⟨(hR.belowAll hB2).belowAll hB3, Nat.le_refl _, Nat.le_refl _, hb2.trans (hB3.mono hb2.size)⟩
    | true =>
      rw [hfi] at hFi
      gi_wp2_with (first | (refine ⟨trivial, ?_⟩; gi_at_call 12; refine (callsIn_wide.2 (hPl _ hb1)).mono ?_; rintro e w2 ⟨rfl, hB2⟩; have hb2 := hb1.trans (hB2.mono (by omega)); have bK2 := Boxed.below' bK hB2) | (refine ⟨trivial, ?_⟩; gi_at_call 17; refine (callsIn_wide.2 (hFi _ hb2)).mono ?_; rintro e w3 ⟨rfl, hB3⟩) | (refine ⟨trivial, ?_⟩; gi_at_call 41; refine (valsByPart_in _ _ _ _ _ _ _ _).mono ?_; rintro e w' ⟨rfl, rfl⟩))
      have hfa := hfi
      rw [fitsAllI_ok hpk] at hfa
      obtain ⟨hmn, hfit⟩ := fitsAll_iff.1 hfa
      obtain ⟨hpo, hn6⟩ := planOk_iff.1 hpk
      have HF : Hid (keyL n fc ft fu fd m fk fn fs = keyT (onePL fc ft fu fd fk fn fs) m) := by
        show _ = _
        unfold keyL
        rw [hpk, hfa]; rfl
      have bK3 := Boxed.below' bK2 hB3
      have hR3 := (hR.belowAll hB2).belowAll hB3
      have hb3 := hb2.trans (hB3.mono hb2.size)
      have hs3 : w.heap.size + 2 ≤ w3.heap.size := by have h1 := hB2.size; have h2 := hB3.size; omega
      clear hR bK2 bK hB3 hB2 hb1 hsz hPl hFi hfi hpk hb2
      have hb4 : Below w3.heap.size w3 ((w3.alloc (.cells #[.slice a n cap] 25)).alloc (.cells #[.slice a2 m c2] 32)) := ((Below.refl _ _).alloc (Nat.le_refl _) _).alloc (by simp) _
      have bL := (Boxed.new w3 25 (.slice a n cap)).alloc (.cells #[.slice a2 m c2] 32)
      have bV := Boxed.new (w3.alloc (.cells #[.slice a n cap] 25)) 32 (.slice a2 m c2)
      have hsz : ((w3.alloc (.cells #[.slice a n cap] 25)).alloc (.cells #[.slice a2 m c2] 32)).heap.size = w3.heap.size + 2 := by simp
      simp only [World.size_alloc] at bV ⊢
      obtain ⟨W0, hW0⟩ : ∃ W0, (w3.alloc (.cells #[.slice a n cap] 25)).alloc (.cells #[.slice a2 m c2] 32) = W0 := ⟨_, rfl⟩
      rw [hW0] at bL bV hb4 hsz ⊢
      clear hW0
      have bK0 := Boxed.below' bK3 hb4
      have hR0 := hR3.belowAll hb4
      have hB0 : Below w.heap.size w W0 := hb3.trans (hb4.mono (by omega))
      obtain ⟨Bl, hBl⟩ : ∃ Bl, w3.heap.size = Bl := ⟨_, rfl⟩
      rw [hBl] at bL bV hs3 hsz ⊢
      clear bK3 hR3 hb3 hb4 hBl
      refine wpIn_rangeFunc_ownH rfl (by decide) (gf := 57) (lb := #[.pointer (some ⟨Bl, 0, none⟩), .pointer (some ⟨Bl + 1, 0, none⟩)]) rfl trivial (enters_of Try.func57 (by kernel_rfl) rfl)
        (byPart_stops (6 - 1) (by decide) Bl (Bl + 1) a n cap fc ft fu fd a2 m c2 fk fn fs w hp hq hn hm W0 hB0 bL bV) (fun h k => KpB.trans h k) (KpB.put (by omega) (by omega) (by omega)) (Below.refl _ _) (fun _ => rfl)
        (fun pre W => (∃ g cg, Boxed W (w.heap.size + 1) 36 (.slice (some ⟨g, 0, none⟩) (keyP (onePL fc ft fu fd fk fn fs) pre).length cg) ∧ EncTo w W g cg (keyP (onePL fc ft fu fd fk fn fs) pre)) ∧ KpB w.heap.size Bl (Bl + 1) W0 W)
        (fun c pre W => False)
        (OwnFrom.and (fun s X Y row hs hg hr => by obtain ⟨g, cg, h1, h2⟩ := hs; exact ⟨g, cg, Boxed.ownK h1 hg (fun r e => (hr r e).2), h2.ownK hg (fun r e => ⟨by have := (hr r e).1; omega, (hr r e).2⟩)⟩) (ownFrom_kpB (by omega) (by omega) (by omega) (Nat.le_refl _)))
        (fun c s X Y row hs hg hr => hs)
        ⟨⟨w.heap.size, 0, bK0, ⟨hR0, Nat.le_refl _, Nat.le_refl _, hB0⟩⟩, KpB.refl _ _ _ _⟩
        (fun x a' W => ∃ Bp Bq, (PBox W Bp (fc x.1) (ft x.1) (fu x.1) (fd x.1) ∧ Box W Bq (fk x.1) (fn x.1) (fs x.1)) ∧ a' = { tmps := #[.slice a n cap, .slice a2 m c2, undef, undef, .slice none 0 0, .pointer (some ⟨w.heap.size + 1, 0, none⟩), .pointer (some ⟨Bp, 0, none⟩), .pointer (some ⟨Bq, 0, none⟩), .slice (some ⟨w.heap.size, 0, none⟩) 0 0, .slice a n cap, .bool true, .bool false, .bool false, .slice a n cap, .slice a2 m c2, .bool true, .bool false, .bool false, undef, .slice a n cap, .slice a2 m c2, .func (.func 57) #[] #[.pointer (some ⟨Bl, 0, none⟩), .pointer (some ⟨Bl + 1, 0, none⟩)], encP fc ft fu fd x.1, encV fk fn fs x.1, undef, undef, undef, undef, undef], defers := [] })
        (fun x a' _ X Y row hs hg hr => by obtain ⟨Bp, Bq, ⟨h1, h2⟩, h3⟩ := hs; exact ⟨Bp, Bq, ⟨h1.ownK hg (fun r e => (hr r e).2), h2.ownK hg (fun r e => (hr r e).2)⟩, h3⟩)
        ?assign ?body ?done ?stop
      case assign =>
        rintro l pre x W K ⟨⟨g, cg, bK1, hE⟩, hk⟩ hK
        gi_wp2
        have hb1 : Below W.heap.size W ((W.alloc (.cells #[.int .i64 (fc x.1), .int .i64 (ft x.1), .bool (fu x.1), .bool (fd x.1)] 51)).alloc (.cells #[.int .i64 (fk x.1), .int .i64 (fn x.1), .string (fs x.1)] 59)) := ((Below.refl _ _).alloc (Nat.le_refl _) _).alloc (by simp) _
        have hs1 := hk.below.size
        have hkk := KpB.ofBelow (n₀ := w.heap.size) (Bl := Bl) (Bv := Bl + 1) hb1 (by omega) (by omega) (by omega)
        refine hK _ _ (KeepsFrom.ofBelow hb1) hkk ⟨⟨g, cg, Boxed.below' bK1 hb1, hE.belowAll hb1⟩, hk.trans hkk⟩ ⟨W.heap.size, W.heap.size + 1, ⟨(PBox.new W _ _ _ _).below ((Below.refl _ _).alloc (Nat.le_refl _) _), by have := Box.new (W.alloc (.cells #[.int .i64 (fc x.1), .int .i64 (ft x.1), .bool (fu x.1), .bool (fd x.1)] 51)) (fk x.1) (fn x.1) (fs x.1); rw [World.size_alloc] at this; exact this⟩, ?_⟩
        simp
      case body =>
        rintro l pre x a' W hl ⟨r, hr⟩ ⟨⟨g, cg, bK1, hE⟩, hk⟩ ⟨Bp, Bq, ⟨hP, hQ⟩, rfl⟩ hlt
        obtain ⟨p0, p1, p2, p3⟩ := hP.cells
        obtain ⟨q0, q1, q2⟩ := hQ.cells
        have hs1 := hk.below.size
        have hLn : (keyP (onePL fc ft fu fd fk fn fs) pre).length ≤ 10000000 := by
          have h1 := keyP_len (K := min n m) (g := onePL fc ft fu fd fk fn fs) (fun i hi => onePL_len fc fd (hfit i (by omega))) pre
          omega
        have hLb := keyP_byte (g := onePL fc ft fu fd fk fn fs) (fun i => putPL_byte _ _ _ _ _ _ _) pre
        have HS := keyP_snoc (onePL fc ft fu fd fk fn fs) pre x
        obtain ⟨L, hL⟩ : ∃ L, keyP (onePL fc ft fu fd fk fn fs) pre = L := ⟨_, rfl⟩
        rw [hL] at bK1 hE hLn hLb HS
        clear hL
        have hvw : View W (some ⟨g, 0, none⟩) L.length cg (fun i => L.getD i 0) := hE.row.view hE.le (fun i hi => by
          have e : L.getD i 0 = L[i] := by simp [List.getD, List.getElem?_eq_getElem hi]
          show 0 ≤ L.getD i 0 ∧ L.getD i 0 ≤ 255
          rw [e]; exact hLb _ (List.getElem_mem hi))
        have hC := putPart_impl g 0 L.length cg (fun i => L.getD i 0) (fc x.1) (ft x.1) (fu x.1) (fd x.1) (fk x.1) (fn x.1) (fs x.1) W hvw hLn
        have cK := bK1.cell
        have hBK : w.heap.size + 1 < W.heap.size := bK1.lt
        obtain ⟨l2, hl2⟩ : ∃ l2, onePL fc ft fu fd fk fn fs x.1 = l2 := ⟨_, rfl⟩
        have hl2' : putPL (fc x.1) (ft x.1) (fu x.1) (fd x.1) (fk x.1) (fn x.1) (fs x.1) = l2 := hl2
        rw [hl2'] at hC
        rw [hl2] at HS
        have HH : Hid (keyP (onePL fc ft fu fd fk fn fs) (pre ++ [x]) = L ++ l2) := HS
        clear hP hQ hr HS hl2 hl2' hLb hvw
        gi_wp2_with (refine ⟨trivial, ?_⟩; gi_at_call 45; refine (CallsIn.inRound l (callsIn_wide.2 hC)).mono ?_; rintro e w2 ⟨g2, cg2, rfl, hg2, hc2, hr2, hB2⟩; have cK2 := (Boxed.below' bK1 hB2).cell; have fK2 := (Boxed.below' bK1 hB2).frozen)
        have bK2 := Boxed.below' bK1 hB2
        have hs2 := hB2.size
        have hkk : KpB w.heap.size Bl (Bl + 1) W (w2.setCell ⟨w.heap.size + 1, 0, none⟩ (.slice (some ⟨g2, 0, none⟩) (L.length + l2.length) cg2)) :=
          (KpB.ofBelow hB2 (by omega) (by omega) (by omega)).trans (KpB.ofGrown (grownBy_setCell' w2 (w.heap.size + 1) _) (by omega) (by omega) (by omega) (fun k e => by cases e; omega))
        have hr3 := hr2.of_block (w' := w2.setCell ⟨w.heap.size + 1, 0, none⟩ (.slice (some ⟨g2, 0, none⟩) (L.length + l2.length) cg2)) (Below.heap_setCell _ _ _ _ (by show g2 ≠ w.heap.size + 1; omega))
        rw [lof_self] at hr3
        refine ⟨(KeepsFrom.ofBelow hB2).trans ((KeepsOthers.setCell _ _ _).from _), hkk, ⟨g2, cg2, ?_, ?_⟩, hk.trans hkk⟩
        · rw [HH.out, List.length_append]; exact Boxed.set _ bK2
        · rw [HH.out]
          refine ⟨by rw [List.length_append]; exact hr3, by omega, by rw [List.length_append]; exact hc2, ?_⟩
          exact hE.below.trans hkk.below
      case done =>
        rintro D ys W hD rfl ⟨⟨g, cg, bK1, hE⟩, hk⟩ hK
        rw [keyP_all, Nat.min_eq_right hmn] at bK1 hE
        have cK := bK1.cell
        have hk0 := hB0.trans hk.below
        clear hk
        gi_wp2
        refine ⟨by simp, .inl ⟨_, _, rfl, run_takeDeferred hK, ?_⟩⟩
        refine ⟨_, results_tmp rfl _ _ _, g, cg, by rw [HF.out]; rfl, ?_⟩
        rw [HF.out]
        exact hE.ownK (grownBy_putObj' W D _) (fun r e => by cases e; exact ⟨by omega, _, hK, rfl⟩)
      case stop =>
        rintro D c pre W hD hpre h hK
        exact h.elim
end Go.Proofs.Ytclegljalndaear

