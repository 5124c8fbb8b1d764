/-
  Together: PagePut, OwnLo, PageOwn
-/
import Derived.Test.YtdhfbblameiloaaND26
import Derived.Test.YtdhfbblameiloaaND27
import Derived.Test.YtdhfbblameiloaaND11
import Derived.Deep.RegionHeld3
import Derived.Test.YtdhfbblameiloaaND1
import Derived.Test.YtdhfbblameiloaaProg
/-
  The program's PutPage and the model's: a page in memory of its own.
-/
namespace Go.Proofs.Ytdhfbblameiloaa
open Go.RowKit
set_option maxRecDepth 4000

theorem clamp_id {x : Int} (h0 : 0 ≤ x) (h1 : x ≤ 1000000) : clampN x = x := by unfold clampN; rw [if_neg (by omega), if_neg (by omega)]
theorem str_size (l : List Int) : (strOfNums l).size = l.length := by
  have := strOfNums_data l
  show (strOfNums l).data.size = _
  rw [← Array.length_toList, this, List.length_map]
/-- What is made in three steps is a page. -/
theorem page_steps {k : Int} {s : ByteArray} {N1 N2 : Nat} {F1 F2 : Nat → Int} (hk : k = 1 ∨ k = 2) (hs : s.size ≤ 240) (e1 : N1 = (groups (clampN k)).length) (h1 : F1 = fun i => (groups (clampN k)).getD i 0) (e2 : N2 = N1 + (groups (clampN s.size)).length + s.size) (h2 : F2 = fun i => (textL N1 F1 s).getD i 0) :
    lof N2 F2 ++ sumL (crc N2 F2) = pageF k s ∧ N2 + 4 = (pageF k s).length := by
  have c1 : clampN k = k := clamp_id (by omega) (by omega)
  have c2 : clampN (s.size : Int) = s.size := clamp_id (by omega) (by omega)
  rw [c1] at e1 h1
  rw [c2] at e2
  have hl : lof N1 F1 = groups k := by rw [e1, h1]; exact lof_self _
  have ht : textL N1 F1 s = innL k s := by
    unfold textL innL txtL
    rw [hl, c2, List.append_assoc]
  rw [ht] at h2
  have hn : N2 = (innL k s).length := by rw [innL_len, e2, e1]
  have hl2 : lof N2 F2 = innL k s := by rw [hn, h2]; exact lof_self _
  unfold pageF
  rw [if_pos ⟨hk, hs⟩, pageL_len, hl2, hn, h2]
  exact ⟨rfl, rfl⟩

set_option maxHeartbeats 1000000 in
theorem isKind_any (k : Int) (w : World) : Calls Try.prog 105 #[.int .i64 k] w fun e w' => e = .returned (.bool (decide (k = 1) || decide (k = 2))) ∧ w = w' := by
  go_enter Try.func105, Try.ntmps105
  by_cases h1 : k = 1
  · subst h1
    go_wp2
    go_ret
    exact ⟨rfl, rfl⟩
  · have e1 : (k == 1) = false := beq_eq_false_iff_ne.2 h1
    by_cases h2 : k = 2
    · subst h2
      go_wp2
      go_ret
      exact ⟨rfl, rfl⟩
    · have e2 : (k == 2) = false := beq_eq_false_iff_ne.2 h2
      go_wp2
      go_ret
      exact ⟨by simp [h1, h2], rfl⟩

/-- What PutPage comes to. -/
def PageTo (w : World) (l : List Int) (e : Ending) (w' : World) : Prop := ∃ g c, e = .returned (.slice (some ⟨g, 0, none⟩) l.length c) ∧ w.heap.size ≤ g ∧ l.length ≤ c ∧ Row 5 w' g l.length (fun i => l.getD i 0) ∧ Below w.heap.size w w'

set_option maxHeartbeats 1000000 in
theorem putPage_impl (b off n cap : Nat) (f : Nat → Int) (k : Int) (w : World) (hv : View w (some ⟨b, off, none⟩) n cap f) (hn : n ≤ 1048576) (hk0 : -9223372036854775808 ≤ k) (hk1 : k ≤ 9223372036854775807) :
    Calls Try.prog 44 #[.int .i64 k, .slice (some ⟨b, off, none⟩) n cap] w (PageTo w (pageF k (strOfNums (lof n f)))) := by
  have hsz : (strOfNums (lof n f)).size = n := by rw [str_size, lof_len]
  have HQ : Hid (∀ W, Below w.heap.size w W → (convert 27 9 (.slice (some ⟨b, off, none⟩) n cap)).run Try.prog W = .ok (.string (strOfNums (lof n f))) W) := fun W hb => conv_view (hv.below hb)
  obtain ⟨s, hs⟩ : ∃ s, Hid (strOfNums (lof n f) = s) := ⟨_, rfl⟩
  rw [hs.out] at hsz HQ ⊢
  by_cases hk : k = 1 ∨ k = 2
  case neg =>
    have HF : Hid (pageF k s = []) := by show _ = _; unfold pageF; rw [if_neg (fun h => hk h.1)]
    have hV := fun W => isKind_any k W
    have hkk : (decide (k = 1) || decide (k = 2)) = false := by simpa using hk
    rw [hkk] at hV
    go_enter Try.func44, Try.ntmps44
    go_wp2_with fail
    refine (hV _).mono ?_
    rintro e _ ⟨rfl, rfl⟩
    go_wp2
    go_ret
    rw [HF.out]
    exact ⟨_, 0, rfl, Nat.le_refl _, Nat.le_refl _, noRow _ _ _, (Below.refl _ _).alloc (Nat.le_refl _) _⟩
  have hV := fun W => isKind_any k W
  have hkk : (decide (k = 1) || decide (k = 2)) = true := by simpa using hk
  rw [hkk] at hV
  by_cases hl : n ≤ 240
  case neg =>
    have HF : Hid (pageF k s = []) := by show _ = _; unfold pageF; rw [if_neg (fun h => hl (by have := h.2; omega))]
    have hz : (240 : Int) < n := by omega
    go_enter Try.func44, Try.ntmps44
    go_wp2_with fail
    refine (hV _).mono ?_
    rintro e _ ⟨rfl, rfl⟩
    go_wp2
    go_ret
    rw [HF.out]
    exact ⟨_, 0, rfl, Nat.le_refl _, Nat.le_refl _, noRow _ _ _, (Below.refl _ _).alloc (Nat.le_refl _) _⟩
  have hz : ¬ (240 : Int) < n := by omega
  have hq0 := HQ.out w.drew (Below.refl _ _).drew
  obtain ⟨N1, hN1⟩ : ∃ N1, Hid (N1 = (groups (clampN k)).length) := ⟨_, rfl⟩
  obtain ⟨F1, hF1⟩ : ∃ F1 : Nat → Int, Hid (F1 = fun i => (groups (clampN k)).getD i 0) := ⟨_, rfl⟩
  obtain ⟨N2, hN2⟩ : ∃ N2, Hid (N2 = N1 + (groups (clampN s.size)).length + s.size) := ⟨_, rfl⟩
  obtain ⟨F2, hF2⟩ : ∃ F2 : Nat → Int, Hid (F2 = fun i => (textL N1 F1 s).getD i 0) := ⟨_, rfl⟩
  have HP := page_steps (k := k) (s := s) hk (by omega) hN1.out hF1.out hN2.out hF2.out
  obtain ⟨L, hL⟩ : ∃ L, Hid (pageF k s = L) := ⟨_, rfl⟩
  rw [hL.out] at HP ⊢
  have hl1 : N1 ≤ 3 := by rw [hN1.out]; exact (groups_len _).2
  have hl2 : N2 ≤ 2000000 := by rw [hN2.out]; have := (groups_len (clampN s.size)).2; omega
  have hl3 : N2 + 4 = L.length := HP.2
  have HB1 : Hid (∀ i, i < N1 → 0 ≤ F1 i ∧ F1 i ≤ 255) := by
    show ∀ i, _
    rw [hN1.out, hF1.out]
    exact bytes_of_list (groups_byte _ (clampN_bd _).1 (clampN_bd _).2)
  have HB2 : Hid (∀ i, i < N2 → 0 ≤ F2 i ∧ F2 i ≤ 255) := by
    show ∀ i, _
    have hlt : (textL N1 F1 s).length = N2 := by rw [textL_len, hN2.out]
    rw [← hlt, hF2.out]
    refine bytes_of_list (fun y hy => ?_)
    unfold textL at hy
    rcases List.mem_append.1 hy with h | h
    · rcases List.mem_append.1 h with h | h
      · exact lof_byteS HB1.out y h
      · exact groups_byte _ (clampN_bd _).1 (clampN_bd _).2 y h
    · exact sl_byte s y h
  have hT : ∀ (g c : Nat) (W : World), Row 5 W g N1 F1 → N1 ≤ c → Calls Try.prog 107 #[.slice (some ⟨g, 0, none⟩) N1 c, .string s] W fun e w' => ∃ g' c', e = .returned (.slice (some ⟨g', 0, none⟩) N2 c') ∧ W.heap.size ≤ g' ∧ N2 ≤ c' ∧ Row 5 w' g' N2 F2 ∧ Below W.heap.size W w' := by
    intro g c W hr hc
    have := putText_impl g 0 N1 c F1 s W (hr.view hc HB1.out) (by omega) (by omega)
    rw [← hN2.out, ← hF2.out] at this
    exact this
  have hS : ∀ (g c : Nat) (W : World), Row 5 W g N2 F2 → N2 ≤ c → Calls Try.prog 106 #[.slice (some ⟨g, 0, none⟩) N2 c] W (PageTo W L) := by
    intro g c W hr hc
    have := putSum_impl g 0 N2 c F2 W (hr.view hc HB2.out) (by omega)
    rw [HP.1, HP.2] at this
    exact this
  have hU : ∀ W, Calls Try.prog 108 #[.slice none 0 0, .int .i64 k] W fun e w' => ∃ g c, e = .returned (.slice (some ⟨g, 0, none⟩) N1 c) ∧ W.heap.size ≤ g ∧ N1 ≤ c ∧ Row 5 w' g N1 F1 ∧ Below W.heap.size W w' := by
    intro W
    have := putU_opt none 0 0 (fun _ => 0) k W (noView _ _) (fun _ => ⟨rfl, rfl⟩) (by omega) hk0 hk1
    rw [Nat.zero_add, show lof 0 (fun _ => (0 : Int)) = [] from rfl, List.nil_append, ← hN1.out, ← hF1.out] at this
    exact this
  clear HB1 HB2 hN1 hF1 hN2 hF2 HP
  go_enter Try.func44, Try.ntmps44
  go_wp2_with fail
  refine (hV _).mono ?_
  rintro e _ ⟨rfl, rfl⟩
  clear hV
  go_wp2_with fail
  go_region_held3 (fun W => (convert 27 9 (.slice (some ⟨b, off, none⟩) n cap)).run Try.prog W = .ok (.string s) W) (first | assumption | go_keep) (first
    | (go_at_call 108; refine (hU _).mono ?_; rintro e w1 ⟨g1, c1, rfl, hg1, hc1, hr1, hb1⟩; have hb1' : Hid (Below w.heap.size w w1) := Below.trans (by repeat (first | exact Below.refl _ _ | refine Below.drew ?_)) hb1; have hq1 := HQ.out w1 hb1'.out)
    | (go_at_call 107; refine (hT g1 c1 _ (by first | exact hr1 | exact hr1.belowAll (Below.refl _ _).drew) hc1).mono ?_; rintro e w2 ⟨g2, c2, rfl, hg2, hc2, hr2, hb2⟩; have hb2' : Hid (Below w.heap.size w w2) := Below.trans (by repeat (first | exact hb1'.out | refine Below.drew ?_)) (hb2.mono (by have := hb1'.out.size; simpa using this)); have hq2 := HQ.out w2 hb2'.out)
    | (go_at_call 106; refine (hS g2 c2 _ (by first | exact hr2 | exact hr2.belowAll (Below.refl _ _).drew) hc2).mono ?_; rintro e w3 ⟨g3, c3, rfl, hg3, hc3, hr3, hb3⟩; have hb3' : Hid (Below w.heap.size w w3) := Below.trans (by repeat (first | exact hb2'.out | refine Below.drew ?_)) (hb3.mono (by have := hb2'.out.size; simpa using this)); have hq3 := HQ.out w3 hb3'.out))
  go_wp2
  go_ret
  exact ⟨g3, c3, rfl, Nat.le_trans (Nat.le_trans hb2'.out.size (by simp)) hg3, hc3, hr3, hb3'.out⟩

set_option maxHeartbeats 1000000 in
theorem putPage_spec (b off n cap : Nat) (f : Nat → Int) (k : Int) (w : World) (hv : View w (some ⟨b, off, none⟩) n cap f) (hn : n ≤ 1048576) (hk0 : -9223372036854775808 ≤ k) (hk1 : k ≤ 9223372036854775807) :
    Calls Try.prog 96 #[.int .i64 k, .slice (some ⟨b, off, none⟩) n cap] w (PageTo w (pageF k (strOfNums (lof n f)))) := by
  have hsz : (strOfNums (lof n f)).size = n := by rw [str_size, lof_len]
  have HQ : Hid (∀ W, Below w.heap.size w W → (convert 27 9 (.slice (some ⟨b, off, none⟩) n cap)).run Try.prog W = .ok (.string (strOfNums (lof n f))) W) := fun W hb => conv_view (hv.below hb)
  obtain ⟨s, hs⟩ : ∃ s, Hid (strOfNums (lof n f) = s) := ⟨_, rfl⟩
  rw [hs.out] at hsz HQ ⊢
  by_cases hk : k = 1 ∨ k = 2
  case neg =>
    have HF : Hid (pageF k s = []) := by show _ = _; unfold pageF; rw [if_neg (fun h => hk h.1)]
    have hV := fun W => l1In_no k 1 2 W (by omega)
    go_enter Try.func96, Try.ntmps96
    go_wp2_with fail
    refine (hV _).mono ?_
    rintro e _ ⟨rfl, rfl⟩
    go_wp2
    go_ret
    rw [HF.out]
    exact ⟨_, 0, rfl, Nat.le_refl _, Nat.le_refl _, noRow _ _ _, (Below.refl _ _).alloc (Nat.le_refl _) _⟩
  have hV := fun W => l1In_yes k 1 2 W (by omega) (by omega)
  by_cases hl : n ≤ 240
  case neg =>
    have HF : Hid (pageF k s = []) := by show _ = _; unfold pageF; rw [if_neg (fun h => hl (by have := h.2; omega))]
    have hz : (240 : Int) < n := by omega
    go_enter Try.func96, Try.ntmps96
    go_wp2_with fail
    refine (hV _).mono ?_
    rintro e _ ⟨rfl, rfl⟩
    go_wp2
    go_ret
    rw [HF.out]
    exact ⟨_, 0, rfl, Nat.le_refl _, Nat.le_refl _, noRow _ _ _, (Below.refl _ _).alloc (Nat.le_refl _) _⟩
  have hz : ¬ (240 : Int) < n := by omega
  have hq0 := HQ.out w.drew (Below.refl _ _).drew
  have hq0b := HQ.out (w.alloc (.cells #[] 5)).drew ((Below.refl _ _).alloc (Nat.le_refl _) _).drew
  obtain ⟨N1, hN1⟩ : ∃ N1, Hid (N1 = (groups (clampN k)).length) := ⟨_, rfl⟩
  obtain ⟨F1, hF1⟩ : ∃ F1 : Nat → Int, Hid (F1 = fun i => (groups (clampN k)).getD i 0) := ⟨_, rfl⟩
  obtain ⟨N2, hN2⟩ : ∃ N2, Hid (N2 = N1 + (groups (clampN s.size)).length + s.size) := ⟨_, rfl⟩
  obtain ⟨F2, hF2⟩ : ∃ F2 : Nat → Int, Hid (F2 = fun i => (textL N1 F1 s).getD i 0) := ⟨_, rfl⟩
  have HP := page_steps (k := k) (s := s) hk (by omega) hN1.out hF1.out hN2.out hF2.out
  obtain ⟨L, hL⟩ : ∃ L, Hid (pageF k s = L) := ⟨_, rfl⟩
  rw [hL.out] at HP ⊢
  have hl1 : N1 ≤ 3 := by rw [hN1.out]; exact (groups_len _).2
  have hl2 : N2 ≤ 2000000 := by rw [hN2.out]; have := (groups_len (clampN s.size)).2; omega
  have hl3 : N2 + 4 = L.length := HP.2
  have HB1 : Hid (∀ i, i < N1 → 0 ≤ F1 i ∧ F1 i ≤ 255) := by
    show ∀ i, _
    rw [hN1.out, hF1.out]
    exact bytes_of_list (groups_byte _ (clampN_bd _).1 (clampN_bd _).2)
  have HB2 : Hid (∀ i, i < N2 → 0 ≤ F2 i ∧ F2 i ≤ 255) := by
    show ∀ i, _
    have hlt : (textL N1 F1 s).length = N2 := by rw [textL_len, hN2.out]
    rw [← hlt, hF2.out]
    refine bytes_of_list (fun y hy => ?_)
    unfold textL at hy
    rcases List.mem_append.1 hy with h | h
    · rcases List.mem_append.1 h with h | h
      · exact lof_byteS HB1.out y h
      · exact groups_byte _ (clampN_bd _).1 (clampN_bd _).2 y h
    · exact sl_byte s y h
  have hT : ∀ (g c : Nat) (W : World), Row 5 W g N1 F1 → N1 ≤ c → Calls Try.prog 128 #[.slice (some ⟨g, 0, none⟩) N1 c, .string s] W fun e w' => ∃ g' c', e = .returned (.slice (some ⟨g', 0, none⟩) N2 c') ∧ W.heap.size ≤ g' ∧ N2 ≤ c' ∧ Row 5 w' g' N2 F2 ∧ Below W.heap.size W w' := by
    intro g c W hr hc
    have := putText_spec g 0 N1 c F1 s W (hr.view hc HB1.out) (by omega) (by omega)
    rw [← hN2.out, ← hF2.out] at this
    exact this
  have hS : ∀ (g c : Nat) (W : World), Row 5 W g N2 F2 → N2 ≤ c → Calls Try.prog 127 #[.slice (some ⟨g, 0, none⟩) N2 c] W (PageTo W L) := by
    intro g c W hr hc
    have := putSum_spec g 0 N2 c F2 W (hr.view hc HB2.out) (by omega)
    rw [HP.1, HP.2] at this
    exact this
  have hU : ∀ (g : Nat) (W : World), Calls Try.prog 129 #[.slice (some ⟨g, 0, none⟩) 0 0, .int .i64 k] W fun e w' => ∃ g c, e = .returned (.slice (some ⟨g, 0, none⟩) N1 c) ∧ W.heap.size ≤ g ∧ N1 ≤ c ∧ Row 5 w' g N1 F1 ∧ Below W.heap.size W w' := by
    intro g W
    refine (putU_spec g 0 0 0 (fun _ => 0) k W ⟨Nat.le_refl _, fun _ hi => absurd hi (Nat.not_lt_zero _), fun h => absurd h (Nat.lt_irrefl _)⟩ (by omega) hk0 hk1).mono ?_
    rintro e w' ⟨v, rfl, hown, hb⟩
    rw [Nat.zero_add, show lof 0 (fun _ => (0 : Int)) = [] from rfl, List.nil_append, ← hN1.out] at hown
    obtain ⟨g', c', rfl, hg', hgc', hrow⟩ := row_of_own hown (by rw [hN1.out]; exact (groups_len _).1)
    rw [← hF1.out] at hrow
    exact ⟨g', c', rfl, hg', hgc', hrow, hb⟩
  clear HB1 HB2 hN1 hF1 hN2 hF2 HP
  go_enter Try.func96, Try.ntmps96
  go_wp2_with fail
  refine (hV _).mono ?_
  rintro e _ ⟨rfl, rfl⟩
  clear hV
  go_wp2_with fail
  go_region_held3 (fun W => (convert 27 9 (.slice (some ⟨b, off, none⟩) n cap)).run Try.prog W = .ok (.string s) W) (first | assumption | go_keep) (first
    | (go_at_call 129; refine (hU _ _).mono ?_; rintro e w1 ⟨g1, c1, rfl, hg1, hc1, hr1, hb1⟩; have hb1' : Hid (Below w.heap.size w w1) := Below.trans (by repeat (first | exact Below.refl _ _ | exact (Below.refl _ _).drew.alloc (by simp) _ | refine Below.drew ?_)) (hb1.mono (by simp)); have hq1 := HQ.out w1 hb1'.out)
    | (go_at_call 128; refine (hT g1 c1 _ (by first | exact hr1 | exact hr1.belowAll (Below.refl _ _).drew) hc1).mono ?_; rintro e w2 ⟨g2, c2, rfl, hg2, hc2, hr2, hb2⟩; have hb2' : Hid (Below w.heap.size w w2) := Below.trans (by repeat (first | exact hb1'.out | refine Below.drew ?_)) (hb2.mono (by have := hb1'.out.size; simpa using this)); have hq2 := HQ.out w2 hb2'.out)
    | (go_at_call 127; refine (hS g2 c2 _ (by first | exact hr2 | exact hr2.belowAll (Below.refl _ _).drew) hc2).mono ?_; rintro e w3 ⟨g3, c3, rfl, hg3, hc3, hr3, hb3⟩; have hb3' : Hid (Below w.heap.size w w3) := Below.trans (by repeat (first | exact hb2'.out | refine Below.drew ?_)) (hb3.mono (by have := hb2'.out.size; simpa using this)); have hq3 := HQ.out w3 hb3'.out))
  go_wp2
  go_ret
  exact ⟨g3, c3, rfl, Nat.le_trans (Nat.le_trans hb2'.out.size (by simp)) hg3, hc3, hr3, hb3'.out⟩
end Go.Proofs.Ytdhfbblameiloaa

/-
  A row of the call's own is one above every lower bound.
-/
namespace Go.Proofs.Ytdhfbblameiloaa
open Go.RowKit
set_option maxRecDepth 4000

theorem own_loK {W : World} {base base' T c N : Nat} {v : Value} {xs : List Value} (h : W.ownsRow base T c v N xs) (hB : base' ≤ base) : W.ownsRow base' T c v N xs := by
  refine ⟨h.1, ?_⟩
  rcases h.2 with h0 | ⟨g, cap, cur, e, hb, hr⟩
  · exact .inl h0
  · exact .inr ⟨g, cap, cur, e, Nat.le_trans hB hb, hr⟩
end Go.Proofs.Ytdhfbblameiloaa

/-
  The model's PutPage: the bytes are the call's own.
-/
namespace Go.Proofs.Ytdhfbblameiloaa
open Go.RowKit
set_option maxRecDepth 4000

set_option maxHeartbeats 1000000 in
theorem putPage_own (b off n cap : Nat) (f : Nat → Int) (k : Int) (w : World) (hv : View w (some ⟨b, off, none⟩) n cap f) (hk : k = 1 ∨ k = 2) (hl : n ≤ 240) :
    Calls Try.prog 96 #[.int .i64 k, .slice (some ⟨b, off, none⟩) n cap] w fun e w' => ∃ v, e = .returned v ∧ w'.ownsRow w.heap.size 5 1 v (pageF k (strOfNums (lof n f))).length (bl (pageF k (strOfNums (lof n f)))) ∧ Below w.heap.size w w' := by
  have hk0 : -9223372036854775808 ≤ k := by omega
  have hk1 : k ≤ 9223372036854775807 := by omega
  have hsz : (strOfNums (lof n f)).size = n := by rw [str_size, lof_len]
  have HQ : Hid (∀ W, Below w.heap.size w W → (convert 27 9 (.slice (some ⟨b, off, none⟩) n cap)).run Try.prog W = .ok (.string (strOfNums (lof n f))) W) := fun W hb => conv_view (hv.below hb)
  obtain ⟨s, hs⟩ : ∃ s, Hid (strOfNums (lof n f) = s) := ⟨_, rfl⟩
  rw [hs.out] at hsz HQ ⊢
  have hV := fun W => l1In_yes k 1 2 W (by omega) (by omega)
  have hz : ¬ (240 : Int) < n := by omega
  have hq0 := HQ.out w.drew (Below.refl _ _).drew
  have hq0b := HQ.out (w.alloc (.cells #[] 5)).drew ((Below.refl _ _).alloc (Nat.le_refl _) _).drew
  obtain ⟨N1, hN1⟩ : ∃ N1, Hid (N1 = (groups (clampN k)).length) := ⟨_, rfl⟩
  obtain ⟨F1, hF1⟩ : ∃ F1 : Nat → Int, Hid (F1 = fun i => (groups (clampN k)).getD i 0) := ⟨_, rfl⟩
  obtain ⟨N2, hN2⟩ : ∃ N2, Hid (N2 = N1 + (groups (clampN s.size)).length + s.size) := ⟨_, rfl⟩
  obtain ⟨F2, hF2⟩ : ∃ F2 : Nat → Int, Hid (F2 = fun i => (textL N1 F1 s).getD i 0) := ⟨_, rfl⟩
  have HP := page_steps (k := k) (s := s) hk (by omega) hN1.out hF1.out hN2.out hF2.out
  obtain ⟨L, hL⟩ : ∃ L, Hid (pageF k s = L) := ⟨_, rfl⟩
  rw [hL.out] at HP ⊢
  have hl1 : N1 ≤ 3 := by rw [hN1.out]; exact (groups_len _).2
  have hl2 : N2 ≤ 2000000 := by rw [hN2.out]; have := (groups_len (clampN s.size)).2; omega
  have hl3 : N2 + 4 = L.length := HP.2
  have HB1 : Hid (∀ i, i < N1 → 0 ≤ F1 i ∧ F1 i ≤ 255) := by
    show ∀ i, _
    rw [hN1.out, hF1.out]
    exact bytes_of_list (groups_byte _ (clampN_bd _).1 (clampN_bd _).2)
  have HB2 : Hid (∀ i, i < N2 → 0 ≤ F2 i ∧ F2 i ≤ 255) := by
    show ∀ i, _
    have hlt : (textL N1 F1 s).length = N2 := by rw [textL_len, hN2.out]
    rw [← hlt, hF2.out]
    refine bytes_of_list (fun y hy => ?_)
    unfold textL at hy
    rcases List.mem_append.1 hy with h | h
    · rcases List.mem_append.1 h with h | h
      · exact lof_byteS HB1.out y h
      · exact groups_byte _ (clampN_bd _).1 (clampN_bd _).2 y h
    · exact sl_byte s y h
  have hT : ∀ (g c : Nat) (W : World), Row 5 W g N1 F1 → N1 ≤ c → Calls Try.prog 128 #[.slice (some ⟨g, 0, none⟩) N1 c, .string s] W fun e w' => ∃ g' c', e = .returned (.slice (some ⟨g', 0, none⟩) N2 c') ∧ W.heap.size ≤ g' ∧ N2 ≤ c' ∧ Row 5 w' g' N2 F2 ∧ Below W.heap.size W w' := by
    intro g c W hr hc
    have := putText_spec g 0 N1 c F1 s W (hr.view hc HB1.out) (by omega) (by omega)
    rw [← hN2.out, ← hF2.out] at this
    exact this
  have hS : ∀ (g c : Nat) (W : World), Row 5 W g N2 F2 → N2 ≤ c → Calls Try.prog 127 #[.slice (some ⟨g, 0, none⟩) N2 c] W fun e w' => ∃ v, e = .returned v ∧ w'.ownsRow W.heap.size 5 1 v L.length (bl L) ∧ Below W.heap.size W w' := by
    intro g c W hr hc
    have := putSum_own g 0 N2 c F2 W (hr.view hc HB2.out) (by omega)
    rw [HP.1, HP.2] at this
    exact this
  have hU : ∀ (g : Nat) (W : World), Calls Try.prog 129 #[.slice (some ⟨g, 0, none⟩) 0 0, .int .i64 k] W fun e w' => ∃ g c, e = .returned (.slice (some ⟨g, 0, none⟩) N1 c) ∧ W.heap.size ≤ g ∧ N1 ≤ c ∧ Row 5 w' g N1 F1 ∧ Below W.heap.size W w' := by
    intro g W
    refine (putU_spec g 0 0 0 (fun _ => 0) k W ⟨Nat.le_refl _, fun _ hi => absurd hi (Nat.not_lt_zero _), fun h => absurd h (Nat.lt_irrefl _)⟩ (by omega) hk0 hk1).mono ?_
    rintro e w' ⟨v, rfl, hown, hb⟩
    rw [Nat.zero_add, show lof 0 (fun _ => (0 : Int)) = [] from rfl, List.nil_append, ← hN1.out] at hown
    obtain ⟨g', c', rfl, hg', hgc', hrow⟩ := row_of_own hown (by rw [hN1.out]; exact (groups_len _).1)
    rw [← hF1.out] at hrow
    exact ⟨g', c', rfl, hg', hgc', hrow, hb⟩
  clear HB1 HB2 hN1 hF1 hN2 hF2 HP
  go_enter Try.func96, Try.ntmps96
  go_wp2_with fail
  refine (hV _).mono ?_
  rintro e _ ⟨rfl, rfl⟩
  clear hV
  go_wp2_with fail
  go_region_held3 (fun W => (convert 27 9 (.slice (some ⟨b, off, none⟩) n cap)).run Try.prog W = .ok (.string s) W) (first | assumption | go_keep) (first
    | (go_at_call 129; refine (hU _ _).mono ?_; rintro e w1 ⟨g1, c1, rfl, hg1, hc1, hr1, hb1⟩; have hb1' : Hid (Below w.heap.size w w1) := Below.trans (by repeat (first | exact Below.refl _ _ | exact (Below.refl _ _).drew.alloc (by simp) _ | refine Below.drew ?_)) (hb1.mono (by simp)); have hq1 := HQ.out w1 hb1'.out)
    | (go_at_call 128; refine (hT g1 c1 _ (by first | exact hr1 | exact hr1.belowAll (Below.refl _ _).drew) hc1).mono ?_; rintro e w2 ⟨g2, c2, rfl, hg2, hc2, hr2, hb2⟩; have hb2' : Hid (Below w.heap.size w w2) := Below.trans (by repeat (first | exact hb1'.out | refine Below.drew ?_)) (hb2.mono (by have := hb1'.out.size; simpa using this)); have hq2 := HQ.out w2 hb2'.out)
    | (go_at_call 127; refine (hS g2 c2 _ (by first | exact hr2 | exact hr2.belowAll (Below.refl _ _).drew) hc2).mono ?_; rintro e w3 ⟨v3, rfl, hO3, hb3⟩; have hb3' : Hid (Below w.heap.size w w3) := Below.trans (by repeat (first | exact hb2'.out | refine Below.drew ?_)) (hb3.mono (by have := hb2'.out.size; simpa using this)); have hq3 := HQ.out w3 hb3'.out))
  go_wp2
  go_ret
  exact ⟨_, rfl, own_loK hO3 (Nat.le_trans hb2'.out.size (by simp)), hb3'.out⟩
end Go.Proofs.Ytdhfbblameiloaa

