/-
  Together: PagePut, PageCut, MetaPlain, MetaOkW, NumsL, OView, NodeNums, TwoNums, MetaPut
-/
import Derived.Test.YtdjaiappaghfnaaTN2
import Derived.Deep.RegionHeld3
import Derived.Test.YtdjaiappaghfnaaTN1
import Derived.Test.YtdjaiappaghfnaaProg
/-
  The program's PutPage and the model's: a page in memory of its own.
-/
namespace Go.Proofs.Ytdjaiappaghfnaa
open Go.RowKit
set_option maxRecDepth 4000

theorem clamp_id {x : Int} (h0 : 0 ≤ x) (h1 : x ≤ 1000000) : clampN x = x := by unfold clampN; rw [if_neg (by omega), if_neg (by omega)]
theorem str_size (l : List Int) : (strOfNums l).size = l.length := by
  have := strOfNums_data l
  show (strOfNums l).data.size = _
  rw [← Array.length_toList, this, List.length_map]
/-- What is made in three steps is a page. -/
theorem page_steps {k : Int} {s : ByteArray} {N1 N2 : Nat} {F1 F2 : Nat → Int} (hk : k = 1 ∨ k = 2) (hs : s.size ≤ 240) (e1 : N1 = (groups (clampN k)).length) (h1 : F1 = fun i => (groups (clampN k)).getD i 0) (e2 : N2 = N1 + (groups (clampN s.size)).length + s.size) (h2 : F2 = fun i => (textL N1 F1 s).getD i 0) :
    lof N2 F2 ++ sumL (crc N2 F2) = pageF k s ∧ N2 + 4 = (pageF k s).length := by
  have c1 : clampN k = k := clamp_id (by omega) (by omega)
  have c2 : clampN (s.size : Int) = s.size := clamp_id (by omega) (by omega)
  rw [c1] at e1 h1
  rw [c2] at e2
  have hl : lof N1 F1 = groups k := by rw [e1, h1]; exact lof_self _
  have ht : textL N1 F1 s = innL k s := by
    unfold textL innL txtL
    rw [hl, c2, List.append_assoc]
  rw [ht] at h2
  have hn : N2 = (innL k s).length := by rw [innL_len, e2, e1]
  have hl2 : lof N2 F2 = innL k s := by rw [hn, h2]; exact lof_self _
  unfold pageF
  rw [if_pos ⟨hk, hs⟩, pageL_len, hl2, hn, h2]
  exact ⟨rfl, rfl⟩

set_option maxHeartbeats 1000000 in
theorem isKind_any (k : Int) (w : World) : Calls Try.prog 96 #[.int .i64 k] w fun e w' => e = .returned (.bool (decide (k = 1) || decide (k = 2))) ∧ w = w' := by
  go_enter Try.func96, Try.ntmps96
  by_cases h1 : k = 1
  · subst h1
    go_wp2
    go_ret
    exact ⟨rfl, rfl⟩
  · have e1 : (k == 1) = false := beq_eq_false_iff_ne.2 h1
    by_cases h2 : k = 2
    · subst h2
      go_wp2
      go_ret
      exact ⟨rfl, rfl⟩
    · have e2 : (k == 2) = false := beq_eq_false_iff_ne.2 h2
      go_wp2
      go_ret
      exact ⟨by simp [h1, h2], rfl⟩

/-- What PutPage comes to. -/
def PageTo (w : World) (l : List Int) (e : Ending) (w' : World) : Prop := ∃ g c, e = .returned (.slice (some ⟨g, 0, none⟩) l.length c) ∧ w.heap.size ≤ g ∧ l.length ≤ c ∧ Row 5 w' g l.length (fun i => l.getD i 0) ∧ Below w.heap.size w w'

set_option maxHeartbeats 1000000 in
theorem putPage_impl (b off n cap : Nat) (f : Nat → Int) (k : Int) (w : World) (hv : View w (some ⟨b, off, none⟩) n cap f) (hn : n ≤ 1048576) (hk0 : -9223372036854775808 ≤ k) (hk1 : k ≤ 9223372036854775807) :
    Calls Try.prog 79 #[.int .i64 k, .slice (some ⟨b, off, none⟩) n cap] w (PageTo w (pageF k (strOfNums (lof n f)))) := by
  have hsz : (strOfNums (lof n f)).size = n := by rw [str_size, lof_len]
  have HQ : Hid (∀ W, Below w.heap.size w W → (convert 63 9 (.slice (some ⟨b, off, none⟩) n cap)).run Try.prog W = .ok (.string (strOfNums (lof n f))) W) := fun W hb => conv_view (hv.below hb)
  obtain ⟨s, hs⟩ : ∃ s, Hid (strOfNums (lof n f) = s) := ⟨_, rfl⟩
  rw [hs.out] at hsz HQ ⊢
  by_cases hk : k = 1 ∨ k = 2
  case neg =>
    have HF : Hid (pageF k s = []) := by show _ = _; unfold pageF; rw [if_neg (fun h => hk h.1)]
    have hV := fun W => isKind_any k W
    have hkk : (decide (k = 1) || decide (k = 2)) = false := by simpa using hk
    rw [hkk] at hV
    go_enter Try.func79, Try.ntmps79
    go_wp2_with fail
    refine (hV _).mono ?_
    rintro e _ ⟨rfl, rfl⟩
    go_wp2
    go_ret
    rw [HF.out]
    exact ⟨_, 0, rfl, Nat.le_refl _, Nat.le_refl _, noRow _ _ _, (Below.refl _ _).alloc (Nat.le_refl _) _⟩
  have hV := fun W => isKind_any k W
  have hkk : (decide (k = 1) || decide (k = 2)) = true := by simpa using hk
  rw [hkk] at hV
  by_cases hl : n ≤ 240
  case neg =>
    have HF : Hid (pageF k s = []) := by show _ = _; unfold pageF; rw [if_neg (fun h => hl (by have := h.2; omega))]
    have hz : (240 : Int) < n := by omega
    go_enter Try.func79, Try.ntmps79
    go_wp2_with fail
    refine (hV _).mono ?_
    rintro e _ ⟨rfl, rfl⟩
    go_wp2
    go_ret
    rw [HF.out]
    exact ⟨_, 0, rfl, Nat.le_refl _, Nat.le_refl _, noRow _ _ _, (Below.refl _ _).alloc (Nat.le_refl _) _⟩
  have hz : ¬ (240 : Int) < n := by omega
  have hq0 := HQ.out w.drew (Below.refl _ _).drew
  obtain ⟨N1, hN1⟩ : ∃ N1, Hid (N1 = (groups (clampN k)).length) := ⟨_, rfl⟩
  obtain ⟨F1, hF1⟩ : ∃ F1 : Nat → Int, Hid (F1 = fun i => (groups (clampN k)).getD i 0) := ⟨_, rfl⟩
  obtain ⟨N2, hN2⟩ : ∃ N2, Hid (N2 = N1 + (groups (clampN s.size)).length + s.size) := ⟨_, rfl⟩
  obtain ⟨F2, hF2⟩ : ∃ F2 : Nat → Int, Hid (F2 = fun i => (textL N1 F1 s).getD i 0) := ⟨_, rfl⟩
  have HP := page_steps (k := k) (s := s) hk (by omega) hN1.out hF1.out hN2.out hF2.out
  obtain ⟨L, hL⟩ : ∃ L, Hid (pageF k s = L) := ⟨_, rfl⟩
  rw [hL.out] at HP ⊢
  have hl1 : N1 ≤ 3 := by rw [hN1.out]; exact (groups_len _).2
  have hl2 : N2 ≤ 2000000 := by rw [hN2.out]; have := (groups_len (clampN s.size)).2; omega
  have hl3 : N2 + 4 = L.length := HP.2
  have HB1 : Hid (∀ i, i < N1 → 0 ≤ F1 i ∧ F1 i ≤ 255) := by
    show ∀ i, _
    rw [hN1.out, hF1.out]
    exact bytes_of_list (groups_byte _ (clampN_bd _).1 (clampN_bd _).2)
  have HB2 : Hid (∀ i, i < N2 → 0 ≤ F2 i ∧ F2 i ≤ 255) := by
    show ∀ i, _
    have hlt : (textL N1 F1 s).length = N2 := by rw [textL_len, hN2.out]
    rw [← hlt, hF2.out]
    refine bytes_of_list (fun y hy => ?_)
    unfold textL at hy
    rcases List.mem_append.1 hy with h | h
    · rcases List.mem_append.1 h with h | h
      · exact lof_byteS HB1.out y h
      · exact groups_byte _ (clampN_bd _).1 (clampN_bd _).2 y h
    · exact sl_byte s y h
  have hT : ∀ (g c : Nat) (W : World), Row 5 W g N1 F1 → N1 ≤ c → Calls Try.prog 98 #[.slice (some ⟨g, 0, none⟩) N1 c, .string s] W fun e w' => ∃ g' c', e = .returned (.slice (some ⟨g', 0, none⟩) N2 c') ∧ W.heap.size ≤ g' ∧ N2 ≤ c' ∧ Row 5 w' g' N2 F2 ∧ Below W.heap.size W w' := by
    intro g c W hr hc
    have := putText_impl g 0 N1 c F1 s W (hr.view hc HB1.out) (by omega) (by omega)
    rw [← hN2.out, ← hF2.out] at this
    exact this
  have hS : ∀ (g c : Nat) (W : World), Row 5 W g N2 F2 → N2 ≤ c → Calls Try.prog 97 #[.slice (some ⟨g, 0, none⟩) N2 c] W (PageTo W L) := by
    intro g c W hr hc
    have := putSum_impl g 0 N2 c F2 W (hr.view hc HB2.out) (by omega)
    rw [HP.1, HP.2] at this
    exact this
  have hU : ∀ W, Calls Try.prog 99 #[.slice none 0 0, .int .i64 k] W fun e w' => ∃ g c, e = .returned (.slice (some ⟨g, 0, none⟩) N1 c) ∧ W.heap.size ≤ g ∧ N1 ≤ c ∧ Row 5 w' g N1 F1 ∧ Below W.heap.size W w' := by
    intro W
    have := putU_opt none 0 0 (fun _ => 0) k W (noView _ _) (fun _ => ⟨rfl, rfl⟩) (by omega) hk0 hk1
    rw [Nat.zero_add, show lof 0 (fun _ => (0 : Int)) = [] from rfl, List.nil_append, ← hN1.out, ← hF1.out] at this
    exact this
  clear HB1 HB2 hN1 hF1 hN2 hF2 HP
  go_enter Try.func79, Try.ntmps79
  go_wp2_with fail
  refine (hV _).mono ?_
  rintro e _ ⟨rfl, rfl⟩
  clear hV
  go_wp2_with fail
  go_region_held3 (fun W => (convert 63 9 (.slice (some ⟨b, off, none⟩) n cap)).run Try.prog W = .ok (.string s) W) (first | assumption | go_keep) (first
    | (go_at_call 99; refine (hU _).mono ?_; rintro e w1 ⟨g1, c1, rfl, hg1, hc1, hr1, hb1⟩; have hb1' : Hid (Below w.heap.size w w1) := Below.trans (by repeat (first | exact Below.refl _ _ | refine Below.drew ?_)) hb1; have hq1 := HQ.out w1 hb1'.out)
    | (go_at_call 98; refine (hT g1 c1 _ (by first | exact hr1 | exact hr1.belowAll (Below.refl _ _).drew) hc1).mono ?_; rintro e w2 ⟨g2, c2, rfl, hg2, hc2, hr2, hb2⟩; have hb2' : Hid (Below w.heap.size w w2) := Below.trans (by repeat (first | exact hb1'.out | refine Below.drew ?_)) (hb2.mono (by have := hb1'.out.size; simpa using this)); have hq2 := HQ.out w2 hb2'.out)
    | (go_at_call 97; refine (hS g2 c2 _ (by first | exact hr2 | exact hr2.belowAll (Below.refl _ _).drew) hc2).mono ?_; rintro e w3 ⟨g3, c3, rfl, hg3, hc3, hr3, hb3⟩; have hb3' : Hid (Below w.heap.size w w3) := Below.trans (by repeat (first | exact hb2'.out | refine Below.drew ?_)) (hb3.mono (by have := hb2'.out.size; simpa using this)); have hq3 := HQ.out w3 hb3'.out))
  go_wp2
  go_ret
  exact ⟨g3, c3, rfl, Nat.le_trans (Nat.le_trans hb2'.out.size (by simp)) hg3, hc3, hr3, hb3'.out⟩

set_option maxHeartbeats 1000000 in
theorem putPage_spec (b off n cap : Nat) (f : Nat → Int) (k : Int) (w : World) (hv : View w (some ⟨b, off, none⟩) n cap f) (hn : n ≤ 1048576) (hk0 : -9223372036854775808 ≤ k) (hk1 : k ≤ 9223372036854775807) :
    Calls Try.prog 72 #[.int .i64 k, .slice (some ⟨b, off, none⟩) n cap] w (PageTo w (pageF k (strOfNums (lof n f)))) := by
  have hsz : (strOfNums (lof n f)).size = n := by rw [str_size, lof_len]
  have HQ : Hid (∀ W, Below w.heap.size w W → (convert 63 9 (.slice (some ⟨b, off, none⟩) n cap)).run Try.prog W = .ok (.string (strOfNums (lof n f))) W) := fun W hb => conv_view (hv.below hb)
  obtain ⟨s, hs⟩ : ∃ s, Hid (strOfNums (lof n f) = s) := ⟨_, rfl⟩
  rw [hs.out] at hsz HQ ⊢
  by_cases hk : k = 1 ∨ k = 2
  case neg =>
    have HF : Hid (pageF k s = []) := by show _ = _; unfold pageF; rw [if_neg (fun h => hk h.1)]
    have hV := fun W => l1In_no k 1 2 W (by omega)
    go_enter Try.func72, Try.ntmps72
    go_wp2_with fail
    refine (hV _).mono ?_
    rintro e _ ⟨rfl, rfl⟩
    go_wp2
    go_ret
    rw [HF.out]
    exact ⟨_, 0, rfl, Nat.le_refl _, Nat.le_refl _, noRow _ _ _, (Below.refl _ _).alloc (Nat.le_refl _) _⟩
  have hV := fun W => l1In_yes k 1 2 W (by omega) (by omega)
  by_cases hl : n ≤ 240
  case neg =>
    have HF : Hid (pageF k s = []) := by show _ = _; unfold pageF; rw [if_neg (fun h => hl (by have := h.2; omega))]
    have hz : (240 : Int) < n := by omega
    go_enter Try.func72, Try.ntmps72
    go_wp2_with fail
    refine (hV _).mono ?_
    rintro e _ ⟨rfl, rfl⟩
    go_wp2
    go_ret
    rw [HF.out]
    exact ⟨_, 0, rfl, Nat.le_refl _, Nat.le_refl _, noRow _ _ _, (Below.refl _ _).alloc (Nat.le_refl _) _⟩
  have hz : ¬ (240 : Int) < n := by omega
  have hq0 := HQ.out w.drew (Below.refl _ _).drew
  have hq0b := HQ.out (w.alloc (.cells #[] 5)).drew ((Below.refl _ _).alloc (Nat.le_refl _) _).drew
  obtain ⟨N1, hN1⟩ : ∃ N1, Hid (N1 = (groups (clampN k)).length) := ⟨_, rfl⟩
  obtain ⟨F1, hF1⟩ : ∃ F1 : Nat → Int, Hid (F1 = fun i => (groups (clampN k)).getD i 0) := ⟨_, rfl⟩
  obtain ⟨N2, hN2⟩ : ∃ N2, Hid (N2 = N1 + (groups (clampN s.size)).length + s.size) := ⟨_, rfl⟩
  obtain ⟨F2, hF2⟩ : ∃ F2 : Nat → Int, Hid (F2 = fun i => (textL N1 F1 s).getD i 0) := ⟨_, rfl⟩
  have HP := page_steps (k := k) (s := s) hk (by omega) hN1.out hF1.out hN2.out hF2.out
  obtain ⟨L, hL⟩ : ∃ L, Hid (pageF k s = L) := ⟨_, rfl⟩
  rw [hL.out] at HP ⊢
  have hl1 : N1 ≤ 3 := by rw [hN1.out]; exact (groups_len _).2
  have hl2 : N2 ≤ 2000000 := by rw [hN2.out]; have := (groups_len (clampN s.size)).2; omega
  have hl3 : N2 + 4 = L.length := HP.2
  have HB1 : Hid (∀ i, i < N1 → 0 ≤ F1 i ∧ F1 i ≤ 255) := by
    show ∀ i, _
    rw [hN1.out, hF1.out]
    exact bytes_of_list (groups_byte _ (clampN_bd _).1 (clampN_bd _).2)
  have HB2 : Hid (∀ i, i < N2 → 0 ≤ F2 i ∧ F2 i ≤ 255) := by
    show ∀ i, _
    have hlt : (textL N1 F1 s).length = N2 := by rw [textL_len, hN2.out]
    rw [← hlt, hF2.out]
    refine bytes_of_list (fun y hy => ?_)
    unfold textL at hy
    rcases List.mem_append.1 hy with h | h
    · rcases List.mem_append.1 h with h | h
      · exact lof_byteS HB1.out y h
      · exact groups_byte _ (clampN_bd _).1 (clampN_bd _).2 y h
    · exact sl_byte s y h
  have hT : ∀ (g c : Nat) (W : World), Row 5 W g N1 F1 → N1 ≤ c → Calls Try.prog 92 #[.slice (some ⟨g, 0, none⟩) N1 c, .string s] W fun e w' => ∃ g' c', e = .returned (.slice (some ⟨g', 0, none⟩) N2 c') ∧ W.heap.size ≤ g' ∧ N2 ≤ c' ∧ Row 5 w' g' N2 F2 ∧ Below W.heap.size W w' := by
    intro g c W hr hc
    have := putText_spec g 0 N1 c F1 s W (hr.view hc HB1.out) (by omega) (by omega)
    rw [← hN2.out, ← hF2.out] at this
    exact this
  have hS : ∀ (g c : Nat) (W : World), Row 5 W g N2 F2 → N2 ≤ c → Calls Try.prog 91 #[.slice (some ⟨g, 0, none⟩) N2 c] W (PageTo W L) := by
    intro g c W hr hc
    have := putSum_spec g 0 N2 c F2 W (hr.view hc HB2.out) (by omega)
    rw [HP.1, HP.2] at this
    exact this
  have hU : ∀ (g : Nat) (W : World), Calls Try.prog 73 #[.slice (some ⟨g, 0, none⟩) 0 0, .int .i64 k] W fun e w' => ∃ g c, e = .returned (.slice (some ⟨g, 0, none⟩) N1 c) ∧ W.heap.size ≤ g ∧ N1 ≤ c ∧ Row 5 w' g N1 F1 ∧ Below W.heap.size W w' := by
    intro g W
    refine (putU_spec g 0 0 0 (fun _ => 0) k W ⟨Nat.le_refl _, fun _ hi => absurd hi (Nat.not_lt_zero _), fun h => absurd h (Nat.lt_irrefl _)⟩ (by omega) hk0 hk1).mono ?_
    rintro e w' ⟨v, rfl, hown, hb⟩
    rw [Nat.zero_add, show lof 0 (fun _ => (0 : Int)) = [] from rfl, List.nil_append, ← hN1.out] at hown
    obtain ⟨g', c', rfl, hg', hgc', hrow⟩ := row_of_own hown (by rw [hN1.out]; exact (groups_len _).1)
    rw [← hF1.out] at hrow
    exact ⟨g', c', rfl, hg', hgc', hrow, hb⟩
  clear HB1 HB2 hN1 hF1 hN2 hF2 HP
  go_enter Try.func72, Try.ntmps72
  go_wp2_with fail
  refine (hV _).mono ?_
  rintro e _ ⟨rfl, rfl⟩
  clear hV
  go_wp2_with fail
  go_region_held3 (fun W => (convert 63 9 (.slice (some ⟨b, off, none⟩) n cap)).run Try.prog W = .ok (.string s) W) (first | assumption | go_keep) (first
    | (go_at_call 73; refine (hU _ _).mono ?_; rintro e w1 ⟨g1, c1, rfl, hg1, hc1, hr1, hb1⟩; have hb1' : Hid (Below w.heap.size w w1) := Below.trans (by repeat (first | exact Below.refl _ _ | exact (Below.refl _ _).drew.alloc (by simp) _ | refine Below.drew ?_)) (hb1.mono (by simp)); have hq1 := HQ.out w1 hb1'.out)
    | (go_at_call 92; refine (hT g1 c1 _ (by first | exact hr1 | exact hr1.belowAll (Below.refl _ _).drew) hc1).mono ?_; rintro e w2 ⟨g2, c2, rfl, hg2, hc2, hr2, hb2⟩; have hb2' : Hid (Below w.heap.size w w2) := Below.trans (by repeat (first | exact hb1'.out | refine Below.drew ?_)) (hb2.mono (by have := hb1'.out.size; simpa using this)); have hq2 := HQ.out w2 hb2'.out)
    | (go_at_call 91; refine (hS g2 c2 _ (by first | exact hr2 | exact hr2.belowAll (Below.refl _ _).drew) hc2).mono ?_; rintro e w3 ⟨g3, c3, rfl, hg3, hc3, hr3, hb3⟩; have hb3' : Hid (Below w.heap.size w w3) := Below.trans (by repeat (first | exact hb2'.out | refine Below.drew ?_)) (hb3.mono (by have := hb2'.out.size; simpa using this)); have hq3 := HQ.out w3 hb3'.out))
  go_wp2
  go_ret
  exact ⟨g3, c3, rfl, Nat.le_trans (Nat.le_trans hb2'.out.size (by simp)) hg3, hc3, hr3, hb3'.out⟩
end Go.Proofs.Ytdjaiappaghfnaa

/-
  A page that is cut is none; one with a byte turned is none.
-/
namespace Go.Proofs.Ytdjaiappaghfnaa
open Go.RowKit
set_option maxRecDepth 4000

theorem AtF.more {N M : Nat} {F : Nat → Int} {i : Nat} {L : List Int} (h : AtF N F i L) (hM : N ≤ M) : AtF M F i L := ⟨by have := h.le; omega, h.at'⟩
theorem inn_same {N : Nat} {f : Nat → Int} {k k' : Int} {s s' : ByteArray} (hk : 0 ≤ k ∧ k ≤ 1000000) (hk' : 0 ≤ k' ∧ k' ≤ 1000000) (hs : s.size ≤ 1000000) (hs' : s'.size ≤ 1000000) (h : AtF N f 0 (innL k s)) (h' : AtF N f 0 (innL k' s')) : k = k' ∧ s = s' := by
  have e1 := getU_at (x := k) hk.1 hk.2 (AtF.left (L := groups k) (K := txtL s) h)
  have e2 := getU_at (x := k') hk'.1 hk'.2 (AtF.left (L := groups k') (K := txtL s') h')
  rw [e1] at e2
  simp only [Prod.mk.injEq] at e2
  obtain ⟨rfl, -, -⟩ := e2
  have g1 := getText_at hs (AtF.right (L := groups k) (K := txtL s) h)
  have g2 := getText_at hs' (AtF.right (L := groups k) (K := txtL s') h')
  rw [g1] at g2
  simp only [Prod.mk.injEq] at g2
  exact ⟨rfl, g2.1⟩
theorem page_at {n : Nat} {f : Nat → Int} {k : Int} {s : ByteArray} (h : pageL k s = lof n f) : AtF n f 0 (innL k s) := by
  have hl := congrArg List.length h
  rw [pageL_len, lof_len] at hl
  refine ⟨by omega, fun j hj => ?_⟩
  rw [Nat.zero_add, ← lof_get n f j (by omega), ← h]
  exact getD_left _ _ _ hj
/-- What is cut is none. -/
theorem page_cut {k : Int} {s : ByteArray} {f : Nat → Int} {j : Nat} (hk : k = 1 ∨ k = 2) (hs : s.size ≤ 240) (hf : ∀ i, i < (pageL k s).length → f i = (pageL k s).getD i 0) (hj : j < (pageL k s).length) : getPg j f = (0, strOfNums [], false) := by
  by_cases h : (getPg j f).2.2 = true
  · exfalso
    have hfb : ∀ i, i < j → 0 ≤ f i ∧ f i ≤ 255 := fun i hi => by rw [hf i (by omega)]; exact bytes_of_list (pageL_byte hk hs) i (by omega)
    obtain ⟨hk', hs', e⟩ := getPg_read (k := (getPg j f).1) (s := (getPg j f).2.1) hfb (Prod.ext rfl (Prod.ext rfl h))
    have hall : pageL k s = lof (pageL k s).length f := (lof_all _ rfl hf).symm
    obtain ⟨e1, e2⟩ := inn_same (N := (pageL k s).length) (by omega) (by omega) (by omega) (by omega) (page_at hall) ((page_at e).more (by omega))
    rw [← e1, ← e2] at e
    have := congrArg List.length e
    rw [lof_len] at this
    omega
  · exact getPg_none (by simpa using h)
theorem page_sum {k : Int} {s : ByteArray} {f : Nat → Int} (hk : k = 1 ∨ k = 2) (hs : s.size ≤ 240) (hf : ∀ i, i < (pageL k s).length → f i = (pageL k s).getD i 0) : sumGood (pageL k s).length f = true := by
  have h := getPg_put hk hs hf
  unfold getPg at h
  split at h
  · rename_i hc; exact hc.1
  · cases h
/-- With a byte turned it is none. -/
theorem page_turned {k : Int} {s : ByteArray} {f : Nat → Int} {j : Nat} {v : Int} (hk : k = 1 ∨ k = 2) (hs : s.size ≤ 240) (hf : ∀ i, i < (pageL k s).length → f i = (pageL k s).getD i 0) (hj : j < (pageL k s).length) (hv : 0 ≤ v ∧ v ≤ 255) (hne : v ≠ f j) : getPg (pageL k s).length (fun i => if i = j then v else f i) = (0, strOfNums [], false) := by
  have hg := page_sum hk hs hf
  have hg' : 4 ≤ (pageL k s).length ∧ last4 ((pageL k s).length - 4) f = (crc ((pageL k s).length - 4) f : Int) := by simpa [sumGood] using hg
  obtain ⟨m, hm⟩ : ∃ m, (pageL k s).length = m + 4 := ⟨(pageL k s).length - 4, by omega⟩
  have hfb : ∀ i, i < m + 4 → 0 ≤ f i ∧ f i ≤ 255 := fun i hi => by rw [hf i (by omega)]; exact bytes_of_list (pageL_byte hk hs) i (by omega)
  rw [hm] at hg' hj ⊢
  rw [Nat.add_sub_cancel] at hg'
  have ht := sum_turned hfb hg'.2 hj hv hne
  unfold getPg
  rw [if_neg]
  intro hc
  have := hc.1
  simp only [sumGood, decide_eq_true_eq, Nat.add_sub_cancel] at this
  exact ht this.2
end Go.Proofs.Ytdjaiappaghfnaa

/-
  Roots, plainly: what is put, what is read; they come to each other.
-/
namespace Go.Proofs.Ytdjaiappaghfnaa
open Go.RowKit
set_option maxRecDepth 4000

/-- A root that is right; its body; its page, or nothing. -/
def metaOk (g r : Int) : Bool := decide (0 ≤ g ∧ g ≤ 1000000) && decide (r = 0 ∨ 2 ≤ r ∧ r ≤ 47)
def metaB (g r : Int) : List Int := groups g ++ groups r
def metaF (g r : Int) : List Int := if metaOk g r = true then pageL 2 (strOfNums (metaB g r)) else []
theorem metaOk_iff {g r : Int} : metaOk g r = true ↔ (0 ≤ g ∧ g ≤ 1000000) ∧ (r = 0 ∨ 2 ≤ r ∧ r ≤ 47) := by
  unfold metaOk; rw [Bool.and_eq_true, decide_eq_true_eq, decide_eq_true_eq]
theorem metaB_len (g r : Int) : (metaB g r).length = (groups g).length + (groups r).length := by unfold metaB; rw [List.length_append]
theorem metaB_few (g r : Int) : 2 ≤ (metaB g r).length ∧ (metaB g r).length ≤ 6 := by
  have h1 := groups_len g
  have h2 := groups_len r
  rw [metaB_len]; omega
theorem metaB_byte {g r : Int} (h : metaOk g r = true) : ∀ y ∈ metaB g r, 0 ≤ y ∧ y ≤ 255 := by
  have h' := metaOk_iff.1 h
  intro y hy
  unfold metaB at hy
  rcases List.mem_append.1 hy with k | k
  · exact groups_byte g (by omega) (by omega) y k
  · exact groups_byte r (by omega) (by omega) y k
theorem metaF_byte (g r : Int) : ∀ y ∈ metaF g r, 0 ≤ y ∧ y ≤ 255 := by
  unfold metaF
  split
  · refine pageL_byte (by omega) ?_
    rw [str_size]; have := metaB_few g r; omega
  · intro y hy; simp at hy
theorem metaF_page {g r : Int} (h : metaOk g r = true) : pageF 2 (strOfNums (metaB g r)) = metaF g r := by
  unfold pageF metaF
  rw [if_pos h, if_pos ⟨by omega, by rw [str_size]; have := metaB_few g r; omega⟩]
theorem metaF_len (g r : Int) : (metaF g r).length ≤ 16 := by
  unfold metaF
  split
  · rw [pageL_len, innL_len, str_size]
    have := metaB_few g r
    have := (groups_len 2).2
    have : (groups ((metaB g r).length : Int)).length = 1 := by rw [groups_last _ (by omega)]; rfl
    omega
  · simp

/-- What is read as a root. -/
def getMe (n : Nat) (f : Nat → Int) : Int × Int × Bool :=
  let p := getPg n f
  let F : Nat → Int := fun i => (sl p.2.1).getD i 0
  let a := getU p.2.1.size F 0
  let b := getU p.2.1.size F a.2.1
  if p.2.2 = true ∧ a.2.2 = true ∧ b.2.2 = true ∧ p.1 = 2 ∧ b.2.1 = (p.2.1.size : Int) ∧ metaOk a.1 b.1 = true then (a.1, b.1, true) else (0, 0, false)
theorem getMe_is {n : Nat} {f : Nat → Int} {k g q r e : Int} {s : ByteArray} {ok told led : Bool} (hp : getPg n f = (k, s, ok)) (ha : getU s.size (fun i => (sl s).getD i 0) 0 = (g, q, told)) (hb : getU s.size (fun i => (sl s).getD i 0) q = (r, e, led)) :
    getMe n f = if ok = true ∧ told = true ∧ led = true ∧ k = 2 ∧ e = (s.size : Int) ∧ metaOk g r = true then (g, r, true) else (0, 0, false) := by
  unfold getMe
  simp only [hp, ha, hb]
/-- The two numbers stand in the body. -/
theorem meta_inner {g q r e : Int} {s : ByteArray} (ha : getU s.size (fun i => (sl s).getD i 0) 0 = (g, q, true)) (hb : getU s.size (fun i => (sl s).getD i 0) q = (r, e, true)) :
    AtF s.size (fun i => (sl s).getD i 0) 0 (metaB g r) ∧ e = ((metaB g r).length : Int) ∧ (0 ≤ g ∧ g ≤ 1000000) ∧ (0 ≤ r ∧ r ≤ 1000000) := by
  have hf : ∀ i, i < s.size → 0 ≤ (sl s).getD i 0 ∧ (sl s).getD i 0 ≤ 255 := by
    have := bytes_of_list (sl_byte s)
    rwa [sl_len] at this
  obtain ⟨i, e0, hA, hq, hk0, hk1⟩ := getU_read hf ha
  obtain rfl : i = 0 := by omega
  obtain ⟨j, e1, hB, hr, hs0, hs1⟩ := getU_read hf hb
  obtain rfl : j = (groups g).length := by omega
  refine ⟨hA.append (by rw [Nat.zero_add]; exact hB), ?_, ⟨hk0, hk1⟩, ⟨hs0, hs1⟩⟩
  rw [hr, metaB_len]
  push_cast
  omega
/-- What was read as two numbers in a page has the page's bytes just if it is a root's. -/
theorem meta_iff {n : Nat} {f : Nat → Int} {k g q r e : Int} {s : ByteArray} (hf : ∀ i, i < n → 0 ≤ f i ∧ f i ≤ 255) (hp : getPg n f = (k, s, true)) (ha : getU s.size (fun i => (sl s).getD i 0) 0 = (g, q, true)) (hb : getU s.size (fun i => (sl s).getD i 0) q = (r, e, true)) :
    metaF g r = lof n f ↔ (k = 2 ∧ e = (s.size : Int) ∧ metaOk g r = true) := by
  obtain ⟨hA, he, hg, hr⟩ := meta_inner ha hb
  obtain ⟨hk, hs, hL⟩ := getPg_read hf hp
  have hl : (sl s).length = s.size := sl_len s
  constructor
  · intro h
    unfold metaF at h
    split at h
    · rename_i hok
      have hfew := metaB_few g r
      have h6 : (strOfNums (metaB g r)).size ≤ 240 := by rw [str_size]; omega
      have hn : (pageL 2 (strOfNums (metaB g r))).length = n := by rw [h, lof_len]
      have hG := getPg_put (k := 2) (s := strOfNums (metaB g r)) (f := f) (by omega) h6 (fun i hi => by rw [h, lof_get _ _ _ (by omega)])
      rw [hn, hp] at hG
      simp only [Prod.mk.injEq, and_true] at hG
      obtain ⟨rfl, rfl⟩ := hG
      exact ⟨rfl, by rw [he, str_size], hok⟩
    · have hc := congrArg List.length (hL.trans h.symm)
      rw [pageL_len] at hc
      simp at hc
  · rintro ⟨rfl, hes, hok⟩
    unfold metaF
    rw [if_pos hok, ← hL]
    congr 1
    have : metaB g r = sl s := by
      rw [← hA.lof]
      have hlen : (metaB g r).length = (sl s).length := by omega
      rw [hlen]
      simp only [Nat.zero_add]
      exact lof_self (sl s)
    rw [this, strOfNums_sl]
theorem getMe_none {n : Nat} {f : Nat → Int} (h : (getMe n f).2.2 = false) : getMe n f = (0, 0, false) := by
  unfold getMe at h ⊢
  simp only at h ⊢
  split at h
  · cases h
  · rw [if_neg (by assumption)]
/-- What was read as a root is one, and has these bytes. -/
theorem getMe_read {n : Nat} {f : Nat → Int} {g r : Int} (hf : ∀ i, i < n → 0 ≤ f i ∧ f i ≤ 255) (h : getMe n f = (g, r, true)) : metaOk g r = true ∧ metaF g r = lof n f := by
  obtain ⟨⟨k, s, ok⟩, hp⟩ : ∃ x, getPg n f = x := ⟨_, rfl⟩
  obtain ⟨⟨a, q, told⟩, ha⟩ : ∃ x, getU s.size (fun i => (sl s).getD i 0) 0 = x := ⟨_, rfl⟩
  obtain ⟨⟨b, e, led⟩, hb⟩ : ∃ x, getU s.size (fun i => (sl s).getD i 0) q = x := ⟨_, rfl⟩
  rw [getMe_is hp ha hb] at h
  split at h
  · rename_i hc
    obtain ⟨rfl, rfl, rfl, h1, h2, h3⟩ := hc
    simp only [Prod.mk.injEq, and_true] at h
    obtain ⟨rfl, rfl⟩ := h
    exact ⟨h3, (meta_iff hf hp ha hb).2 ⟨h1, h2, h3⟩⟩
  · cases h
/-- A root comes back. -/
theorem getMe_put {g r : Int} {f : Nat → Int} (hok : metaOk g r = true) (hf : ∀ i, i < (metaF g r).length → f i = (metaF g r).getD i 0) : getMe (metaF g r).length f = (g, r, true) := by
  have h' := metaOk_iff.1 hok
  have hm : metaF g r = pageL 2 (strOfNums (metaB g r)) := by unfold metaF; rw [if_pos hok]
  rw [hm] at hf ⊢
  have hfew := metaB_few g r
  have hp := getPg_put (k := 2) (s := strOfNums (metaB g r)) (f := f) (by omega) (by rw [str_size]; omega) hf
  have hsl := sl_strOfNums (metaB_byte hok)
  have hA : AtF (strOfNums (metaB g r)).size (fun i => (sl (strOfNums (metaB g r))).getD i 0) 0 (metaB g r) := by
    rw [hsl, str_size]
    exact ⟨by omega, fun j hj => by rw [Nat.zero_add]⟩
  have e1 := getU_at (x := g) (by omega) (by omega) (AtF.left (L := groups g) (K := groups r) hA)
  have hB := AtF.right (L := groups g) (K := groups r) hA
  have e2 := getU_at (x := r) (by omega) (by omega) hB
  rw [show ((0 : Nat) : Int) = 0 from rfl, Int.zero_add] at e1
  rw [Nat.zero_add] at e2
  rw [getMe_is hp e1 e2, if_pos ⟨rfl, rfl, rfl, rfl, by rw [str_size, metaB_len]; push_cast; rfl, hok⟩]
/-- What is cut is no root. -/
theorem meta_cut {g r : Int} {f : Nat → Int} {j : Nat} (hok : metaOk g r = true) (hf : ∀ i, i < (metaF g r).length → f i = (metaF g r).getD i 0) (hj : j < (metaF g r).length) : getMe j f = (0, 0, false) := by
  have hm : metaF g r = pageL 2 (strOfNums (metaB g r)) := by unfold metaF; rw [if_pos hok]
  rw [hm] at hf hj
  have hfew := metaB_few g r
  have hp := page_cut (k := 2) (s := strOfNums (metaB g r)) (f := f) (by omega) (by rw [str_size]; omega) hf hj
  unfold getMe
  simp [hp]
end Go.Proofs.Ytdjaiappaghfnaa

/-
  The program's MetaOk and the model's.
-/
namespace Go.Proofs.Ytdjaiappaghfnaa
open Go.RowKit
set_option maxRecDepth 4000

set_option maxHeartbeats 1000000 in
theorem insideI_any (x m : Int) (w : World) : Calls Try.prog 76 #[.int .i64 x, .int .i64 m] w fun e w' => e = .returned (.bool (decide (0 ≤ x ∧ x ≤ m))) ∧ w = w' := by
  go_enter Try.func76, Try.ntmps76
  by_cases h : 0 ≤ x
  · have e1 : decide (0 ≤ x) = true := by simpa using h
    go_wp2
    go_ret
    exact ⟨by simp [h], rfl⟩
  · have e1 : decide (0 ≤ x) = false := by simpa using h
    go_wp2
    go_ret
    exact ⟨by simp, rfl⟩
set_option maxHeartbeats 1000000 in
theorem noTree_any (x : Int) (w : World) : Calls Try.prog 95 #[.int .i64 x] w fun e w' => e = .returned (.bool (!decide (2 ≤ x ∧ x ≤ 47))) ∧ w = w' := by
  go_enter Try.func95, Try.ntmps95
  by_cases h : x < 2
  · have e1 : decide (x < 2) = true := by simpa using h
    go_wp2
    go_ret
    exact ⟨by simp; omega, rfl⟩
  · have e1 : decide (x < 2) = false := by simpa using h
    by_cases h2 : 48 ≤ x
    · go_wp2
      go_ret
      exact ⟨by simp; omega, rfl⟩
    · go_wp2
      go_ret
      exact ⟨by simp; omega, rfl⟩

set_option maxHeartbeats 1000000 in
theorem implMetaOk_any (g r : Int) (w : World) :
    Calls Try.prog 78 #[.agg #[.int .i64 g, .int .i64 r]] w fun e w' => e = .returned (.bool (metaOk g r)) ∧ Below w.heap.size w w' := by
  have hB : Below w.heap.size w (w.alloc (.cells #[.int .i64 g, .int .i64 r] 33)) := (Below.refl _ _).alloc (Nat.le_refl _) _
  have hI := fun W => insideI_any g 1000000 W
  have hT := fun W => noTree_any r W
  by_cases h1 : 0 ≤ g ∧ g ≤ 1000000
  · rw [show decide (0 ≤ g ∧ g ≤ 1000000) = true by simpa using h1] at hI
    by_cases h2 : r = 0
    · have e : metaOk g r = true := metaOk_iff.2 ⟨h1, .inl h2⟩
      have e2 : (r == 0) = true := by simpa using h2
      rw [e]
      clear h1 h2 e hT
      go_enter Try.func78, Try.ntmps78
      go_wp2_with fail
      refine (hI _).mono ?_
      rintro e _ ⟨rfl, rfl⟩
      go_wp2
      go_ret
      exact ⟨rfl, hB⟩
    · have e2 : (r == 0) = false := beq_eq_false_iff_ne.2 h2
      by_cases h3 : 2 ≤ r ∧ r ≤ 47
      · have e : metaOk g r = true := metaOk_iff.2 ⟨h1, .inr h3⟩
        rw [show decide (2 ≤ r ∧ r ≤ 47) = true by simpa using h3] at hT
        rw [e]
        clear h1 h2 h3 e
        go_enter Try.func78, Try.ntmps78
        go_wp2_with fail
        refine (hI _).mono ?_
        rintro e _ ⟨rfl, rfl⟩
        go_wp2_with fail
        refine (hT _).mono ?_
        rintro e _ ⟨rfl, rfl⟩
        go_wp2
        go_ret
        exact ⟨rfl, hB⟩
      · have e : metaOk g r = false := by
          cases hq : metaOk g r with
          | false => rfl
          | true => exact absurd (metaOk_iff.1 hq).2 (by omega)
        rw [show decide (2 ≤ r ∧ r ≤ 47) = false by simpa using h3] at hT
        rw [e]
        clear h1 h2 h3 e
        go_enter Try.func78, Try.ntmps78
        go_wp2_with fail
        refine (hI _).mono ?_
        rintro e _ ⟨rfl, rfl⟩
        go_wp2_with fail
        refine (hT _).mono ?_
        rintro e _ ⟨rfl, rfl⟩
        go_wp2
        go_ret
        exact ⟨rfl, hB⟩
  · have e : metaOk g r = false := by
      cases hq : metaOk g r with
      | false => rfl
      | true => exact absurd (metaOk_iff.1 hq).1 h1
    rw [show decide (0 ≤ g ∧ g ≤ 1000000) = false by simpa using h1] at hI
    rw [e]
    clear h1 e hT
    go_enter Try.func78, Try.ntmps78
    go_wp2_with fail
    refine (hI _).mono ?_
    rintro e _ ⟨rfl, rfl⟩
    go_wp2
    go_ret
    exact ⟨rfl, hB⟩

set_option maxHeartbeats 1000000 in
theorem specMetaOk_any (g r : Int) (w : World) :
    Calls Try.prog 68 #[.agg #[.int .i64 g, .int .i64 r]] w fun e w' => e = .returned (.bool (metaOk g r)) ∧ Below w.heap.size w w' := by
  have hB : Below w.heap.size w (w.alloc (.cells #[.int .i64 g, .int .i64 r] 33)) := (Below.refl _ _).alloc (Nat.le_refl _) _
  have hI := fun W => l1In_any g 0 1000000 W
  have hT := fun W => l1In_any r 2 47 W
  by_cases h1 : 0 ≤ g ∧ g ≤ 1000000
  · rw [show (decide (0 ≤ g) && decide (g ≤ 1000000)) = true by simpa using h1] at hI
    by_cases h2 : r = 0
    · have e : metaOk g r = true := metaOk_iff.2 ⟨h1, .inl h2⟩
      have e2 : (r == 0) = true := by simpa using h2
      rw [e]
      clear h1 h2 e hT
      go_enter Try.func68, Try.ntmps68
      go_wp2_with fail
      refine (hI _).mono ?_
      rintro e _ ⟨rfl, rfl⟩
      go_wp2
      go_ret
      exact ⟨rfl, hB⟩
    · have e2 : (r == 0) = false := beq_eq_false_iff_ne.2 h2
      have e : metaOk g r = (decide (2 ≤ r) && decide (r ≤ 47)) := by
        cases hq : metaOk g r with
        | false =>
          symm
          rw [Bool.and_eq_false_iff, decide_eq_false_iff_not, decide_eq_false_iff_not]
          by_cases h5 : 2 ≤ r
          · by_cases h6 : r ≤ 47
            · have := metaOk_iff.2 ⟨h1, .inr ⟨h5, h6⟩⟩
              rw [hq] at this
              cases this
            · exact .inr h6
          · exact .inl h5
        | true =>
          have h7 := (metaOk_iff.1 hq).2
          symm
          rw [Bool.and_eq_true, decide_eq_true_eq, decide_eq_true_eq]
          omega
      obtain ⟨q, hq⟩ : ∃ q, Hid ((decide (2 ≤ r) && decide (r ≤ 47)) = q) := ⟨_, rfl⟩
      rw [hq.out] at hT e
      rw [e]
      clear h1 h2 e hq
      go_enter Try.func68, Try.ntmps68
      go_wp2_with fail
      refine (hI _).mono ?_
      rintro e _ ⟨rfl, rfl⟩
      go_wp2_with fail
      refine (hT _).mono ?_
      rintro e _ ⟨rfl, rfl⟩
      go_wp2
      go_ret
      exact ⟨rfl, hB⟩
  · have e : metaOk g r = false := by
      cases hq : metaOk g r with
      | false => rfl
      | true => exact absurd (metaOk_iff.1 hq).1 h1
    rw [show (decide (0 ≤ g) && decide (g ≤ 1000000)) = false by rw [Bool.and_eq_false_iff, decide_eq_false_iff_not, decide_eq_false_iff_not]; omega] at hI
    rw [e]
    clear h1 e hT
    go_enter Try.func68, Try.ntmps68
    go_wp2_with fail
    refine (hI _).mono ?_
    rintro e _ ⟨rfl, rfl⟩
    go_wp2
    go_ret
    exact ⟨rfl, hB⟩
end Go.Proofs.Ytdjaiappaghfnaa

/-
  Numbers as bytes, one behind the other; rows of bytes that an answer owns, by a list.
-/
namespace Go.Proofs.Ytdjaiappaghfnaa
open Go.RowKit
set_option maxRecDepth 4000

/-- The groups of the first k numbers, one behind the other. -/
def numL (g : Nat → Int) : Nat → List Int
  | 0 => []
  | k + 1 => numL g k ++ groups (clampN (g k))
theorem numL_len (g : Nat → Int) : ∀ k, (numL g k).length ≤ 3 * k
  | 0 => by simp [numL]
  | k + 1 => by have := numL_len g k; have := (groups_len (clampN (g k))).2; simp only [numL, List.length_append]; omega
theorem numL_byte (g : Nat → Int) : ∀ k, ∀ y ∈ numL g k, 0 ≤ y ∧ y ≤ 255
  | 0 => by simp [numL]
  | k + 1 => by
    intro y hy
    rw [numL, List.mem_append] at hy
    rcases hy with hy | hy
    · exact numL_byte g k y hy
    · exact groups_byte _ (clampN_bd _).1 (clampN_bd _).2 y hy
/-- Bytes of the call's own, by a list. -/
def BR (w : World) (B : Nat) (v : Value) (L : List Int) : Prop :=
  ∃ g c, v = .slice (some ⟨g, 0, none⟩) L.length c ∧ B ≤ g ∧ L.length ≤ c ∧ Row 5 w g L.length (fun i => L.getD i 0)
theorem BR.below {w w' : World} {B : Nat} {v : Value} {L : List Int} (h : BR w B v L) (hb : Below w.heap.size w w') : BR w' B v L := by
  obtain ⟨g, c, e, hB, hc, hr⟩ := h
  exact ⟨g, c, e, hB, hc, hr.belowAll hb⟩
theorem BR.mono {w : World} {B B' : Nat} {v : Value} {L : List Int} (h : BR w B v L) (hB : B' ≤ B) : BR w B' v L := by
  obtain ⟨g, c, e, h1, hc, hr⟩ := h
  exact ⟨g, c, e, Nat.le_trans hB h1, hc, hr⟩
theorem getD_byteN {L : List Int} (h : ∀ y ∈ L, 0 ≤ y ∧ y ≤ 255) : ∀ i, i < L.length → 0 ≤ L.getD i 0 ∧ L.getD i 0 ≤ 255 := fun i hi => by
  have := h _ (List.getElem_mem hi)
  simpa [hi] using this
theorem BR.view {w : World} {B : Nat} {v : Value} {L : List Int} (h : BR w B v L) (hy : ∀ y ∈ L, 0 ≤ y ∧ y ≤ 255) : ∃ g c, v = .slice (some ⟨g, 0, none⟩) L.length c ∧ View w (some ⟨g, 0, none⟩) L.length c (fun i => L.getD i 0) := by
  obtain ⟨g, c, e, -, hc, hr⟩ := h
  exact ⟨g, c, e, hr.view hc (getD_byteN hy)⟩
end Go.Proofs.Ytdjaiappaghfnaa

/-
  Rows of one cell each that read, texts and numbers.
-/
namespace Go.Proofs.Ytdjaiappaghfnaa
open Go.RowKit
set_option maxRecDepth 4000

/-- The slice value '.slice ao n cap' reads as the n values f 0 up to f (n - 1), of one cell each. -/
structure OV (w : World) (ao : Option Addr) (n cap : Nat) (f : Nat → Value) : Prop where
  le : n ≤ cap
  cells : 0 < n → ∃ b off, ao = some ⟨b, off, none⟩ ∧ b < w.heap.size ∧ ∀ i, i < n → w.cell? ⟨b, off + i, none⟩ = some (f i)
theorem OV.below {w w' : World} {ao : Option Addr} {n cap : Nat} {f : Nat → Value} (h : OV w ao n cap f) (hb : Below w.heap.size w w') : OV w' ao n cap f := by
  refine ⟨h.le, fun hn => ?_⟩
  obtain ⟨b, off, e, hlt, hc⟩ := h.cells hn
  refine ⟨b, off, e, Nat.lt_of_lt_of_le hlt hb.size, fun i hi => ?_⟩
  rw [hb.cell (p := ⟨b, off + i, none⟩) hlt]
  exact hc i hi
theorem OV.set {w : World} {a n c B : Nat} {f : Nat → Value} (h : OV w (some ⟨a, 0, none⟩) n c f) (hne : a ≠ B) (i : Nat) (u : Value) : OV (w.setCell ⟨B, i, none⟩ u) (some ⟨a, 0, none⟩) n c f := by
  refine ⟨h.le, fun hn => ?_⟩
  obtain ⟨b, off, e, hlt, hc⟩ := h.cells hn
  have hba : b = a := by cases e; rfl
  refine ⟨b, off, e, by simpa using hlt, fun j hj => ?_⟩
  rw [World.cell?_of_block (w := w) (a := ⟨b, off + j, none⟩) (Below.heap_setCell _ _ _ _ (by rw [hba]; exact hne))]
  exact hc j hj
theorem OV.ofIs {w : World} {b : Nat} {t : TypeId} {n cap : Nat} {f : Nat → Value} (h : w.rowIs b t n f) (hc : n ≤ cap) : OV w (some ⟨b, 0, none⟩) n cap f :=
  ⟨hc, fun _ => ⟨b, 0, rfl, h.lt, fun i hi => by rw [Nat.zero_add]; exact h.cell hi⟩⟩
abbrev TxV (w : World) (ao : Option Addr) (n cap : Nat) (f : Nat → ByteArray) : Prop := OV w ao n cap (fun i => .string (f i))
abbrev NuV (w : World) (ao : Option Addr) (n cap : Nat) (f : Nat → Int) : Prop := OV w ao n cap (fun i => .int .i64 (f i))
theorem txv_at {w : World} {ao : Option Addr} {n cap : Nat} {f : Nat → ByteArray} (h : TxV w ao n cap f) {k : Nat} (hk : k < n) : ∃ b off, ao = some ⟨b, off, none⟩ ∧ b < w.heap.size ∧ w.cell? ⟨b, off + k, none⟩ = some (.string (f k)) := by
  obtain ⟨b, off, e, hlt, hc⟩ := h.cells (by omega)
  exact ⟨b, off, e, hlt, hc k hk⟩
theorem nuv_at {w : World} {ao : Option Addr} {n cap : Nat} {f : Nat → Int} (h : NuV w ao n cap f) {k : Nat} (hk : k < n) : ∃ b off, ao = some ⟨b, off, none⟩ ∧ b < w.heap.size ∧ w.cell? ⟨b, off + k, none⟩ = some (.int .i64 (f k)) := by
  obtain ⟨b, off, e, hlt, hc⟩ := h.cells (by omega)
  exact ⟨b, off, e, hlt, hc k hk⟩
end Go.Proofs.Ytdjaiappaghfnaa

/-
  The program's putNumbers at as many numbers as there are: what was there, and behind it their groups.
-/
namespace Go.Proofs.Ytdjaiappaghfnaa
open Go.RowKit
set_option maxRecDepth 4000

/-- Bytes of the call's own, maybe none, read. -/
theorem view_own_opt {w : World} {base : Nat} {v : Value} {L : List Int} (h : w.ownsRow base 5 1 v L.length (bl L)) (hy : ∀ y ∈ L, 0 ≤ y ∧ y ≤ 255) : ∃ a c, v = .slice a L.length c ∧ (a = none → L.length = 0 ∧ c = 0) ∧ View w a L.length c (fun i => L.getD i 0) := by
  by_cases hv : v = .slice none 0 0
  · have hl : L.length = 0 := by
      obtain ⟨hl, h⟩ := h
      rcases h with ⟨_, h0⟩ | ⟨g, k, cur, e, _⟩
      · exact h0
      · rw [hv] at e; cases e
    refine ⟨none, 0, by rw [hv, hl], fun _ => ⟨hl, rfl⟩, ⟨by omega, fun i hi => by omega, fun hn => by omega⟩⟩
  · obtain ⟨g, c, e, -, hgc, hr⟩ := row_of_own' h hv
    exact ⟨_, c, e, (fun e => by cases e), hr.view hgc (getD_byteN hy)⟩

set_option maxHeartbeats 2000000 in
theorem putNums_many (ai : Option Addr) (L0 : List Int) (cap : Nat) (a : Option Addr) (m c : Nat) (g : Nat → Int) (w : World) (hv : View w ai L0.length cap (fun i => L0.getD i 0)) (hni : ai = none → L0.length = 0 ∧ cap = 0) (hn : L0.length ≤ 35184372088832) (hm : NuV w a m c g) (hm1 : m ≤ 1048577) :
    Calls Try.prog 80 #[.slice ai L0.length cap, .slice a m c] w fun e w' => ∃ v, e = .returned v ∧ BR w' w.heap.size v (L0 ++ numL g m) ∧ Below w.heap.size w w' := by
  obtain ⟨i0, hi, hz0, hz1, hz2⟩ := info_parts Try.info5
  go_enter Try.func80, Try.ntmps80
  go_wp2
  go_loopg [5, 11] m (fun q v i wr => ∃ k : Nat, k ≤ m ∧ q = m - k ∧ i = .int .i64 k ∧ wr.ownsRow w.heap.size 5 1 v (numL g k).length (bl (numL g k)) ∧ Below w.heap.size w wr)
  case atStart => exact ⟨0, Nat.zero_le _, rfl, rfl, World.ownsRow_nil _ _ _ _, Below.refl _ _⟩
  case round =>
    obtain ⟨k, hk, rfl, rfl, hown, hB⟩ := hrel
    by_cases hlt : k < m
    · obtain ⟨b1, o1, rfl, hb1, x0⟩ := nuv_at (hm.below hB) hlt
      have hkz : (k : Int) < (m : Int) := by omega
      have hgl := groups_len (clampN (g k))
      have hkl := numL_len g k
      have HNX : Hid (numL g (k + 1) = numL g k ++ groups (clampN (g k))) := rfl
      obtain ⟨x, hx⟩ : ∃ x, Hid (g k = x) := ⟨_, rfl⟩
      obtain ⟨Q, hQ⟩ : ∃ Q, Hid (numL g k = Q) := ⟨_, rfl⟩
      rw [hx.out] at x0 HNX hgl
      rw [hQ.out] at hown hkl HNX
      have HV : Hid (View w ai L0.length cap (fun i => L0.getD i 0)) := hv
      have HM : Hid (NuV w (some ⟨b1, o1, none⟩) m c g) := hm
      have HB : Hid (Below w.heap.size w wr) := hB
      clear hv hm hB
      go_wp2
      all_goals
        go_loopg [5, 8] (clampN x).toNat (fun gg v s wq => ∃ (y : Int) (ys : List Int), s = .int .i64 y ∧ 0 ≤ y ∧ y ≤ 1000000 ∧ gg = y.toNat ∧ groups (clampN x) = ys ++ groups y ∧ wq.ownsRow w.heap.size 5 1 v (Q ++ ys).length (bl (Q ++ ys)) ∧ Below w.heap.size w wq)
        case atStart => exact ⟨clampN x, [], congrArg (Value.int .i64) (by unfold clampN; split <;> (try split) <;> omega), (clampN_bd x).1, (clampN_bd x).2, rfl, rfl, by rw [List.append_nil]; exact hown, HB.out⟩
        case round =>
          clear hown HB
          obtain ⟨y, ys, rfl, hy0, hy1, rfl, hgr, hown, hB⟩ := hrel
          have HG : Hid (groups (clampN x) = ys ++ groups y) := hgr
          have hlen : (Q ++ ys).length ≤ 3 * k + 3 := by have := hgl; rw [hgr] at this; simp at this ⊢; have := groups_len y; omega
          clear hgr
          by_cases hlt2 : y < 128
          · go_wp2_with (first | (at_builtin; go_must (refine wpList_append_own _ rfl (.tmp 29) (.tmp 32) 63 rfl w.heap.size 5 i0 (.int .u8 0) 1 1 Try.underlying63 hi hz0 hz1 hz2 rfl (by decide) _ _ _ rfl (hown.alloc _) ⟨wr.heap.size, 0, none⟩ 1 1 [.int .u8 y] rfl rfl (cellNew _ _ _) (bl_one [y]) (by unfold maxLen; omega) (by omega) (by have := hB.size; simp; omega) ?_); intro v2 w2 hown2 hgr2 _))
            have hB2 : Below w.heap.size w w2 := (hB.alloc hB.size _).grown hgr2 (by have := hB.size; simp; omega) (fun k hk => (hown.lt k hk).1)
            have hO2 : w2.ownsRow w.heap.size 5 1 v2 (numL g (k + 1)).length (bl (numL g (k + 1))) := by
              rw [HNX.out, HG.out, groups_last y hlt2, ← List.append_assoc, List.length_append, bl_append]
              exact hown2
            clear hgr2 hown hown2 hB
            go_wp2
            go_roundg (m - (k + 1))
            case measure => omega
            case rel => exact ⟨k + 1, by omega, rfl, by go_num, hO2, hB2⟩
          · have hG2 : Hid (groups (clampN x) = (ys ++ [y % 128 + 128]) ++ groups (y / 128)) := by
              have := HG.out
              rw [groups_step y (by omega) hy1] at this
              rw [List.append_assoc]; exact this
            go_wp2_with (at_builtin; go_must (refine wpList_append_own _ rfl (.tmp 20) (.tmp 25) 63 rfl w.heap.size 5 i0 (.int .u8 0) 1 1 Try.underlying63 hi hz0 hz1 hz2 rfl (by decide) _ _ _ rfl (hown.alloc _) ⟨wr.heap.size, 0, none⟩ 1 1 [.int .u8 (y % 128 + 128)] rfl rfl (cellNew _ _ _) (bl_one [y % 128 + 128]) (by unfold maxLen; omega) (by omega) (by have := hB.size; simp; omega) ?_); intro v2 w2 hown2 hgr2 _)
            have hB2 : Below w.heap.size w w2 := (hB.alloc hB.size _).grown hgr2 (by have := hB.size; simp; omega) (fun k hk => (hown.lt k hk).1)
            have hO2 : w2.ownsRow w.heap.size 5 1 v2 (Q ++ (ys ++ [y % 128 + 128])).length (bl (Q ++ (ys ++ [y % 128 + 128]))) := by
              rw [← List.append_assoc, List.length_append, bl_append]
              exact hown2
            clear hgr2 hown hown2 hB
            go_wp2
            go_roundg ((y / 128).toNat)
            case measure => omega
            case rel => exact ⟨y / 128, ys ++ [y % 128 + 128], rfl, by omega, by omega, rfl, hG2.out, hO2, hB2⟩
    · obtain rfl : k = m := by omega
      have hkz : ¬ (k : Int) < (k : Int) := by omega
      have hkl := numL_len g k
      obtain ⟨a2, c2, rfl, hno, hV2⟩ := view_own_opt hown (numL_byte g k)
      have hP := putBytes_opt ai L0.length cap (fun i => L0.getD i 0) a2 (numL g k).length c2 (fun i => (numL g k).getD i 0) wr (hv.below hB) hni hV2 hno (by omega)
      have HB : Hid (Below w.heap.size w wr) := hB
      clear hm hv hown hB hV2
      go_wp2_with fail
      refine hP.mono ?_
      rintro e w3 ⟨rfl, hown3, hb3⟩
      have HO : Hid (BR w3 w.heap.size (.slice (some ⟨wr.heap.size, 0, none⟩) (L0.length + (numL g k).length) (L0.length + (numL g k).length)) (L0 ++ numL g k) ∧ Below w.heap.size w w3) := by
        have hbw := HB.out
        rw [lof_self, lof_self] at hown3
        have hr := row_of_owned hown3
        exact ⟨⟨wr.heap.size, _, by rw [List.length_append], hbw.size, by rw [List.length_append]; exact Nat.le_refl _, by rw [List.length_append]; exact hr⟩, hbw.trans (hb3.mono hbw.size)⟩
      clear hown3 hb3 hP
      go_wp2
      go_ret
      exact ⟨_, rfl, HO.out.1, HO.out.2⟩
end Go.Proofs.Ytdjaiappaghfnaa

/-
  Rows of one number, and of two.
-/
namespace Go.Proofs.Ytdjaiappaghfnaa
open Go.RowKit
set_option maxRecDepth 4000

theorem nuv_one (w : World) (x : Int) (T : TypeId) : NuV (w.alloc (.cells #[.int .i64 x] T)) (some ⟨w.heap.size, 0, none⟩) 1 1 (fun _ => x) :=
  ⟨Nat.le_refl _, fun _ => ⟨w.heap.size, 0, rfl, by simp, fun i hi => by
    obtain rfl : i = 0 := by omega
    simp⟩⟩
def two (x y : Int) (i : Nat) : Int := if i = 0 then x else y
theorem nuv_two (w : World) (x y : Int) (T : TypeId) : NuV (w.alloc (.cells #[.int .i64 x, .int .i64 y] T)) (some ⟨w.heap.size, 0, none⟩) 2 2 (two x y) :=
  ⟨Nat.le_refl _, fun _ => ⟨w.heap.size, 0, rfl, by simp, fun i hi => by
    have : i = 0 ∨ i = 1 := by omega
    rcases this with rfl | rfl
    · simp [two]
    · simp [two, go_sem]⟩⟩
theorem numL_two (x y : Int) : numL (two x y) 2 = groups (clampN x) ++ groups (clampN y) := by simp [numL, two]
end Go.Proofs.Ytdjaiappaghfnaa

/-
  The program's PutMeta and the model's.
-/
namespace Go.Proofs.Ytdjaiappaghfnaa
open Go.RowKit
set_option maxRecDepth 4000

theorem clamp_meta {g r : Int} (h : metaOk g r = true) : clampN g = g ∧ clampN r = r := by
  have h' := metaOk_iff.1 h
  exact ⟨clamp_id (by omega) (by omega), clamp_id (by omega) (by omega)⟩
theorem metaF_no {g r : Int} (h : metaOk g r = false) : metaF g r = [] := by unfold metaF; rw [if_neg (by rw [h]; simp)]
set_option maxHeartbeats 1000000 in
theorem implPutMeta_any (g r : Int) (w : World) :
    Calls Try.prog 46 #[.agg #[.int .i64 g, .int .i64 r]] w (PageTo w (metaF g r)) := by
  have hB : Below w.heap.size w (w.alloc (.cells #[.int .i64 g, .int .i64 r] 33)) := (Below.refl _ _).alloc (Nat.le_refl _) _
  have hO := fun W => implMetaOk_any g r W
  have c0 : (w.alloc (.cells #[.int .i64 g, .int .i64 r] 33)).cell? ⟨w.heap.size, 0, none⟩ = some (.int .i64 g) := by simp
  have c1 : (w.alloc (.cells #[.int .i64 g, .int .i64 r] 33)).cell? ⟨w.heap.size, 1, none⟩ = some (.int .i64 r) := by simp [go_sem]
  cases hok : metaOk g r with
  | false =>
    have hF := metaF_no hok
    rw [hok] at hO
    obtain ⟨L, hL⟩ : ∃ L, Hid (metaF g r = L) := ⟨_, rfl⟩
    rw [hL.out] at hF ⊢
    go_enter Try.func46, Try.ntmps46
    go_wp2_with fail
    refine (hO _).mono ?_
    rintro e w1 ⟨rfl, hb1⟩
    have hB1 := hB.trans (hb1.mono hB.size)
    clear hO hb1 hB c0 c1
    go_wp2
    go_ret
    rw [hF]
    exact ⟨_, 0, rfl, hB1.size, Nat.le_refl _, noRow _ _ _, hB1.alloc hB1.size _⟩
  | true =>
    rw [hok] at hO
    have HF : Hid (pageF 2 (strOfNums (metaB g r)) = metaF g r) := metaF_page hok
    obtain ⟨k1, k2⟩ := clamp_meta hok
    have HB : Hid (numL (two g r) 2 = metaB g r) := by show _ = _; rw [numL_two, k1, k2]; rfl
    have hfew := metaB_few g r
    have HY : Hid (∀ y ∈ metaB g r, 0 ≤ y ∧ y ≤ 255) := metaB_byte hok
    obtain ⟨L, hL⟩ : ∃ L, Hid (metaF g r = L) := ⟨_, rfl⟩
    obtain ⟨Q, hQ⟩ : ∃ Q, Hid (metaB g r = Q) := ⟨_, rfl⟩
    rw [hL.out, hQ.out] at HF
    rw [hQ.out] at HB hfew HY
    rw [hL.out]
    have hN : ∀ (W : World) (a : Addr), NuV W (some a) 2 2 (two g r) → Calls Try.prog 80 #[.slice none 0 0, .slice (some a) 2 2] W fun e w' => ∃ v, e = .returned v ∧ BR w' W.heap.size v Q ∧ Below W.heap.size W w' := by
      intro W a h
      have := putNums_many none [] 0 (some a) 2 2 (two g r) W (noView _ _) (fun _ => ⟨rfl, rfl⟩) (by simp) h (by omega)
      rw [List.nil_append, HB.out] at this
      exact this
    have hP : ∀ (W : World) (v : Value) (B : Nat), BR W B v Q → Calls Try.prog 79 #[.int .i64 2, v] W (PageTo W L) := by
      intro W v B h
      obtain ⟨b, c, rfl, hv⟩ := h.view HY.out
      have := putPage_impl b 0 Q.length c (fun i => Q.getD i 0) 2 W hv (by omega) (by omega) (by omega)
      rw [lof_self, HF.out] at this
      exact this
    clear hL hQ HB HY HF k1 k2 hok
    go_enter Try.func46, Try.ntmps46
    go_wp2_with fail
    refine (hO _).mono ?_
    rintro e w1 ⟨rfl, hb1⟩
    have x0 : w1.cell? ⟨w.heap.size, 0, none⟩ = some (.int .i64 g) := by rw [hb1.cell (by simp)]; exact c0
    have x1 : w1.cell? ⟨w.heap.size, 1, none⟩ = some (.int .i64 r) := by rw [hb1.cell (by simp)]; exact c1
    have hB1 := hB.trans (hb1.mono hB.size)
    clear hO hb1 hB c0 c1
    go_wp2_with fail
    refine (hN _ _ (nuv_two _ _ _ _)).mono ?_
    rintro e w2 ⟨v, rfl, hv, hb2⟩
    have hB2 : Below w.heap.size w w2 := (hB1.alloc hB1.size _).trans (hb2.mono (by have := hB1.size; simp; omega))
    clear hN hb2 x0 x1
    go_wp2_with fail
    refine (hP _ _ _ hv).mono ?_
    rintro e w3 ⟨g3, c3, rfl, hg3, hc3, hr3, hb3⟩
    clear hP hv
    go_wp2
    go_ret
    exact ⟨g3, c3, rfl, Nat.le_trans hB2.size hg3, hc3, hr3, hB2.trans (hb3.mono hB2.size)⟩

set_option maxHeartbeats 1000000 in
theorem specPutMeta_any (g r : Int) (w : World) :
    Calls Try.prog 42 #[.agg #[.int .i64 g, .int .i64 r]] w (PageTo w (metaF g r)) := by
  have hB : Below w.heap.size w (w.alloc (.cells #[.int .i64 g, .int .i64 r] 33)) := (Below.refl _ _).alloc (Nat.le_refl _) _
  have hO := fun W => specMetaOk_any g r W
  have c0 : (w.alloc (.cells #[.int .i64 g, .int .i64 r] 33)).cell? ⟨w.heap.size, 0, none⟩ = some (.int .i64 g) := by simp
  have c1 : (w.alloc (.cells #[.int .i64 g, .int .i64 r] 33)).cell? ⟨w.heap.size, 1, none⟩ = some (.int .i64 r) := by simp [go_sem]
  cases hok : metaOk g r with
  | false =>
    have hF := metaF_no hok
    rw [hok] at hO
    obtain ⟨L, hL⟩ : ∃ L, Hid (metaF g r = L) := ⟨_, rfl⟩
    rw [hL.out] at hF ⊢
    go_enter Try.func42, Try.ntmps42
    go_wp2_with fail
    refine (hO _).mono ?_
    rintro e w1 ⟨rfl, hb1⟩
    have hB1 := hB.trans (hb1.mono hB.size)
    clear hO hb1 hB c0 c1
    go_wp2
    go_ret
    rw [hF]
    exact ⟨_, 0, rfl, hB1.size, Nat.le_refl _, noRow _ _ _, hB1.alloc hB1.size _⟩
  | true =>
    rw [hok] at hO
    have HF : Hid (pageF 2 (strOfNums (metaB g r)) = metaF g r) := metaF_page hok
    have h' := metaOk_iff.1 hok
    obtain ⟨k1, k2⟩ := clamp_meta hok
    have hfew := metaB_few g r
    have hge := groups_len g
    have hre := groups_len r
    have HY1 : Hid (∀ y ∈ groups g, 0 ≤ y ∧ y ≤ 255) := groups_byte g (by omega) (by omega)
    have HY : Hid (∀ y ∈ metaB g r, 0 ≤ y ∧ y ≤ 255) := metaB_byte hok
    have HB : Hid (metaB g r = groups g ++ groups r) := rfl
    obtain ⟨L, hL⟩ : ∃ L, Hid (metaF g r = L) := ⟨_, rfl⟩
    obtain ⟨Q, hQ⟩ : ∃ Q, Hid (metaB g r = Q) := ⟨_, rfl⟩
    rw [hL.out, hQ.out] at HF
    rw [hQ.out] at HB hfew HY
    rw [hL.out]
    have hU1 : ∀ (W : World) (b : Nat), Calls Try.prog 73 #[.slice (some ⟨b, 0, none⟩) 0 0, .int .i64 g] W fun e w' => ∃ v, e = .returned v ∧ BR w' W.heap.size v (groups g) ∧ Below W.heap.size W w' := by
      intro W b
      refine (putU_spec b 0 0 0 (fun _ => 0) g W ⟨Nat.le_refl _, fun _ hi => absurd hi (Nat.not_lt_zero _), fun h => absurd h (Nat.lt_irrefl _)⟩ (by omega) (by omega) (by omega)).mono ?_
      rintro e w' ⟨v, rfl, hown, hb⟩
      rw [Nat.zero_add, show lof 0 (fun _ => (0 : Int)) = [] from rfl, List.nil_append, k1] at hown
      obtain ⟨g', c', rfl, hg', hgc', hrow⟩ := row_of_own hown (by omega)
      exact ⟨_, rfl, ⟨g', c', rfl, hg', hgc', hrow⟩, hb⟩
    have hU2 : ∀ (W : World) (v : Value) (B : Nat), BR W B v (groups g) → Calls Try.prog 73 #[v, .int .i64 r] W fun e w' => ∃ v, e = .returned v ∧ BR w' W.heap.size v Q ∧ Below W.heap.size W w' := by
      intro W v B h
      obtain ⟨b, c, rfl, hv⟩ := h.view HY1.out
      refine (putU_spec b 0 (groups g).length c (fun i => (groups g).getD i 0) r W hv (by omega) (by omega) (by omega)).mono ?_
      rintro e w' ⟨v, rfl, hown, hb⟩
      rw [lof_self, k2, ← HB.out, show (groups g).length + (groups r).length = Q.length by rw [HB.out, List.length_append]] at hown
      obtain ⟨g', c', rfl, hg', hgc', hrow⟩ := row_of_own hown (by omega)
      exact ⟨_, rfl, ⟨g', c', rfl, hg', hgc', hrow⟩, hb⟩
    have hP : ∀ (W : World) (v : Value) (B : Nat), BR W B v Q → Calls Try.prog 72 #[.int .i64 2, v] W (PageTo W L) := by
      intro W v B h
      obtain ⟨b, c, rfl, hv⟩ := h.view HY.out
      have := putPage_spec b 0 Q.length c (fun i => Q.getD i 0) 2 W hv (by omega) (by omega) (by omega)
      rw [lof_self, HF.out] at this
      exact this
    clear hL hQ HB HY HY1 HF k1 k2 hok h'
    go_enter Try.func42, Try.ntmps42
    go_wp2_with fail
    refine (hO _).mono ?_
    rintro e w1 ⟨rfl, hb1⟩
    have hB1 := hB.trans (hb1.mono hB.size)
    have HX : Hid (∀ W, Below w1.heap.size w1 W → W.cell? ⟨w.heap.size, 0, none⟩ = some (.int .i64 g) ∧ W.cell? ⟨w.heap.size, 1, none⟩ = some (.int .i64 r)) := by
      intro W hW
      have h1 : (w.alloc (.cells #[.int .i64 g, .int .i64 r] 33)).heap.size ≤ w1.heap.size := hb1.size
      have h2 : w.heap.size < w1.heap.size := by simp at h1; omega
      refine ⟨?_, ?_⟩
      · rw [hW.cell h2, hb1.cell (by simp)]; exact c0
      · rw [hW.cell h2, hb1.cell (by simp)]; exact c1
    have hxl : w.heap.size < w1.heap.size := by have := hb1.size; simp at this; omega
    clear hO hb1 hB c0 c1
    obtain ⟨x0, x1⟩ := HX.out w1 (Below.refl _ _)
    go_wp2_with fail
    go_region_held3 (fun W => W.cell? ⟨w.heap.size, 0, none⟩ = some (.int .i64 g) ∧ W.cell? ⟨w.heap.size, 1, none⟩ = some (.int .i64 r)) (first | assumption | go_keep) (first
      | (go_at_call_of 73 (r); refine (hU2 _ _ _ (by first | exact hv2 | exact hv2.below (Below.refl _ _).drew | exact hv2.below (Below.refl _ _).drew.drew)).mono ?_; rintro e w3 ⟨v3, rfl, hv3, hb3⟩; have hb3' : Hid (Below w1.heap.size w1 w3) := Below.trans (by repeat (first | exact hb2'.out | refine Below.drew ?_)) (hb3.mono (by have := hb2'.out.size; simpa using this)); have hx3 := HX.out w3 hb3'.out)
      | (go_at_call_of 73 (g); refine (hU1 _ _).mono ?_; rintro e w2 ⟨v2, rfl, hv2, hb2⟩; have hb2' : Hid (Below w1.heap.size w1 w2) := Below.trans (by repeat (first | exact Below.refl _ _ | exact (Below.refl _ _).alloc (by simp) _ | refine Below.drew ?_)) (hb2.mono (by simp)); have hx2 := HX.out w2 hb2'.out)
      | (go_at_call 72; refine (hP _ _ _ (by first | exact hv3 | exact hv3.below (Below.refl _ _).drew | exact hv3.below (Below.refl _ _).drew.drew)).mono ?_; rintro e w4 ⟨g4, c4, rfl, hg4, hc4, hr4, hb4⟩; have hb4' : Hid (Below w1.heap.size w1 w4) := Below.trans (by repeat (first | exact hb3'.out | refine Below.drew ?_)) (hb4.mono (by have := hb3'.out.size; simpa using this)); have hx4 := HX.out w4 hb4'.out))
    have hbw := hB1.trans (hb4'.out.mono hB1.size)
    have hs3 : w.heap.size ≤ g4 := Nat.le_trans hB1.size (Nat.le_trans hb3'.out.size hg4)
    clear hx2 hx3 hx4 hv2 hv3 hb2 hb3 hb4 hU1 hU2 hP x0 x1
    go_wp2
    go_ret
    exact ⟨g4, c4, rfl, hs3, hc4, hr4, hbw⟩
end Go.Proofs.Ytdjaiappaghfnaa

