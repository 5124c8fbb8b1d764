/-
  Together: PagePut, PageCut, MetaPlain, DiskView, DiskOwn, EqBytes, Mark
-/
import Derived.Test.YtficmogjpnmfdaaFM2
import Derived.Deep.RegionHeld3
import Derived.Test.YtficmogjpnmfdaaFM1
/-
  The program's PutPage and the model's: a page in memory of its own.
-/
namespace Go.Proofs.Ytficmogjpnmfdaa
open Go.RowKit
set_option maxRecDepth 4000

theorem clamp_id {x : Int} (h0 : 0 ≤ x) (h1 : x ≤ 1000000) : clampN x = x := by unfold clampN; rw [if_neg (by omega), if_neg (by omega)]
theorem str_size (l : List Int) : (strOfNums l).size = l.length := by
  have := strOfNums_data l
  show (strOfNums l).data.size = _
  rw [← Array.length_toList, this, List.length_map]
/-- What is made in three steps is a page. -/
theorem page_steps {k : Int} {s : ByteArray} {N1 N2 : Nat} {F1 F2 : Nat → Int} (hk : k = 1 ∨ k = 2) (hs : s.size ≤ 240) (e1 : N1 = (groups (clampN k)).length) (h1 : F1 = fun i => (groups (clampN k)).getD i 0) (e2 : N2 = N1 + (groups (clampN s.size)).length + s.size) (h2 : F2 = fun i => (textL N1 F1 s).getD i 0) :
    lof N2 F2 ++ sumL (crc N2 F2) = pageF k s ∧ N2 + 4 = (pageF k s).length := by
  have c1 : clampN k = k := clamp_id (by omega) (by omega)
  have c2 : clampN (s.size : Int) = s.size := clamp_id (by omega) (by omega)
  rw [c1] at e1 h1
  rw [c2] at e2
  have hl : lof N1 F1 = groups k := by rw [e1, h1]; exact lof_self _
  have ht : textL N1 F1 s = innL k s := by
    unfold textL innL txtL
    rw [hl, c2, List.append_assoc]
  rw [ht] at h2
  have hn : N2 = (innL k s).length := by rw [innL_len, e2, e1]
  have hl2 : lof N2 F2 = innL k s := by rw [hn, h2]; exact lof_self _
  unfold pageF
  rw [if_pos ⟨hk, hs⟩, pageL_len, hl2, hn, h2]
  exact ⟨rfl, rfl⟩

set_option maxHeartbeats 1000000 in
theorem isKind_any (k : Int) (w : World) : Calls Try.prog 78 #[.int .i64 k] w fun e w' => e = .returned (.bool (decide (k = 1) || decide (k = 2))) ∧ w = w' := by
  go_enter Try.func78, Try.ntmps78
  by_cases h1 : k = 1
  · subst h1
    go_wp2
    go_ret
    exact ⟨rfl, rfl⟩
  · have e1 : (k == 1) = false := beq_eq_false_iff_ne.2 h1
    by_cases h2 : k = 2
    · subst h2
      go_wp2
      go_ret
      exact ⟨rfl, rfl⟩
    · have e2 : (k == 2) = false := beq_eq_false_iff_ne.2 h2
      go_wp2
      go_ret
      exact ⟨by simp [h1, h2], rfl⟩

/-- What PutPage comes to. -/
def PageTo (w : World) (l : List Int) (e : Ending) (w' : World) : Prop := ∃ g c, e = .returned (.slice (some ⟨g, 0, none⟩) l.length c) ∧ w.heap.size ≤ g ∧ l.length ≤ c ∧ Row 5 w' g l.length (fun i => l.getD i 0) ∧ Below w.heap.size w w'

set_option maxHeartbeats 1000000 in
theorem putPage_impl (b off n cap : Nat) (f : Nat → Int) (k : Int) (w : World) (hv : View w (some ⟨b, off, none⟩) n cap f) (hn : n ≤ 1048576) (hk0 : -9223372036854775808 ≤ k) (hk1 : k ≤ 9223372036854775807) :
    Calls Try.prog 61 #[.int .i64 k, .slice (some ⟨b, off, none⟩) n cap] w (PageTo w (pageF k (strOfNums (lof n f)))) := by
  have hsz : (strOfNums (lof n f)).size = n := by rw [str_size, lof_len]
  have HQ : Hid (∀ W, Below w.heap.size w W → (convert 49 9 (.slice (some ⟨b, off, none⟩) n cap)).run Try.prog W = .ok (.string (strOfNums (lof n f))) W) := fun W hb => conv_view (hv.below hb)
  obtain ⟨s, hs⟩ : ∃ s, Hid (strOfNums (lof n f) = s) := ⟨_, rfl⟩
  rw [hs.out] at hsz HQ ⊢
  by_cases hk : k = 1 ∨ k = 2
  case neg =>
    have HF : Hid (pageF k s = []) := by show _ = _; unfold pageF; rw [if_neg (fun h => hk h.1)]
    have hV := fun W => isKind_any k W
    have hkk : (decide (k = 1) || decide (k = 2)) = false := by simpa using hk
    rw [hkk] at hV
    go_enter Try.func61, Try.ntmps61
    go_wp2_with fail
    refine (hV _).mono ?_
    rintro e _ ⟨rfl, rfl⟩
    go_wp2
    go_ret
    rw [HF.out]
    exact ⟨_, 0, rfl, Nat.le_refl _, Nat.le_refl _, noRow _ _ _, (Below.refl _ _).alloc (Nat.le_refl _) _⟩
  have hV := fun W => isKind_any k W
  have hkk : (decide (k = 1) || decide (k = 2)) = true := by simpa using hk
  rw [hkk] at hV
  by_cases hl : n ≤ 240
  case neg =>
    have HF : Hid (pageF k s = []) := by show _ = _; unfold pageF; rw [if_neg (fun h => hl (by have := h.2; omega))]
    have hz : (240 : Int) < n := by omega
    go_enter Try.func61, Try.ntmps61
    go_wp2_with fail
    refine (hV _).mono ?_
    rintro e _ ⟨rfl, rfl⟩
    go_wp2
    go_ret
    rw [HF.out]
    exact ⟨_, 0, rfl, Nat.le_refl _, Nat.le_refl _, noRow _ _ _, (Below.refl _ _).alloc (Nat.le_refl _) _⟩
  have hz : ¬ (240 : Int) < n := by omega
  have hq0 := HQ.out w.drew (Below.refl _ _).drew
  obtain ⟨N1, hN1⟩ : ∃ N1, Hid (N1 = (groups (clampN k)).length) := ⟨_, rfl⟩
  obtain ⟨F1, hF1⟩ : ∃ F1 : Nat → Int, Hid (F1 = fun i => (groups (clampN k)).getD i 0) := ⟨_, rfl⟩
  obtain ⟨N2, hN2⟩ : ∃ N2, Hid (N2 = N1 + (groups (clampN s.size)).length + s.size) := ⟨_, rfl⟩
  obtain ⟨F2, hF2⟩ : ∃ F2 : Nat → Int, Hid (F2 = fun i => (textL N1 F1 s).getD i 0) := ⟨_, rfl⟩
  have HP := page_steps (k := k) (s := s) hk (by omega) hN1.out hF1.out hN2.out hF2.out
  obtain ⟨L, hL⟩ : ∃ L, Hid (pageF k s = L) := ⟨_, rfl⟩
  rw [hL.out] at HP ⊢
  have hl1 : N1 ≤ 3 := by rw [hN1.out]; exact (groups_len _).2
  have hl2 : N2 ≤ 2000000 := by rw [hN2.out]; have := (groups_len (clampN s.size)).2; omega
  have hl3 : N2 + 4 = L.length := HP.2
  have HB1 : Hid (∀ i, i < N1 → 0 ≤ F1 i ∧ F1 i ≤ 255) := by
    show ∀ i, _
    rw [hN1.out, hF1.out]
    exact bytes_of_list (groups_byte _ (clampN_bd _).1 (clampN_bd _).2)
  have HB2 : Hid (∀ i, i < N2 → 0 ≤ F2 i ∧ F2 i ≤ 255) := by
    show ∀ i, _
    have hlt : (textL N1 F1 s).length = N2 := by rw [textL_len, hN2.out]
    rw [← hlt, hF2.out]
    refine bytes_of_list (fun y hy => ?_)
    unfold textL at hy
    rcases List.mem_append.1 hy with h | h
    · rcases List.mem_append.1 h with h | h
      · exact lof_byteS HB1.out y h
      · exact groups_byte _ (clampN_bd _).1 (clampN_bd _).2 y h
    · exact sl_byte s y h
  have hT : ∀ (g c : Nat) (W : World), Row 5 W g N1 F1 → N1 ≤ c → Calls Try.prog 80 #[.slice (some ⟨g, 0, none⟩) N1 c, .string s] W fun e w' => ∃ g' c', e = .returned (.slice (some ⟨g', 0, none⟩) N2 c') ∧ W.heap.size ≤ g' ∧ N2 ≤ c' ∧ Row 5 w' g' N2 F2 ∧ Below W.heap.size W w' := by
    intro g c W hr hc
    have := putText_impl g 0 N1 c F1 s W (hr.view hc HB1.out) (by omega) (by omega)
    rw [← hN2.out, ← hF2.out] at this
    exact this
  have hS : ∀ (g c : Nat) (W : World), Row 5 W g N2 F2 → N2 ≤ c → Calls Try.prog 79 #[.slice (some ⟨g, 0, none⟩) N2 c] W (PageTo W L) := by
    intro g c W hr hc
    have := putSum_impl g 0 N2 c F2 W (hr.view hc HB2.out) (by omega)
    rw [HP.1, HP.2] at this
    exact this
  have hU : ∀ W, Calls Try.prog 81 #[.slice none 0 0, .int .i64 k] W fun e w' => ∃ g c, e = .returned (.slice (some ⟨g, 0, none⟩) N1 c) ∧ W.heap.size ≤ g ∧ N1 ≤ c ∧ Row 5 w' g N1 F1 ∧ Below W.heap.size W w' := by
    intro W
    have := putU_opt none 0 0 (fun _ => 0) k W (noView _ _) (fun _ => ⟨rfl, rfl⟩) (by omega) hk0 hk1
    rw [Nat.zero_add, show lof 0 (fun _ => (0 : Int)) = [] from rfl, List.nil_append, ← hN1.out, ← hF1.out] at this
    exact this
  clear HB1 HB2 hN1 hF1 hN2 hF2 HP
  go_enter Try.func61, Try.ntmps61
  go_wp2_with fail
  refine (hV _).mono ?_
  rintro e _ ⟨rfl, rfl⟩
  clear hV
  go_wp2_with fail
  go_region_held3 (fun W => (convert 49 9 (.slice (some ⟨b, off, none⟩) n cap)).run Try.prog W = .ok (.string s) W) (first | assumption | go_keep) (first
    | (go_at_call 81; refine (hU _).mono ?_; rintro e w1 ⟨g1, c1, rfl, hg1, hc1, hr1, hb1⟩; have hb1' : Hid (Below w.heap.size w w1) := Below.trans (by repeat (first | exact Below.refl _ _ | refine Below.drew ?_)) hb1; have hq1 := HQ.out w1 hb1'.out)
    | (go_at_call 80; refine (hT g1 c1 _ (by first | exact hr1 | exact hr1.belowAll (Below.refl _ _).drew) hc1).mono ?_; rintro e w2 ⟨g2, c2, rfl, hg2, hc2, hr2, hb2⟩; have hb2' : Hid (Below w.heap.size w w2) := Below.trans (by repeat (first | exact hb1'.out | refine Below.drew ?_)) (hb2.mono (by have := hb1'.out.size; simpa using this)); have hq2 := HQ.out w2 hb2'.out)
    | (go_at_call 79; refine (hS g2 c2 _ (by first | exact hr2 | exact hr2.belowAll (Below.refl _ _).drew) hc2).mono ?_; rintro e w3 ⟨g3, c3, rfl, hg3, hc3, hr3, hb3⟩; have hb3' : Hid (Below w.heap.size w w3) := Below.trans (by repeat (first | exact hb2'.out | refine Below.drew ?_)) (hb3.mono (by have := hb2'.out.size; simpa using this)); have hq3 := HQ.out w3 hb3'.out))
  go_wp2
  go_ret
  exact ⟨g3, c3, rfl, Nat.le_trans (Nat.le_trans hb2'.out.size (by simp)) hg3, hc3, hr3, hb3'.out⟩

set_option maxHeartbeats 1000000 in
theorem putPage_spec (b off n cap : Nat) (f : Nat → Int) (k : Int) (w : World) (hv : View w (some ⟨b, off, none⟩) n cap f) (hn : n ≤ 1048576) (hk0 : -9223372036854775808 ≤ k) (hk1 : k ≤ 9223372036854775807) :
    Calls Try.prog 53 #[.int .i64 k, .slice (some ⟨b, off, none⟩) n cap] w (PageTo w (pageF k (strOfNums (lof n f)))) := by
  have hsz : (strOfNums (lof n f)).size = n := by rw [str_size, lof_len]
  have HQ : Hid (∀ W, Below w.heap.size w W → (convert 49 9 (.slice (some ⟨b, off, none⟩) n cap)).run Try.prog W = .ok (.string (strOfNums (lof n f))) W) := fun W hb => conv_view (hv.below hb)
  obtain ⟨s, hs⟩ : ∃ s, Hid (strOfNums (lof n f) = s) := ⟨_, rfl⟩
  rw [hs.out] at hsz HQ ⊢
  by_cases hk : k = 1 ∨ k = 2
  case neg =>
    have HF : Hid (pageF k s = []) := by show _ = _; unfold pageF; rw [if_neg (fun h => hk h.1)]
    have hV := fun W => l1In_no k 1 2 W (by omega)
    go_enter Try.func53, Try.ntmps53
    go_wp2_with fail
    refine (hV _).mono ?_
    rintro e _ ⟨rfl, rfl⟩
    go_wp2
    go_ret
    rw [HF.out]
    exact ⟨_, 0, rfl, Nat.le_refl _, Nat.le_refl _, noRow _ _ _, (Below.refl _ _).alloc (Nat.le_refl _) _⟩
  have hV := fun W => l1In_yes k 1 2 W (by omega) (by omega)
  by_cases hl : n ≤ 240
  case neg =>
    have HF : Hid (pageF k s = []) := by show _ = _; unfold pageF; rw [if_neg (fun h => hl (by have := h.2; omega))]
    have hz : (240 : Int) < n := by omega
    go_enter Try.func53, Try.ntmps53
    go_wp2_with fail
    refine (hV _).mono ?_
    rintro e _ ⟨rfl, rfl⟩
    go_wp2
    go_ret
    rw [HF.out]
    exact ⟨_, 0, rfl, Nat.le_refl _, Nat.le_refl _, noRow _ _ _, (Below.refl _ _).alloc (Nat.le_refl _) _⟩
  have hz : ¬ (240 : Int) < n := by omega
  have hq0 := HQ.out w.drew (Below.refl _ _).drew
  have hq0b := HQ.out (w.alloc (.cells #[] 5)).drew ((Below.refl _ _).alloc (Nat.le_refl _) _).drew
  obtain ⟨N1, hN1⟩ : ∃ N1, Hid (N1 = (groups (clampN k)).length) := ⟨_, rfl⟩
  obtain ⟨F1, hF1⟩ : ∃ F1 : Nat → Int, Hid (F1 = fun i => (groups (clampN k)).getD i 0) := ⟨_, rfl⟩
  obtain ⟨N2, hN2⟩ : ∃ N2, Hid (N2 = N1 + (groups (clampN s.size)).length + s.size) := ⟨_, rfl⟩
  obtain ⟨F2, hF2⟩ : ∃ F2 : Nat → Int, Hid (F2 = fun i => (textL N1 F1 s).getD i 0) := ⟨_, rfl⟩
  have HP := page_steps (k := k) (s := s) hk (by omega) hN1.out hF1.out hN2.out hF2.out
  obtain ⟨L, hL⟩ : ∃ L, Hid (pageF k s = L) := ⟨_, rfl⟩
  rw [hL.out] at HP ⊢
  have hl1 : N1 ≤ 3 := by rw [hN1.out]; exact (groups_len _).2
  have hl2 : N2 ≤ 2000000 := by rw [hN2.out]; have := (groups_len (clampN s.size)).2; omega
  have hl3 : N2 + 4 = L.length := HP.2
  have HB1 : Hid (∀ i, i < N1 → 0 ≤ F1 i ∧ F1 i ≤ 255) := by
    show ∀ i, _
    rw [hN1.out, hF1.out]
    exact bytes_of_list (groups_byte _ (clampN_bd _).1 (clampN_bd _).2)
  have HB2 : Hid (∀ i, i < N2 → 0 ≤ F2 i ∧ F2 i ≤ 255) := by
    show ∀ i, _
    have hlt : (textL N1 F1 s).length = N2 := by rw [textL_len, hN2.out]
    rw [← hlt, hF2.out]
    refine bytes_of_list (fun y hy => ?_)
    unfold textL at hy
    rcases List.mem_append.1 hy with h | h
    · rcases List.mem_append.1 h with h | h
      · exact lof_byteS HB1.out y h
      · exact groups_byte _ (clampN_bd _).1 (clampN_bd _).2 y h
    · exact sl_byte s y h
  have hT : ∀ (g c : Nat) (W : World), Row 5 W g N1 F1 → N1 ≤ c → Calls Try.prog 74 #[.slice (some ⟨g, 0, none⟩) N1 c, .string s] W fun e w' => ∃ g' c', e = .returned (.slice (some ⟨g', 0, none⟩) N2 c') ∧ W.heap.size ≤ g' ∧ N2 ≤ c' ∧ Row 5 w' g' N2 F2 ∧ Below W.heap.size W w' := by
    intro g c W hr hc
    have := putText_spec g 0 N1 c F1 s W (hr.view hc HB1.out) (by omega) (by omega)
    rw [← hN2.out, ← hF2.out] at this
    exact this
  have hS : ∀ (g c : Nat) (W : World), Row 5 W g N2 F2 → N2 ≤ c → Calls Try.prog 73 #[.slice (some ⟨g, 0, none⟩) N2 c] W (PageTo W L) := by
    intro g c W hr hc
    have := putSum_spec g 0 N2 c F2 W (hr.view hc HB2.out) (by omega)
    rw [HP.1, HP.2] at this
    exact this
  have hU : ∀ (g : Nat) (W : World), Calls Try.prog 54 #[.slice (some ⟨g, 0, none⟩) 0 0, .int .i64 k] W fun e w' => ∃ g c, e = .returned (.slice (some ⟨g, 0, none⟩) N1 c) ∧ W.heap.size ≤ g ∧ N1 ≤ c ∧ Row 5 w' g N1 F1 ∧ Below W.heap.size W w' := by
    intro g W
    refine (putU_spec g 0 0 0 (fun _ => 0) k W ⟨Nat.le_refl _, fun _ hi => absurd hi (Nat.not_lt_zero _), fun h => absurd h (Nat.lt_irrefl _)⟩ (by omega) hk0 hk1).mono ?_
    rintro e w' ⟨v, rfl, hown, hb⟩
    rw [Nat.zero_add, show lof 0 (fun _ => (0 : Int)) = [] from rfl, List.nil_append, ← hN1.out] at hown
    obtain ⟨g', c', rfl, hg', hgc', hrow⟩ := row_of_own hown (by rw [hN1.out]; exact (groups_len _).1)
    rw [← hF1.out] at hrow
    exact ⟨g', c', rfl, hg', hgc', hrow, hb⟩
  clear HB1 HB2 hN1 hF1 hN2 hF2 HP
  go_enter Try.func53, Try.ntmps53
  go_wp2_with fail
  refine (hV _).mono ?_
  rintro e _ ⟨rfl, rfl⟩
  clear hV
  go_wp2_with fail
  go_region_held3 (fun W => (convert 49 9 (.slice (some ⟨b, off, none⟩) n cap)).run Try.prog W = .ok (.string s) W) (first | assumption | go_keep) (first
    | (go_at_call 54; refine (hU _ _).mono ?_; rintro e w1 ⟨g1, c1, rfl, hg1, hc1, hr1, hb1⟩; have hb1' : Hid (Below w.heap.size w w1) := Below.trans (by repeat (first | exact Below.refl _ _ | exact (Below.refl _ _).drew.alloc (by simp) _ | refine Below.drew ?_)) (hb1.mono (by simp)); have hq1 := HQ.out w1 hb1'.out)
    | (go_at_call 74; refine (hT g1 c1 _ (by first | exact hr1 | exact hr1.belowAll (Below.refl _ _).drew) hc1).mono ?_; rintro e w2 ⟨g2, c2, rfl, hg2, hc2, hr2, hb2⟩; have hb2' : Hid (Below w.heap.size w w2) := Below.trans (by repeat (first | exact hb1'.out | refine Below.drew ?_)) (hb2.mono (by have := hb1'.out.size; simpa using this)); have hq2 := HQ.out w2 hb2'.out)
    | (go_at_call 73; refine (hS g2 c2 _ (by first | exact hr2 | exact hr2.belowAll (Below.refl _ _).drew) hc2).mono ?_; rintro e w3 ⟨g3, c3, rfl, hg3, hc3, hr3, hb3⟩; have hb3' : Hid (Below w.heap.size w w3) := Below.trans (by repeat (first | exact hb2'.out | refine Below.drew ?_)) (hb3.mono (by have := hb2'.out.size; simpa using this)); have hq3 := HQ.out w3 hb3'.out))
  go_wp2
  go_ret
  exact ⟨g3, c3, rfl, Nat.le_trans (Nat.le_trans hb2'.out.size (by simp)) hg3, hc3, hr3, hb3'.out⟩
end Go.Proofs.Ytficmogjpnmfdaa

/-
  A page that is cut is none; one with a byte turned is none.
-/
namespace Go.Proofs.Ytficmogjpnmfdaa
open Go.RowKit
set_option maxRecDepth 4000

theorem AtF.more {N M : Nat} {F : Nat → Int} {i : Nat} {L : List Int} (h : AtF N F i L) (hM : N ≤ M) : AtF M F i L := ⟨by have := h.le; omega, h.at'⟩
theorem inn_same {N : Nat} {f : Nat → Int} {k k' : Int} {s s' : ByteArray} (hk : 0 ≤ k ∧ k ≤ 1000000) (hk' : 0 ≤ k' ∧ k' ≤ 1000000) (hs : s.size ≤ 1000000) (hs' : s'.size ≤ 1000000) (h : AtF N f 0 (innL k s)) (h' : AtF N f 0 (innL k' s')) : k = k' ∧ s = s' := by
  have e1 := getU_at (x := k) hk.1 hk.2 (AtF.left (L := groups k) (K := txtL s) h)
  have e2 := getU_at (x := k') hk'.1 hk'.2 (AtF.left (L := groups k') (K := txtL s') h')
  rw [e1] at e2
  simp only [Prod.mk.injEq] at e2
  obtain ⟨rfl, -, -⟩ := e2
  have g1 := getText_at hs (AtF.right (L := groups k) (K := txtL s) h)
  have g2 := getText_at hs' (AtF.right (L := groups k) (K := txtL s') h')
  rw [g1] at g2
  simp only [Prod.mk.injEq] at g2
  exact ⟨rfl, g2.1⟩
theorem page_at {n : Nat} {f : Nat → Int} {k : Int} {s : ByteArray} (h : pageL k s = lof n f) : AtF n f 0 (innL k s) := by
  have hl := congrArg List.length h
  rw [pageL_len, lof_len] at hl
  refine ⟨by omega, fun j hj => ?_⟩
  rw [Nat.zero_add, ← lof_get n f j (by omega), ← h]
  exact getD_left _ _ _ hj
/-- What is cut is none. -/
theorem page_cut {k : Int} {s : ByteArray} {f : Nat → Int} {j : Nat} (hk : k = 1 ∨ k = 2) (hs : s.size ≤ 240) (hf : ∀ i, i < (pageL k s).length → f i = (pageL k s).getD i 0) (hj : j < (pageL k s).length) : getPg j f = (0, strOfNums [], false) := by
  by_cases h : (getPg j f).2.2 = true
  · exfalso
    have hfb : ∀ i, i < j → 0 ≤ f i ∧ f i ≤ 255 := fun i hi => by rw [hf i (by omega)]; exact bytes_of_list (pageL_byte hk hs) i (by omega)
    obtain ⟨hk', hs', e⟩ := getPg_read (k := (getPg j f).1) (s := (getPg j f).2.1) hfb (Prod.ext rfl (Prod.ext rfl h))
    have hall : pageL k s = lof (pageL k s).length f := (lof_all _ rfl hf).symm
    obtain ⟨e1, e2⟩ := inn_same (N := (pageL k s).length) (by omega) (by omega) (by omega) (by omega) (page_at hall) ((page_at e).more (by omega))
    rw [← e1, ← e2] at e
    have := congrArg List.length e
    rw [lof_len] at this
    omega
  · exact getPg_none (by simpa using h)
theorem page_sum {k : Int} {s : ByteArray} {f : Nat → Int} (hk : k = 1 ∨ k = 2) (hs : s.size ≤ 240) (hf : ∀ i, i < (pageL k s).length → f i = (pageL k s).getD i 0) : sumGood (pageL k s).length f = true := by
  have h := getPg_put hk hs hf
  unfold getPg at h
  split at h
  · rename_i hc; exact hc.1
  · cases h
/-- With a byte turned it is none. -/
theorem page_turned {k : Int} {s : ByteArray} {f : Nat → Int} {j : Nat} {v : Int} (hk : k = 1 ∨ k = 2) (hs : s.size ≤ 240) (hf : ∀ i, i < (pageL k s).length → f i = (pageL k s).getD i 0) (hj : j < (pageL k s).length) (hv : 0 ≤ v ∧ v ≤ 255) (hne : v ≠ f j) : getPg (pageL k s).length (fun i => if i = j then v else f i) = (0, strOfNums [], false) := by
  have hg := page_sum hk hs hf
  have hg' : 4 ≤ (pageL k s).length ∧ last4 ((pageL k s).length - 4) f = (crc ((pageL k s).length - 4) f : Int) := by simpa [sumGood] using hg
  obtain ⟨m, hm⟩ : ∃ m, (pageL k s).length = m + 4 := ⟨(pageL k s).length - 4, by omega⟩
  have hfb : ∀ i, i < m + 4 → 0 ≤ f i ∧ f i ≤ 255 := fun i hi => by rw [hf i (by omega)]; exact bytes_of_list (pageL_byte hk hs) i (by omega)
  rw [hm] at hg' hj ⊢
  rw [Nat.add_sub_cancel] at hg'
  have ht := sum_turned hfb hg'.2 hj hv hne
  unfold getPg
  rw [if_neg]
  intro hc
  have := hc.1
  simp only [sumGood, decide_eq_true_eq, Nat.add_sub_cancel] at this
  exact ht this.2
end Go.Proofs.Ytficmogjpnmfdaa

/-
  Roots, plainly: what is put, what is read; they come to each other.
-/
namespace Go.Proofs.Ytficmogjpnmfdaa
open Go.RowKit
set_option maxRecDepth 4000

/-- A root that is right; its body; its page, or nothing. -/
def metaOk (g r : Int) : Bool := decide (0 ≤ g ∧ g ≤ 1000000) && decide (r = 0 ∨ 2 ≤ r ∧ r ≤ 47)
def metaB (g r : Int) : List Int := groups g ++ groups r
def metaF (g r : Int) : List Int := if metaOk g r = true then pageL 2 (strOfNums (metaB g r)) else []
theorem metaOk_iff {g r : Int} : metaOk g r = true ↔ (0 ≤ g ∧ g ≤ 1000000) ∧ (r = 0 ∨ 2 ≤ r ∧ r ≤ 47) := by
  unfold metaOk; rw [Bool.and_eq_true, decide_eq_true_eq, decide_eq_true_eq]
theorem metaB_len (g r : Int) : (metaB g r).length = (groups g).length + (groups r).length := by unfold metaB; rw [List.length_append]
theorem metaB_few (g r : Int) : 2 ≤ (metaB g r).length ∧ (metaB g r).length ≤ 6 := by
  have h1 := groups_len g
  have h2 := groups_len r
  rw [metaB_len]; omega
theorem metaB_byte {g r : Int} (h : metaOk g r = true) : ∀ y ∈ metaB g r, 0 ≤ y ∧ y ≤ 255 := by
  have h' := metaOk_iff.1 h
  intro y hy
  unfold metaB at hy
  rcases List.mem_append.1 hy with k | k
  · exact groups_byte g (by omega) (by omega) y k
  · exact groups_byte r (by omega) (by omega) y k
theorem metaF_byte (g r : Int) : ∀ y ∈ metaF g r, 0 ≤ y ∧ y ≤ 255 := by
  unfold metaF
  split
  · refine pageL_byte (by omega) ?_
    rw [str_size]; have := metaB_few g r; omega
  · intro y hy; simp at hy
theorem metaF_page {g r : Int} (h : metaOk g r = true) : pageF 2 (strOfNums (metaB g r)) = metaF g r := by
  unfold pageF metaF
  rw [if_pos h, if_pos ⟨by omega, by rw [str_size]; have := metaB_few g r; omega⟩]
theorem metaF_len (g r : Int) : (metaF g r).length ≤ 16 := by
  unfold metaF
  split
  · rw [pageL_len, innL_len, str_size]
    have := metaB_few g r
    have := (groups_len 2).2
    have : (groups ((metaB g r).length : Int)).length = 1 := by rw [groups_last _ (by omega)]; rfl
    omega
  · simp

/-- What is read as a root. -/
def getMe (n : Nat) (f : Nat → Int) : Int × Int × Bool :=
  let p := getPg n f
  let F : Nat → Int := fun i => (sl p.2.1).getD i 0
  let a := getU p.2.1.size F 0
  let b := getU p.2.1.size F a.2.1
  if p.2.2 = true ∧ a.2.2 = true ∧ b.2.2 = true ∧ p.1 = 2 ∧ b.2.1 = (p.2.1.size : Int) ∧ metaOk a.1 b.1 = true then (a.1, b.1, true) else (0, 0, false)
theorem getMe_is {n : Nat} {f : Nat → Int} {k g q r e : Int} {s : ByteArray} {ok told led : Bool} (hp : getPg n f = (k, s, ok)) (ha : getU s.size (fun i => (sl s).getD i 0) 0 = (g, q, told)) (hb : getU s.size (fun i => (sl s).getD i 0) q = (r, e, led)) :
    getMe n f = if ok = true ∧ told = true ∧ led = true ∧ k = 2 ∧ e = (s.size : Int) ∧ metaOk g r = true then (g, r, true) else (0, 0, false) := by
  unfold getMe
  simp only [hp, ha, hb]
/-- The two numbers stand in the body. -/
theorem meta_inner {g q r e : Int} {s : ByteArray} (ha : getU s.size (fun i => (sl s).getD i 0) 0 = (g, q, true)) (hb : getU s.size (fun i => (sl s).getD i 0) q = (r, e, true)) :
    AtF s.size (fun i => (sl s).getD i 0) 0 (metaB g r) ∧ e = ((metaB g r).length : Int) ∧ (0 ≤ g ∧ g ≤ 1000000) ∧ (0 ≤ r ∧ r ≤ 1000000) := by
  have hf : ∀ i, i < s.size → 0 ≤ (sl s).getD i 0 ∧ (sl s).getD i 0 ≤ 255 := by
    have := bytes_of_list (sl_byte s)
    rwa [sl_len] at this
  obtain ⟨i, e0, hA, hq, hk0, hk1⟩ := getU_read hf ha
  obtain rfl : i = 0 := by omega
  obtain ⟨j, e1, hB, hr, hs0, hs1⟩ := getU_read hf hb
  obtain rfl : j = (groups g).length := by omega
  refine ⟨hA.append (by rw [Nat.zero_add]; exact hB), ?_, ⟨hk0, hk1⟩, ⟨hs0, hs1⟩⟩
  rw [hr, metaB_len]
  push_cast
  omega
/-- What was read as two numbers in a page has the page's bytes just if it is a root's. -/
theorem meta_iff {n : Nat} {f : Nat → Int} {k g q r e : Int} {s : ByteArray} (hf : ∀ i, i < n → 0 ≤ f i ∧ f i ≤ 255) (hp : getPg n f = (k, s, true)) (ha : getU s.size (fun i => (sl s).getD i 0) 0 = (g, q, true)) (hb : getU s.size (fun i => (sl s).getD i 0) q = (r, e, true)) :
    metaF g r = lof n f ↔ (k = 2 ∧ e = (s.size : Int) ∧ metaOk g r = true) := by
  obtain ⟨hA, he, hg, hr⟩ := meta_inner ha hb
  obtain ⟨hk, hs, hL⟩ := getPg_read hf hp
  have hl : (sl s).length = s.size := sl_len s
  constructor
  · intro h
    unfold metaF at h
    split at h
    · rename_i hok
      have hfew := metaB_few g r
      have h6 : (strOfNums (metaB g r)).size ≤ 240 := by rw [str_size]; omega
      have hn : (pageL 2 (strOfNums (metaB g r))).length = n := by rw [h, lof_len]
      have hG := getPg_put (k := 2) (s := strOfNums (metaB g r)) (f := f) (by omega) h6 (fun i hi => by rw [h, lof_get _ _ _ (by omega)])
      rw [hn, hp] at hG
      simp only [Prod.mk.injEq, and_true] at hG
      obtain ⟨rfl, rfl⟩ := hG
      exact ⟨rfl, by rw [he, str_size], hok⟩
    · have hc := congrArg List.length (hL.trans h.symm)
      rw [pageL_len] at hc
      simp at hc
  · rintro ⟨rfl, hes, hok⟩
    unfold metaF
    rw [if_pos hok, ← hL]
    congr 1
    have : metaB g r = sl s := by
      rw [← hA.lof]
      have hlen : (metaB g r).length = (sl s).length := by omega
      rw [hlen]
      simp only [Nat.zero_add]
      exact lof_self (sl s)
    rw [this, strOfNums_sl]
theorem getMe_none {n : Nat} {f : Nat → Int} (h : (getMe n f).2.2 = false) : getMe n f = (0, 0, false) := by
  unfold getMe at h ⊢
  simp only at h ⊢
  split at h
  · cases h
  · rw [if_neg (by assumption)]
/-- What was read as a root is one, and has these bytes. -/
theorem getMe_read {n : Nat} {f : Nat → Int} {g r : Int} (hf : ∀ i, i < n → 0 ≤ f i ∧ f i ≤ 255) (h : getMe n f = (g, r, true)) : metaOk g r = true ∧ metaF g r = lof n f := by
  obtain ⟨⟨k, s, ok⟩, hp⟩ : ∃ x, getPg n f = x := ⟨_, rfl⟩
  obtain ⟨⟨a, q, told⟩, ha⟩ : ∃ x, getU s.size (fun i => (sl s).getD i 0) 0 = x := ⟨_, rfl⟩
  obtain ⟨⟨b, e, led⟩, hb⟩ : ∃ x, getU s.size (fun i => (sl s).getD i 0) q = x := ⟨_, rfl⟩
  rw [getMe_is hp ha hb] at h
  split at h
  · rename_i hc
    obtain ⟨rfl, rfl, rfl, h1, h2, h3⟩ := hc
    simp only [Prod.mk.injEq, and_true] at h
    obtain ⟨rfl, rfl⟩ := h
    exact ⟨h3, (meta_iff hf hp ha hb).2 ⟨h1, h2, h3⟩⟩
  · cases h
/-- A root comes back. -/
theorem getMe_put {g r : Int} {f : Nat → Int} (hok : metaOk g r = true) (hf : ∀ i, i < (metaF g r).length → f i = (metaF g r).getD i 0) : getMe (metaF g r).length f = (g, r, true) := by
  have h' := metaOk_iff.1 hok
  have hm : metaF g r = pageL 2 (strOfNums (metaB g r)) := by unfold metaF; rw [if_pos hok]
  rw [hm] at hf ⊢
  have hfew := metaB_few g r
  have hp := getPg_put (k := 2) (s := strOfNums (metaB g r)) (f := f) (by omega) (by rw [str_size]; omega) hf
  have hsl := sl_strOfNums (metaB_byte hok)
  have hA : AtF (strOfNums (metaB g r)).size (fun i => (sl (strOfNums (metaB g r))).getD i 0) 0 (metaB g r) := by
    rw [hsl, str_size]
    exact ⟨by omega, fun j hj => by rw [Nat.zero_add]⟩
  have e1 := getU_at (x := g) (by omega) (by omega) (AtF.left (L := groups g) (K := groups r) hA)
  have hB := AtF.right (L := groups g) (K := groups r) hA
  have e2 := getU_at (x := r) (by omega) (by omega) hB
  rw [show ((0 : Nat) : Int) = 0 from rfl, Int.zero_add] at e1
  rw [Nat.zero_add] at e2
  rw [getMe_is hp e1 e2, if_pos ⟨rfl, rfl, rfl, rfl, by rw [str_size, metaB_len]; push_cast; rfl, hok⟩]
/-- What is cut is no root. -/
theorem meta_cut {g r : Int} {f : Nat → Int} {j : Nat} (hok : metaOk g r = true) (hf : ∀ i, i < (metaF g r).length → f i = (metaF g r).getD i 0) (hj : j < (metaF g r).length) : getMe j f = (0, 0, false) := by
  have hm : metaF g r = pageL 2 (strOfNums (metaB g r)) := by unfold metaF; rw [if_pos hok]
  rw [hm] at hf hj
  have hfew := metaB_few g r
  have hp := page_cut (k := 2) (s := strOfNums (metaB g r)) (f := f) (by omega) (by rw [str_size]; omega) hf hj
  unfold getMe
  simp [hp]
end Go.Proofs.Ytficmogjpnmfdaa

/-
  Disks, plainly; rows whose elements have several cells that read; a disk that reads.
-/
namespace Go.Proofs.Ytficmogjpnmfdaa
open Go.RowKit
set_option maxRecDepth 4000

/-- A letter for a thing. -/
theorem hidEx {α : Type} (y : α) : ∃ x, Hid (y = x) := ⟨y, rfl⟩
structure PFault where
  pos : Int
  keep : Int
  cut : Int
structure PDisk where
  secs : List (List Int)
  cache : List (Int × List Int)
  ops : Int
  faults : List PFault
  down : Bool
def bf (l : List Int) (i : Nat) : Int := l.getD i 0
theorem lof_bf (l : List Int) : lof l.length (bf l) = l := lof_self l

/-- A slice value that reads as these bytes. -/
structure LV (w : World) (v : Value) (l : List Int) : Prop where
  is : ∃ a c, v = .slice a l.length c ∧ View w a l.length c (bf l) ∧ (a = none → c = 0)
theorem LV.below {w w' : World} {v : Value} {l : List Int} (h : LV w v l) (hb : Below w.heap.size w w') : LV w' v l := by
  obtain ⟨a, c, e, hv, hn⟩ := h.is
  exact ⟨a, c, e, hv.below hb, hn⟩

/-- A row whose elements have c cells each, of which P says what they are. -/
structure RV {α : Type} (c : Nat) (P : World → List Value → α → Prop) (w : World) (a : Option Addr) (cap : Nat) (l : List α) : Prop where
  le : l.length ≤ cap
  nil : a = none → cap = 0
  cells : 0 < l.length → ∃ b off, a = some ⟨b, off, none⟩ ∧ b < w.heap.size ∧ ∀ i x, l[i]? = some x → ∃ us, P w us x ∧ ∀ j u, us[j]? = some u → w.cell? ⟨b, off + i * c + j, none⟩ = some u
theorem RV.below {α : Type} {c : Nat} {P : World → List Value → α → Prop} {w w' : World} {a : Option Addr} {cap : Nat} {l : List α} (h : RV c P w a cap l) (hP : ∀ us x, P w us x → P w' us x) (hb : Below w.heap.size w w') : RV c P w' a cap l := by
  refine ⟨h.le, h.nil, fun hn => ?_⟩
  obtain ⟨b, off, e, hlt, hc⟩ := h.cells hn
  refine ⟨b, off, e, Nat.lt_of_lt_of_le hlt hb.size, fun i x hi => ?_⟩
  obtain ⟨us, h1, h2⟩ := hc i x hi
  exact ⟨us, hP _ _ h1, fun j u hj => by rw [hb.cell (p := ⟨b, off + i * c + j, none⟩) hlt]; exact h2 j u hj⟩

def SP (w : World) (us : List Value) (x : List Int) : Prop := ∃ u, us = [u] ∧ LV w u x
def WP (w : World) (us : List Value) (x : Int × List Int) : Prop := ∃ u, us = [.int .i64 x.1, u] ∧ LV w u x.2
def FP (_ : World) (us : List Value) (x : PFault) : Prop := us = [.int .i64 x.pos, .int .i64 x.keep, .int .i64 x.cut]
abbrev SView := RV 1 SP
abbrev WView := RV 2 WP
abbrev FView := RV 3 FP
theorem SP.below {w w' : World} (hb : Below w.heap.size w w') (us : List Value) (x : List Int) (h : SP w us x) : SP w' us x := by
  obtain ⟨u, e, hu⟩ := h
  exact ⟨u, e, hu.below hb⟩
theorem WP.below {w w' : World} (hb : Below w.heap.size w w') (us : List Value) (x : Int × List Int) (h : WP w us x) : WP w' us x := by
  obtain ⟨u, e, hu⟩ := h
  exact ⟨u, e, hu.below hb⟩
theorem sview_below {w w' : World} {a : Option Addr} {cap : Nat} {l : List (List Int)} (h : SView w a cap l) (hb : Below w.heap.size w w') : SView w' a cap l := h.below (SP.below hb) hb
theorem wview_below {w w' : World} {a : Option Addr} {cap : Nat} {l : List (Int × List Int)} (h : WView w a cap l) (hb : Below w.heap.size w w') : WView w' a cap l := h.below (WP.below hb) hb
theorem fview_below {w w' : World} {a : Option Addr} {cap : Nat} {l : List PFault} (h : FView w a cap l) (hb : Below w.heap.size w w') : FView w' a cap l := h.below (fun _ _ h => h) hb
/-- An element of a row of byte slices. -/
theorem sview_at {w : World} {a : Option Addr} {cap : Nat} {l : List (List Int)} (h : SView w a cap l) {i : Nat} (hi : i < l.length) : ∃ b off a' c', a = some ⟨b, off, none⟩ ∧ b < w.heap.size ∧ w.cell? ⟨b, off + i, none⟩ = some (.slice a' (l[i]).length c') ∧ View w a' (l[i]).length c' (bf l[i]) ∧ (a' = none → c' = 0) := by
  obtain ⟨b, off, e, hlt, hc⟩ := h.cells (by omega)
  obtain ⟨us, ⟨u, rfl, hu⟩, h2⟩ := hc i l[i] (List.getElem?_eq_getElem hi)
  obtain ⟨a', c', rfl, hv, hn⟩ := hu.is
  exact ⟨b, off, a', c', e, hlt, by simpa using h2 0 _ rfl, hv, hn⟩
theorem wview_at {w : World} {a : Option Addr} {cap : Nat} {l : List (Int × List Int)} (h : WView w a cap l) {i : Nat} (hi : i < l.length) : ∃ b off a' c', a = some ⟨b, off, none⟩ ∧ b < w.heap.size ∧ w.cell? ⟨b, off + i * 2, none⟩ = some (.int .i64 (l[i]).1) ∧ w.cell? ⟨b, off + i * 2 + 1, none⟩ = some (.slice a' (l[i]).2.length c') ∧ View w a' (l[i]).2.length c' (bf (l[i]).2) ∧ (a' = none → c' = 0) := by
  obtain ⟨b, off, e, hlt, hc⟩ := h.cells (by omega)
  obtain ⟨us, ⟨u, rfl, hu⟩, h2⟩ := hc i l[i] (List.getElem?_eq_getElem hi)
  obtain ⟨a', c', rfl, hv, hn⟩ := hu.is
  exact ⟨b, off, a', c', e, hlt, by simpa using h2 0 _ rfl, by simpa using h2 1 _ rfl, hv, hn⟩
theorem fview_at {w : World} {a : Option Addr} {cap : Nat} {l : List PFault} (h : FView w a cap l) {i : Nat} (hi : i < l.length) : ∃ b off, a = some ⟨b, off, none⟩ ∧ b < w.heap.size ∧ w.cell? ⟨b, off + i * 3, none⟩ = some (.int .i64 (l[i]).pos) ∧ w.cell? ⟨b, off + i * 3 + 1, none⟩ = some (.int .i64 (l[i]).keep) ∧ w.cell? ⟨b, off + i * 3 + 2, none⟩ = some (.int .i64 (l[i]).cut) := by
  obtain ⟨b, off, e, hlt, hc⟩ := h.cells (by omega)
  obtain ⟨us, rfl, h2⟩ := hc i l[i] (List.getElem?_eq_getElem hi)
  exact ⟨b, off, e, hlt, by simpa using h2 0 _ rfl, by simpa using h2 1 _ rfl, by simpa using h2 2 _ rfl⟩

/-- A disk's value. -/
structure KView (w : World) (v : Value) (D : PDisk) : Prop where
  is : ∃ sa sc ca cc fa fc, v = .agg #[.slice sa D.secs.length sc, .slice ca D.cache.length cc, .int .i64 D.ops, .slice fa D.faults.length fc, .bool D.down] ∧ SView w sa sc D.secs ∧ WView w ca cc D.cache ∧ FView w fa fc D.faults
theorem KView.below {w w' : World} {v : Value} {D : PDisk} (h : KView w v D) (hb : Below w.heap.size w w') : KView w' v D := by
  obtain ⟨sa, sc, ca, cc, fa, fc, e, h1, h2, h3⟩ := h.is
  exact ⟨sa, sc, ca, cc, fa, fc, e, sview_below h1 hb, wview_below h2 hb, fview_below h3 hb⟩
/-- Nothing is great. -/
structure KFine (D : PDisk) : Prop where
  ns : D.secs.length ≤ 1048576
  sec : ∀ x, x ∈ D.secs → x.length ≤ 1048576
  nc : D.cache.length ≤ 1048576
  cache : ∀ x, x ∈ D.cache → x.2.length ≤ 1048576
  nf : D.faults.length ≤ 1048576
end Go.Proofs.Ytficmogjpnmfdaa

/-
  Disks of the call's own: rows that may be written, byte rows that lie apart.
-/
namespace Go.Proofs.Ytficmogjpnmfdaa
open Go.RowKit
set_option maxRecDepth 4000

theorem flat_get {α β : Type} (f : α → List β) (c : Nat) (hf : ∀ x, (f x).length = c) : ∀ (l : List α) (i j : Nat), j < c → (l.flatMap f)[i * c + j]? = (l[i]?).bind (fun x => (f x)[j]?)
  | [], i, j, _ => by simp
  | x :: l, 0, j, hj => by
    rw [List.flatMap_cons, Nat.zero_mul, Nat.zero_add, List.getElem?_append_left (by rw [hf]; exact hj)]
    simp
  | x :: l, i + 1, j, hj => by
    rw [List.flatMap_cons, List.getElem?_append_right (by rw [hf, Nat.add_mul]; omega), hf]
    have e : (i + 1) * c + j - c = i * c + j := by rw [Nat.add_mul]; omega
    rw [e, flat_get f c hf l i j hj]
    simp
theorem flat_len {α β : Type} (f : α → List β) (c : Nat) (hf : ∀ x, (f x).length = c) : ∀ (l : List α), (l.flatMap f).length = l.length * c
  | [] => by simp
  | x :: l => by rw [List.flatMap_cons, List.length_append, hf, flat_len f c hf l, List.length_cons, Nat.add_mul]; omega
/-- The cells of writes, whose bytes are these slices; of faults. -/
def wEl (p : Int × Value) : List Value := [.int .i64 p.1, p.2]
def fEl (x : PFault) : List Value := [.int .i64 x.pos, .int .i64 x.keep, .int .i64 x.cut]
def wcells (l : List (Int × List Int)) (cs : List Value) : List Value := ((l.map (·.1)).zip cs).flatMap wEl
def fcells (l : List PFault) : List Value := l.flatMap fEl
theorem zip_get {l : List (Int × List Int)} {cs : List Value} {i : Nat} {x : Int × List Int} {v : Value} (h1 : l[i]? = some x) (h2 : cs[i]? = some v) : ((l.map (·.1)).zip cs)[i]? = some (x.1, v) := by
  simp [List.getElem?_zip_eq_some, h1, h2]
theorem wcells_get {l : List (Int × List Int)} {cs : List Value} {i : Nat} {x : Int × List Int} {v : Value} (h1 : l[i]? = some x) (h2 : cs[i]? = some v) : (wcells l cs)[i * 2]? = some (.int .i64 x.1) ∧ (wcells l cs)[i * 2 + 1]? = some v := by
  have e := zip_get h1 h2
  have g0 := flat_get wEl 2 (fun _ => rfl) ((l.map (·.1)).zip cs) i 0 (by decide)
  have g1 := flat_get wEl 2 (fun _ => rfl) ((l.map (·.1)).zip cs) i 1 (by decide)
  rw [e] at g0 g1
  exact ⟨g0, g1⟩
theorem fcells_get {l : List PFault} {i j : Nat} {x : PFault} (h1 : l[i]? = some x) (hj : j < 3) : (fcells l)[i * 3 + j]? = (fEl x)[j]? := by
  have g0 := flat_get fEl 3 (fun _ => rfl) l i j hj
  rw [h1] at g0
  exact g0

/-- Bytes of the call's own. -/
structure OB (w : World) (B : Nat) (v : Value) (l : List Int) : Prop where
  is : ∃ a c, v = .slice a l.length c ∧ l.length ≤ c ∧ (a = none → c = 0) ∧ (∀ x ∈ l, 0 ≤ x ∧ x ≤ 255) ∧ (l = [] ∨ ∃ g, a = some ⟨g, 0, none⟩ ∧ B ≤ g ∧ Row 5 w g l.length (bf l))
/-- Two slices do not share a block. -/
def Apt (u v : Value) : Prop := ∀ g, u.ownBlock = some g → v.ownBlock = some g → False
/-- Byte rows of the call's own, each by itself. -/
structure Bs (w : World) (B : Nat) (vs : List Value) (ls : List (List Int)) : Prop where
  len : vs.length = ls.length
  ob : ∀ (i : Nat) v l, vs[i]? = some v → ls[i]? = some l → OB w B v l
  lt : ∀ v, v ∈ vs → ∀ g, v.ownBlock = some g → B ≤ g ∧ g < w.heap.size
  apt : vs.Pairwise Apt
/-- A row of the call's own with (at least) these cells. -/
def RL (T : TypeId) (w : World) (B : Nat) (a : Option Addr) (xs : List Value) : Prop := xs = [] ∨ ∃ g cur, a = some ⟨g, 0, none⟩ ∧ B ≤ g ∧ w.heap[g]? = some (.cells cur T (0, 0)) ∧ ∀ (i : Nat) u, xs[i]? = some u → cur[i]? = some u
/-- A disk of the call's own. -/
structure KO (w : World) (B : Nat) (sa : Option Addr) (sc : Nat) (ca : Option Addr) (cc : Nat) (fa : Option Addr) (fc : Nat) (ss cs : List Value) (D : PDisk) : Prop where
  sle : D.secs.length ≤ sc
  snil : sa = none → sc = 0
  cle : D.cache.length ≤ cc
  cnil : ca = none → cc = 0
  fle : D.faults.length ≤ fc
  fnil : fa = none → fc = 0
  ns : ss.length = D.secs.length
  nc : cs.length = D.cache.length
  secs : RL 49 w B sa ss
  cache : RL 71 w B ca (wcells D.cache cs)
  faults : RL 60 w B fa (fcells D.faults)
  bytes : Bs w B (ss ++ cs) (D.secs ++ D.cache.map (·.2))
def dval (D : PDisk) (sa : Option Addr) (sc : Nat) (ca : Option Addr) (cc : Nat) (fa : Option Addr) (fc : Nat) : Value := .agg #[.slice sa D.secs.length sc, .slice ca D.cache.length cc, .int .i64 D.ops, .slice fa D.faults.length fc, .bool D.down]
def KOwn (w : World) (B : Nat) (v : Value) (D : PDisk) : Prop := ∃ sa sc ca cc fa fc ss cs, v = dval D sa sc ca cc fa fc ∧ KO w B sa sc ca cc fa fc ss cs D

/-- What was there from B on is there. -/
def Up (B : Nat) (w w' : World) : Prop := w.heap.size ≤ w'.heap.size ∧ ∀ k, B ≤ k → k < w.heap.size → w'.heap[k]? = w.heap[k]?
theorem Up.ofBelow {B : Nat} {w w' : World} (h : Below w.heap.size w w') : Up B w w' := ⟨h.size, fun k _ hk => h.block k hk⟩
theorem OB.up {w w' : World} {B : Nat} {v : Value} {l : List Int} (h : OB w B v l) (hu : Up B w w') : OB w' B v l := by
  obtain ⟨a, c, e, h1, h2, h3, h4⟩ := h.is
  refine ⟨a, c, e, h1, h2, h3, ?_⟩
  rcases h4 with h4 | ⟨g, ea, hb, hr⟩
  · exact .inl h4
  · exact .inr ⟨g, ea, hb, hr.of_block (hu.2 g hb hr.lt)⟩
theorem RL.up {T : TypeId} {w w' : World} {B : Nat} {a : Option Addr} {xs : List Value} (h : RL T w B a xs) (hu : Up B w w') : RL T w' B a xs := by
  rcases h with h | ⟨g, cur, ea, hb, hg, hc⟩
  · exact .inl h
  · exact .inr ⟨g, cur, ea, hb, (hu.2 g hb (Array.getElem?_eq_some_iff.1 hg).1).trans hg, hc⟩
theorem Bs.up {w w' : World} {B : Nat} {vs : List Value} {ls : List (List Int)} (h : Bs w B vs ls) (hu : Up B w w') : Bs w' B vs ls :=
  ⟨h.len, fun i v l h1 h2 => (h.ob i v l h1 h2).up hu, fun v hv g hg => ⟨(h.lt v hv g hg).1, Nat.lt_of_lt_of_le (h.lt v hv g hg).2 hu.1⟩, h.apt⟩
theorem KO.up {w w' : World} {B : Nat} {sa : Option Addr} {sc : Nat} {ca : Option Addr} {cc : Nat} {fa : Option Addr} {fc : Nat} {ss cs : List Value} {D : PDisk} (h : KO w B sa sc ca cc fa fc ss cs D) (hu : Up B w w') : KO w' B sa sc ca cc fa fc ss cs D :=
  ⟨h.sle, h.snil, h.cle, h.cnil, h.fle, h.fnil, h.ns, h.nc, h.secs.up hu, h.cache.up hu, h.faults.up hu, h.bytes.up hu⟩
theorem KOwn.up {w w' : World} {B : Nat} {v : Value} {D : PDisk} (h : KOwn w B v D) (hu : Up B w w') : KOwn w' B v D := by
  obtain ⟨sa, sc, ca, cc, fa, fc, ss, cs, e, hk⟩ := h
  exact ⟨sa, sc, ca, cc, fa, fc, ss, cs, e, hk.up hu⟩
theorem KOwn.below {w w' : World} {B : Nat} {v : Value} {D : PDisk} (h : KOwn w B v D) (hb : Below w.heap.size w w') : KOwn w' B v D := h.up (Up.ofBelow hb)
theorem OB.mono {w : World} {B B' : Nat} {v : Value} {l : List Int} (h : OB w B v l) (hB : B' ≤ B) : OB w B' v l := by
  obtain ⟨a, c, e, h1, h2, h3, h4⟩ := h.is
  refine ⟨a, c, e, h1, h2, h3, ?_⟩
  rcases h4 with h4 | ⟨g, ea, hb, hr⟩
  · exact .inl h4
  · exact .inr ⟨g, ea, by omega, hr⟩
theorem RL.mono {T : TypeId} {w : World} {B B' : Nat} {a : Option Addr} {xs : List Value} (h : RL T w B a xs) (hB : B' ≤ B) : RL T w B' a xs := by
  rcases h with h | ⟨g, cur, ea, hb, hg, hc⟩
  · exact .inl h
  · exact .inr ⟨g, cur, ea, by omega, hg, hc⟩
theorem Bs.mono {w : World} {B B' : Nat} {vs : List Value} {ls : List (List Int)} (h : Bs w B vs ls) (hB : B' ≤ B) : Bs w B' vs ls := ⟨h.len, fun i v l h1 h2 => (h.ob i v l h1 h2).mono hB, fun v hv g hg => ⟨Nat.le_trans hB (h.lt v hv g hg).1, (h.lt v hv g hg).2⟩, h.apt⟩

theorem OB.lv {w : World} {B : Nat} {v : Value} {l : List Int} (h : OB w B v l) : LV w v l := by
  obtain ⟨a, c, e, h1, h2, h3, h4⟩ := h.is
  refine ⟨a, c, e, ⟨h1, fun i hi => ?_, fun hn => ?_⟩, h2⟩
  · have : bf l i = l[i] := by simp [bf, hi]
    rw [this]
    exact h3 _ (List.getElem_mem hi)
  · rcases h4 with h4 | ⟨g, ea, hb, hr⟩
    · subst h4; simp at hn
    · exact ⟨g, 0, ea, hr.lt, fun i hi => by rw [Nat.zero_add]; exact hr.cell hi⟩
theorem RL.cell {T : TypeId} {w : World} {B : Nat} {a : Option Addr} {xs : List Value} (h : RL T w B a xs) (hn : 0 < xs.length) : ∃ g, a = some ⟨g, 0, none⟩ ∧ B ≤ g ∧ g < w.heap.size ∧ ∀ (i : Nat) u, xs[i]? = some u → w.cell? ⟨g, i, none⟩ = some u := by
  rcases h with h | ⟨g, cur, ea, hb, hg, hc⟩
  · subst h; simp at hn
  · exact ⟨g, ea, hb, (Array.getElem?_eq_some_iff.1 hg).1, fun i u hi => by simp [World.cell?, hg, hc i u hi]⟩
theorem KO.view {w : World} {B : Nat} {sa : Option Addr} {sc : Nat} {ca : Option Addr} {cc : Nat} {fa : Option Addr} {fc : Nat} {ss cs : List Value} {D : PDisk} (h : KO w B sa sc ca cc fa fc ss cs D) : SView w sa sc D.secs ∧ WView w ca cc D.cache ∧ FView w fa fc D.faults := by
  refine ⟨⟨h.sle, h.snil, fun hn => ?_⟩, ⟨h.cle, h.cnil, fun hn => ?_⟩, ⟨h.fle, h.fnil, fun hn => ?_⟩⟩
  · obtain ⟨g, ea, -, hlt, hc⟩ := h.secs.cell (by rw [h.ns]; exact hn)
    refine ⟨g, 0, ea, hlt, fun i x hi => ?_⟩
    have hi' : i < ss.length := by rw [h.ns]; exact (List.getElem?_eq_some_iff.1 hi).1
    have hv := List.getElem?_eq_getElem hi'
    refine ⟨[ss[i]], ⟨ss[i], rfl, (h.bytes.ob i _ x ?_ ?_).lv⟩, fun j u hj => ?_⟩
    · rw [List.getElem?_append_left hi']; exact hv
    · rw [List.getElem?_append_left (by rw [← h.ns]; exact hi')]; exact hi
    · match j, hj with
      | 0, hj => cases hj; simpa using hc i _ hv
  · have hl : (wcells D.cache cs).length = D.cache.length * 2 := by
      unfold wcells
      rw [flat_len wEl 2 (fun _ => rfl), List.length_zip, List.length_map, h.nc, Nat.min_self]
    obtain ⟨g, ea, -, hlt, hc⟩ := h.cache.cell (by omega)
    refine ⟨g, 0, ea, hlt, fun i x hi => ?_⟩
    have hi1 := (List.getElem?_eq_some_iff.1 hi).1
    have hi' : i < cs.length := by rw [h.nc]; exact hi1
    have hv := List.getElem?_eq_getElem hi'
    obtain ⟨g0, g1⟩ := wcells_get hi hv
    refine ⟨[.int .i64 x.1, cs[i]], ⟨cs[i], rfl, (h.bytes.ob (ss.length + i) _ x.2 ?_ ?_).lv⟩, fun j u hj => ?_⟩
    · rw [List.getElem?_append_right (by omega), Nat.add_sub_cancel_left]; exact hv
    · rw [h.ns, List.getElem?_append_right (by omega), Nat.add_sub_cancel_left]; simp [hi]
    · match j, hj with
      | 0, hj => cases hj; simpa using hc _ _ g0
      | 1, hj => cases hj; simpa using hc _ _ g1
  · have hl : (fcells D.faults).length = D.faults.length * 3 := flat_len fEl 3 (fun _ => rfl) _
    obtain ⟨g, ea, -, hlt, hc⟩ := h.faults.cell (by omega)
    refine ⟨g, 0, ea, hlt, fun i x hi => ⟨fEl x, rfl, fun j u hj => ?_⟩⟩
    have hj3 : j < 3 := (List.getElem?_eq_some_iff.1 hj).1
    have g0 := fcells_get hi hj3
    rw [hj] at g0
    simpa using hc _ _ g0
theorem KOwn.view {w : World} {B : Nat} {v : Value} {D : PDisk} (h : KOwn w B v D) : KView w v D := by
  obtain ⟨sa, sc, ca, cc, fa, fc, ss, cs, e, hk⟩ := h
  obtain ⟨h1, h2, h3⟩ := hk.view
  exact ⟨sa, sc, ca, cc, fa, fc, e, h1, h2, h3⟩

/-- One more byte row, a new one. -/
theorem Bs.push {w : World} {B : Nat} {vs : List Value} {ls : List (List Int)} (h : Bs w B vs ls) {v : Value} {l : List Int} (hb : OB w B v l) (hv : ∀ g, v.ownBlock = some g → (B ≤ g ∧ g < w.heap.size) ∧ ∀ u ∈ vs, u.ownBlock ≠ some g) : Bs w B (vs ++ [v]) (ls ++ [l]) := by
  refine ⟨by simp [h.len], fun i u x h1 h2 => ?_, fun u hu g hg => ?_, ?_⟩
  · by_cases hi : i < vs.length
    · rw [List.getElem?_append_left hi] at h1
      rw [List.getElem?_append_left (by rw [← h.len]; exact hi)] at h2
      exact h.ob i u x h1 h2
    · rw [List.getElem?_append_right (by omega)] at h1
      rw [List.getElem?_append_right (by rw [← h.len]; omega)] at h2
      have e0 : i - vs.length = 0 := by
        have := (List.getElem?_eq_some_iff.1 h1).1
        simp at this; omega
      rw [← h.len] at h2
      rw [e0] at h1 h2
      simp at h1 h2
      subst h1 h2
      exact hb
  · rcases List.mem_append.1 hu with hu | hu
    · exact h.lt u hu g hg
    · simp at hu; subst hu
      exact (hv g hg).1
  · rw [List.pairwise_append]
    refine ⟨h.apt, by simp, fun a ha b hb' => ?_⟩
    simp at hb'; subst hb'
    intro g h1 h2
    exact (hv g h2).2 a ha h1
theorem Bs.nil (w : World) (B : Nat) : Bs w B [] [] := ⟨rfl, fun i v l h => by simp at h, fun v hv => by simp at hv, List.Pairwise.nil⟩
/-- What came behind is new to what was there. -/
theorem Bs.newer {w : World} {B : Nat} {vs : List Value} {ls : List (List Int)} (h : Bs w B vs ls) {g : Nat} (hg : w.heap.size ≤ g) : ∀ u ∈ vs, u.ownBlock ≠ some g := by
  intro u hu e
  have := (h.lt u hu g e).2
  omega
/-- Rows, and rows that came behind them. -/
theorem Bs.app {w : World} {B B' : Nat} {vs us : List Value} {ls ms : List (List Int)} (h : Bs w B vs ls) (k : Bs w B' us ms) (hB : B ≤ B') (hlt : ∀ v, v ∈ vs → ∀ g, v.ownBlock = some g → g < B') : Bs w B (vs ++ us) (ls ++ ms) := by
  refine ⟨by simp [h.len, k.len], fun i u x h1 h2 => ?_, fun u hu g hg => ?_, ?_⟩
  · by_cases hi : i < vs.length
    · rw [List.getElem?_append_left hi] at h1
      rw [List.getElem?_append_left (by rw [← h.len]; exact hi)] at h2
      exact h.ob i u x h1 h2
    · rw [List.getElem?_append_right (by omega)] at h1
      rw [List.getElem?_append_right (by rw [← h.len]; omega), ← h.len] at h2
      exact (k.ob _ u x h1 h2).mono hB
  · rcases List.mem_append.1 hu with hu | hu
    · exact h.lt u hu g hg
    · have := k.lt u hu g hg
      exact ⟨by omega, this.2⟩
  · rw [List.pairwise_append]
    refine ⟨h.apt, k.apt, fun a ha b hb g h1 h2 => ?_⟩
    have h3 := hlt a ha g h1
    have h4 := (k.lt b hb g h2).1
    omega
/-- A cell of a block below is written. -/
theorem Up.set {B C i : Nat} {w : World} {u : Value} (h : C < B) : Up B w (w.setCell ⟨C, i, none⟩ u) := ⟨by simp, fun k hk _ => Below.heap_setCell _ _ _ _ (show k ≠ C by omega)⟩
theorem Up.refl (B : Nat) (w : World) : Up B w w := ⟨Nat.le_refl _, fun _ _ _ => rfl⟩
theorem Up.trans {B : Nat} {a b c : World} (h : Up B a b) (k : Up B b c) : Up B a c := ⟨Nat.le_trans h.1 k.1, fun i hi hl => (k.2 i hi (Nat.lt_of_lt_of_le hl h.1)).trans (h.2 i hi hl)⟩
theorem OB.ofIs {w : World} {B g : Nat} {l : List Int} (h : w.rowIs g 5 l.length (fun i => .int .u8 (bf l i))) (hB : B ≤ g) (hb : ∀ i, i < l.length → 0 ≤ bf l i ∧ bf l i ≤ 255) : OB w B (.slice (some ⟨g, 0, none⟩) l.length l.length) l := by
  refine ⟨_, _, rfl, Nat.le_refl _, (fun e => by cases e), fun x hx => ?_, .inr ⟨g, rfl, hB, Row.ofIs h⟩⟩
  obtain ⟨i, hi, rfl⟩ := List.getElem_of_mem hx
  have := hb i hi
  have e : bf l i = l[i] := by simp [bf, hi]
  rw [e] at this
  exact this

/-- A variable of several cells. -/
def VN (w : World) (B : Nat) (T : TypeId) (xs : List Value) : Prop := w.heap[B]? = some (.cells ⟨xs⟩ T (0, 0))
theorem VN.new (w : World) (T : TypeId) (xs : List Value) : VN (w.alloc (.cells ⟨xs⟩ T)) w.heap.size T xs := by unfold VN; show (w.heap.push _)[w.heap.size]? = _; simp
theorem VN.lt {w : World} {B : Nat} {T : TypeId} {xs : List Value} (h : VN w B T xs) : B < w.heap.size := (Array.getElem?_eq_some_iff.1 h).1
theorem VN.block {w w' : World} {B : Nat} {T : TypeId} {xs : List Value} (h : VN w B T xs) (e : w'.heap[B]? = w.heap[B]?) : VN w' B T xs := e.trans h
theorem VN.below {w w' : World} {B : Nat} {T : TypeId} {xs : List Value} (h : VN w B T xs) (hb : Below w.heap.size w w') : VN w' B T xs := h.block (hb.block B h.lt)
theorem VN.other {w : World} {B C i : Nat} {T : TypeId} {xs : List Value} {u : Value} (h : VN w B T xs) (hne : B ≠ C) : VN (w.setCell ⟨C, i, none⟩ u) B T xs := h.block (Below.heap_setCell _ _ _ _ hne)
theorem VN.cell {w : World} {B : Nat} {T : TypeId} {xs : List Value} (h : VN w B T xs) (i : Nat) : w.cell? ⟨B, i, none⟩ = xs[i]? := by
  unfold VN at h
  simp [World.cell?, h]
theorem VN.fz {w : World} {B : Nat} {T : TypeId} {xs : List Value} (h : VN w B T xs) (i : Nat) : w.frozen? ⟨B, i, none⟩ = false := by
  unfold VN at h
  simp [World.frozen?, h]
theorem VN.set {w : World} {B : Nat} {T : TypeId} {xs : List Value} (h : VN w B T xs) (i : Nat) (u : Value) : VN (w.setCell ⟨B, i, none⟩ u) B T (xs.set i u) := by
  unfold VN at h ⊢
  simp [World.setCell, Array.getElem?_modify, h]
end Go.Proofs.Ytficmogjpnmfdaa

/-
  What the law's own helper eqByteS comes to on rows that are alike.
-/
namespace Go.Proofs.Ytficmogjpnmfdaa
open Go.RowKit
set_option maxRecDepth 4000

/-- Two slices that read alike: true. -/
theorem eqByteS_same (a1 a2 : Option Addr) (n c1 c2 : Nat) (f g : Nat → Int) (w : World) (h1 : View w a1 n c1 f) (h2 : View w a2 n c2 g) (hn : n ≤ 281474976710656) (he : ∀ i, i < n → f i = g i) :
    Calls Try.prog 50 #[.slice a1 n c1, .slice a2 n c2] w fun e w' => e = .returned (.bool true) ∧ Below w.heap.size w w' := by
  go_enter Try.func50, Try.ntmps50
  go_wp2
  go_loopg [5] n (fun q i wr => ∃ k : Nat, k ≤ n ∧ q = n - k ∧ i = .int .i64 k ∧ Below w.heap.size w wr)
  case atStart => exact ⟨0, Nat.zero_le _, rfl, rfl, Below.refl _ _⟩
  case round =>
    obtain ⟨k, hk, rfl, rfl, hB⟩ := hrel
    by_cases hlt : k < n
    · obtain ⟨b1, o1, rfl, hb1, hc1⟩ := h1.cells (by omega)
      obtain ⟨b2, o2, rfl, hb2, hc2⟩ := h2.cells (by omega)
      have hkz : (k : Int) < (n : Int) := by omega
      have e1 : wr.cell? ⟨b1, o1 + k, none⟩ = some (.int .u8 (f k)) := by rw [hB.cell (p := ⟨b1, o1 + k, none⟩) hb1]; exact hc1 k hlt
      have e2 : wr.cell? ⟨b2, o2 + k, none⟩ = some (.int .u8 (f k)) := by rw [hB.cell (p := ⟨b2, o2 + k, none⟩) hb2, he k hlt]; exact hc2 k hlt
      clear hc1 hc2 he
      go_wp2
      go_region
      all_goals go_wp2
      all_goals
        go_roundg (n - (k + 1))
        case measure => omega
        case rel => exact ⟨k + 1, by omega, rfl, by go_num, by first | exact hB.drew | exact hB⟩
    · go_wp2
      go_ret
      exact ⟨rfl, hB⟩
end Go.Proofs.Ytficmogjpnmfdaa

/-
  What the law's own helpers markByteS and heldByteS come to: the one writes a count into a row of the call's own, the other finds it there.
-/
namespace Go.Proofs.Ytficmogjpnmfdaa
open Go.RowKit
set_option maxRecDepth 4000

structure Marked (w wr : World) (b n : Nat) (f : Nat → Int) (k : Int) (j : Nat) : Prop where
  only : Only b w wr
  row : Row 5 wr b n (fun i => if i < j then (k + i) % 256 else f i)

theorem marked_step {w wr : World} {b n : Nat} {f : Nat → Int} {k : Int} {j : Nat} (h : Marked w wr b n f k j) : Marked w (wr.setCell ⟨b, j, none⟩ (.int .u8 ((k + j) % 256))) b n f k (j + 1) := by
  refine ⟨h.only.setCell _, (h.row.set j _).congr (fun i _ => ?_)⟩
  by_cases e : i = j
  · subst e; simp
  · rw [if_neg e]
    by_cases hlt : i < j
    · rw [if_pos hlt, if_pos (by omega)]
    · rw [if_neg hlt, if_neg (by omega)]

set_option maxHeartbeats 400000 in
theorem mark_any (b n cap : Nat) (f : Nat → Int) (k : Int) (w : World) (hr : Row 5 w b n f) (hk : 0 ≤ k) (hk1 : k + n ≤ 4611686018427387904) :
    Calls Try.prog 63 #[.slice (some ⟨b, 0, none⟩) n cap, .int .i64 k] w fun e w' => e = .returned (.int .i64 (k + n)) ∧ Row 5 w' b n (fun i => (k + i) % 256) ∧ Only b w w' := by
  go_enter Try.func63, Try.ntmps63
  go_wp2
  go_loopg [1, 5] n (fun g s i wr => ∃ j : Nat, j ≤ n ∧ g = n - j ∧ s = .int .i64 (k + j) ∧ i = .int .i64 j ∧ Marked w wr b n f k j)
  case atStart => exact ⟨0, Nat.zero_le _, rfl, by simp, rfl, Only.refl _ _, hr.congr (fun i _ => by simp)⟩
  case round =>
    obtain ⟨j, hj, rfl, rfl, rfl, hM⟩ := hrel
    clear hr
    by_cases hlt : j < n
    · have hjz : (j : Int) < (n : Int) := by omega
      have hc := hM.row.cell hlt
      have hf := hM.row.frozen j
      have hS : Hid (Marked w (wr.setCell ⟨b, j, none⟩ (.int .u8 ((k + j) % 256))) b n f k (j + 1)) := marked_step hM
      have hw : ∀ x : Int, IntKind.u8.wrap x = x % 256 := u8_wrap
      clear hM
      go_wp2
      go_roundg (n - (j + 1))
      case measure => omega
      case rel => exact ⟨j + 1, by omega, rfl, by go_num, by go_num, hS.out⟩
    · obtain rfl : j = n := by omega
      have hF : Hid (Row 5 wr b j (fun i => (k + i) % 256)) := hM.row.congr (fun i hi => by rw [if_pos (by omega)])
      have hO := hM.only
      clear hM
      go_wp2
      go_ret
      exact ⟨rfl, hF.out, hO⟩

set_option maxHeartbeats 400000 in
theorem held_any (ao : Option Addr) (n cap : Nat) (f : Nat → Int) (k : Int) (w : World) (hv : View w ao n cap f) (he : ∀ i, i < n → f i = (k + i) % 256) (hk : 0 ≤ k) (hk1 : k + n ≤ 4611686018427387904) :
    Calls Try.prog 64 #[.slice ao n cap, .int .i64 k] w fun e w' => e = .returned (.int .i64 (k + n)) ∧ Below w.heap.size w w' := by
  go_enter Try.func64, Try.ntmps64
  go_wp2
  go_loopg [1, 5] n (fun g s i wr => ∃ j : Nat, j ≤ n ∧ g = n - j ∧ s = .int .i64 (k + j) ∧ i = .int .i64 j ∧ Below w.heap.size w wr)
  case atStart => exact ⟨0, Nat.zero_le _, rfl, by simp, rfl, Below.refl _ _⟩
  case round =>
    obtain ⟨j, hj, rfl, rfl, rfl, hB⟩ := hrel
    by_cases hlt : j < n
    · obtain ⟨b, off, rfl, hb, hc⟩ := hv.cells (by omega)
      have hjz : (j : Int) < (n : Int) := by omega
      have hc1 : wr.cell? ⟨b, off + j, none⟩ = some (.int .u8 ((k + j) % 256)) := by rw [hB.cell (p := ⟨b, off + j, none⟩) hb, ← he j hlt]; exact hc j hlt
      have hw : ∀ x : Int, IntKind.u8.wrap x = x % 256 := u8_wrap
      clear hc he
      go_wp2
      all_goals
        go_roundg (n - (j + 1))
        case measure => omega
        case rel => exact ⟨j + 1, by omega, rfl, by go_num, by go_num, by first | exact hB.drew | exact hB⟩
    · obtain rfl : j = n := by omega
      go_wp2
      go_ret
      exact ⟨rfl, hB⟩
end Go.Proofs.Ytficmogjpnmfdaa

