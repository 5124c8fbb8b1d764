/-
  Together: FirstPlain, FirstImpl, TokName, TokSpec
-/
import Derived.Test.YtnpfgamlncfikaaGreatDoorPackF8
import Derived.Test.YtnpfgamlncfikaaGreatDoorPackF12
import Derived.Test.YtnpfgamlncfikaaGreatDoorPackF5
import Derived.Deep.LoopGhost
import Derived.Test.YtnpfgamlncfikaaGreatDoorPackF1
import Derived.Test.YtnpfgamlncfikaaGreatDoorProg
import Derived.WalkMore
import Derived.Test.YtnpfgamlncfikaaGreatDoorPackF2
/-
  The first table that is not right, plainly.
-/
namespace Go.Proofs.YtnpfgamlncfikaaGreatDoor
open Go.RowKit
set_option maxRecDepth 4000

theorem badFrom_no (f : Nat → PDef) (m k : Nat) (h : ∀ i, k ≤ i → i < k + m → badF f i = false) : badFrom f m k = -1 := by
  induction m generalizing k with
  | zero => rfl
  | succ m ih => rw [badFrom, h k (Nat.le_refl _) (by omega), if_neg (by simp)]; exact ih (k + 1) (fun i h1 h2 => h i (by omega) (by omega))
theorem badFrom_hit (f : Nat → PDef) : ∀ (m k j : Nat), k ≤ j → j < k + m → (∀ i, k ≤ i → i < j → badF f i = false) → badF f j = true → badFrom f m k = j
  | 0, k, j, h1, h2, _, _ => by omega
  | m + 1, k, j, h1, h2, h, hj => by
    rw [badFrom]
    by_cases e : k = j
    · subst e; rw [hj, if_pos rfl]
    · rw [h k (Nat.le_refl _) (by omega), if_neg (by simp)]
      exact badFrom_hit f m (k + 1) j (by omega) (by omega) (fun i a b => h i (by omega) b) hj
theorem firstF_hit {f : Nat → PDef} {n j : Nat} (hj : j < n) (h : ∀ i, i < j → badF f i = false) (hb : badF f j = true) : firstF f n = j :=
  badFrom_hit f n 0 j (Nat.zero_le _) (by omega) (fun i _ hi => h i hi) hb
theorem firstF_no {f : Nat → PDef} {n : Nat} (h : ∀ i, i < n → badF f i = false) : firstF f n = -1 := badFrom_no f n 0 (fun i _ hi => h i (by omega))
theorem badF_check {f : Nat → PDef} {i : Nat} (h : checkF (f i) ≠ 0) : badF f i = true := decide_eq_true (.inl h)
theorem badF_late {f : Nat → PDef} {i : Nat} (h : 2 < i) : badF f i = true := decide_eq_true (.inr (.inl h))
theorem badF_twice {f : Nat → PDef} {i k : Nat} (h : k < i) (e : (f k).name = (f i).name) : badF f i = true := decide_eq_true (.inr (.inr ⟨k, h, e⟩))
theorem badF_no {f : Nat → PDef} {i : Nat} (h1 : checkF (f i) = 0) (h2 : i ≤ 2) (h3 : ∀ k, k < i → (f k).name ≠ (f i).name) : badF f i = false :=
  decide_eq_false (fun h => by
    rcases h with h | h | ⟨k, hk, e⟩
    · exact h h1
    · omega
    · exact h3 k hk e)
end Go.Proofs.YtnpfgamlncfikaaGreatDoor

/-
  The program's FirstBad comes to the plain one.
-/
namespace Go.Proofs.YtnpfgamlncfikaaGreatDoor
open Go.RowKit
set_option maxRecDepth 4000

set_option maxHeartbeats 2000000 in
theorem indexStr9 (a : Option Addr) (n cap : Nat) (f : Nat → ByteArray) (x : ByteArray) (w : World) (h : SView w a n cap f) (hn : n ≤ 1048576) :
    Calls Tryz.prog 67 #[.slice a n cap, .string x] w fun e w' => ∃ r : Int, e = .returned (.int .i64 r) ∧ Hid (0 ≤ r ↔ ∃ i, i < n ∧ f i = x) ∧ w' = w := by
  go_enter Tryz.func67, Tryz.ntmps67
  go_wp2
  go_loopg [8] n (fun q i wr => ∃ k : Nat, k ≤ n ∧ q = n - k ∧ i = .int .i64 k ∧ wr = w ∧ Hid (∀ i, i < k → f i ≠ x))
  case atStart => exact ⟨0, Nat.zero_le _, rfl, rfl, rfl, fun i hi => absurd hi (Nat.not_lt_zero _)⟩
  case round =>
    obtain ⟨k, hk, rfl, rfl, rfl, HA⟩ := hrel
    by_cases hlt : k < n
    · have hkz : (k : Int) < (n : Int) := by omega
      obtain ⟨b1, o1, rfl, hb1, hc1⟩ := h.cells (by omega)
      have x0 := hc1 k hlt
      obtain ⟨s0, hs0⟩ : ∃ y, Hid (f k = y) := ⟨_, rfl⟩
      rw [hs0.out] at x0
      clear h hc1
      by_cases he : x = s0
      · have hq := bytes_eq he
        go_wp2
        go_ret
        exact ⟨k, rfl, ⟨fun _ => ⟨k, hlt, hs0.out.trans he.symm⟩, fun _ => by omega⟩, rfl⟩
      · have hq := bytes_ne he
        go_wp2
        go_roundg (n - (k + 1))
        case measure => omega
        case rel => exact ⟨k + 1, by omega, rfl, by go_num, rfl, fun i hi => by
          by_cases e : i < k
          · exact HA.out i e
          · obtain rfl : i = k := by omega
            rw [hs0.out]; exact fun e => he e.symm⟩
    · have hkz : ¬ (k : Int) < (n : Int) := by omega
      clear h
      go_wp2
      go_ret
      exact ⟨-1, rfl, ⟨fun h => by omega, fun ⟨i, hi, e⟩ => absurd e (HA.out i (by omega))⟩, rfl⟩
set_option maxHeartbeats 1000000 in
theorem containsStr9 (a : Option Addr) (n cap : Nat) (f : Nat → ByteArray) (x : ByteArray) (w : World) (h : SView w a n cap f) (hn : n ≤ 1048576) :
    Calls Tryz.prog 30 #[.slice a n cap, .string x] w fun e w' => e = .returned (.bool (decide (∃ i, i < n ∧ f i = x))) ∧ w' = w := by
  have hI := indexStr9 a n cap f x w h hn
  clear h
  go_enter Tryz.func30, Tryz.ntmps30
  go_wp2_with fail
  refine hI.mono ?_
  rintro e w' ⟨r, rfl, HR, rfl⟩
  clear hI
  have HD : Hid (decide (∃ i, i < n ∧ f i = x) = decide (0 ≤ r)) := by show _ = _; rw [decide_eq_decide]; exact HR.out.symm
  go_wp2
  go_ret
  exact ⟨by rw [HD.out]; rfl, rfl⟩

set_option maxHeartbeats 4000000 in
theorem implFirst_any (a : Option Addr) (n cap : Nat) (f : Nat → PDef) (w : World) (h : LView w a n cap f) (hf : LFine n f)
    (hI : ∀ (W : World) (v : Value) (D : PDef), Below w.heap.size w W → DView W v D → DFine D → Calls Tryz.prog 29 #[v] W fun e w' => e = .returned (.int .i64 (checkF D)) ∧ Below W.heap.size W w') :
    Calls Tryz.prog 11 #[.slice a n cap] w fun e w' => e = .returned (.int .i64 (firstF f n)) ∧ Below w.heap.size w w' := by
  obtain ⟨i0, hi, hz0, hz1, hz2⟩ := infoStr
  have hn := hf.few
  have hbE : Below w.heap.size w (w.alloc (.cells #[] 9)) := (Below.refl _ _).alloc (Nat.le_refl _) _
  have hO0 : (w.alloc (.cells #[] 9)).ownsRow w.heap.size 9 1 (.slice (some ⟨w.heap.size, 0, none⟩) 0 0) 0 (rowG (encS (fun i => (f i).name)) 0) := by
    have := World.ownsRow_lit (base := w.heap.size) (e := 9) (size := 1) w #[] 0 (Nat.le_refl _) (Nat.zero_le _) rfl
    simpa [rowG] using this
  go_enter Tryz.func11, Tryz.ntmps11
  go_wp2
  go_loopg [9, 3] n (fun q i s wr => ∃ k : Nat, k ≤ n ∧ q = n - k ∧ i = .int .i64 k ∧ (∃ g c, s = .slice (some ⟨g, 0, none⟩) k c) ∧ wr.ownsRow w.heap.size 9 1 s k (rowG (encS (fun i => (f i).name)) k) ∧ Below w.heap.size w wr ∧ Hid (∀ i, i < k → badF f i = false))
  case atStart => exact ⟨0, Nat.zero_le _, rfl, rfl, ⟨_, _, rfl⟩, hO0, hbE, fun j hj => absurd hj (Nat.not_lt_zero _)⟩
  case round =>
    clear hO0 hbE
    obtain ⟨k, hk, rfl, rfl, ⟨sa, sc, rfl⟩, hO, hB, HA⟩ := hrel
    by_cases hlt : k < n
    · have hkz : (k : Int) < (n : Int) := by omega
      obtain ⟨b1, o1, rfl, hb1, hc1⟩ := (h.below hB).cells (by omega)
      obtain ⟨y1, y2, y3, x0, x1, x2, x3, hv⟩ := hc1 k hlt
      obtain ⟨ac, cc, ap, cp, ai, ci, -, rfl, rfl, rfl, -, -, -⟩ := hv.parts
      obtain ⟨n1, hn1⟩ : ∃ x, Hid ((f k).nc = x) := ⟨_, rfl⟩
      obtain ⟨n2, hn2⟩ : ∃ x, Hid ((f k).np = x) := ⟨_, rfl⟩
      obtain ⟨n3, hn3⟩ : ∃ x, Hid ((f k).ni = x) := ⟨_, rfl⟩
      simp only [hn1.out, hn2.out, hn3.out] at x1 x2 x3 hv
      obtain ⟨p0, hp0⟩ : ∃ x, Hid ((f k).name = x) := ⟨_, rfl⟩
      simp only [hp0.out] at x0 hv
      have hb2 : Below wr.heap.size wr (wr.alloc (.cells #[.string p0, .slice ac n1 cc, .slice ap n2 cp, .slice ai n3 ci] 35)) := (Below.refl _ _).alloc (Nat.le_refl _) _
      have HB2 : Hid (Below w.heap.size w (wr.alloc (.cells #[.string p0, .slice ac n1 cc, .slice ap n2 cp, .slice ai n3 ci] 35))) := hB.trans (hb2.mono hB.size)
      have hsz := hB.size
      by_cases hk3 : k < 3
      · have hk3' : ¬ (3 : Int) ≤ (k : Int) := by omega
        have hC := hI _ _ (f k) HB2.out (hv.below hb2) (hf.at_ k hlt)
        obtain ⟨c, hc⟩ : ∃ c, Hid (checkF (f k) = c) := ⟨_, rfl⟩
        simp only [hc.out] at hC
        have hbx := box4_start wr (.cells #[.string p0, .slice ac n1 cc, .slice ap n2 cp, .slice ai n3 ci] 35)
        clear hI hv hf h hc1
        go_wp2_with fail
        refine hC.mono ?_
        rintro e w2 ⟨rfl, hb3⟩
        have hbx2 := box4_on hbx hb3
        obtain ⟨hbw2, hs2⟩ := box4_below hbx2
        obtain ⟨z0, z1, z2, z3⟩ := box4 hbx2
        have HB3 : Hid (Below w.heap.size w w2) := HB2.out.trans (hb3.mono HB2.out.size)
        have hO2 := own_belowG hO hbw2
        clear hC hb3 hbx hbx2 HB2 hO x0 x1 x2 x3 z1 z2 z3 hb2
        by_cases hcz : c = 0
        · subst hcz
          obtain ⟨a', k', ea, hsv, -⟩ := sview_of_own hO2
          have hCt := containsStr9 (some ⟨sa, 0, none⟩) k sc (fun i => (f i).name) p0 w2 (by cases ea; exact hsv) (by omega)
          cases ea
          clear hsv
          by_cases hin : ∃ i, i < k ∧ (f i).name = p0
          · rw [decide_eq_true hin] at hCt
            have HF : Hid (firstF f n = k) := by
              obtain ⟨i, hi, e⟩ := hin
              exact firstF_hit hlt HA.out (badF_twice hi (by rw [e, hp0.out]))
            clear hin hO2
            go_wp2_with fail
            refine hCt.mono ?_
            rintro e w3 ⟨rfl, rfl⟩
            clear hCt
            go_wp2
            go_ret
            exact ⟨by rw [HF.out]; rfl, HB3.out⟩
          · rw [decide_eq_false hin] at hCt
            have HN2 : Hid (∀ i, i < k + 1 → badF f i = false) := fun i hi => by
              by_cases e : i < k
              · exact HA.out i e
              · obtain rfl : i = k := by omega
                exact badF_no hc.out (by omega) (fun j hj e => hin ⟨j, hj, by rw [e, hp0.out]⟩)
            have HN : Hid (rowG (encS (fun i => (f i).name)) (k + 1) = rowG (encS (fun i => (f i).name)) k ++ [.string p0]) := by show _ = _; rw [← hp0.out]; rfl
            obtain ⟨R, hR⟩ : ∃ x, Hid (rowG (encS (fun i => (f i).name)) k = x) := ⟨_, rfl⟩
            rw [hR.out] at HN hO2
            have hb4 : Below w2.heap.size w2 (w2.alloc (.cells #[.string p0] 9)) := (Below.refl _ _).alloc (Nat.le_refl _) _
            have HB4 : Hid (Below w.heap.size w (w2.alloc (.cells #[.string p0] 9))) := HB3.out.trans (hb4.mono HB3.out.size)
            have hO3 := own_belowG hO2 hb4
            have hcl : ∀ j u, [Value.string p0][j]? = some u → (w2.alloc (.cells #[.string p0] 9)).cell? ((⟨w2.heap.size, 0, none⟩ : Addr).add j) = some u := by
              intro j u hj
              match j, hj with
              | 0, hj => simp at hj; subst hj; simp [Addr.add]
            have HOW := own_ge9 hO2
            have hsz2 := HB3.out.size
            clear hin hO2 hb4
            go_wp2_with fail
            refine hCt.mono ?_
            rintro e w3 ⟨rfl, rfl⟩
            clear hCt
            go_wp2_with (at_builtin; refine wpList_append_own _ rfl (.tmp 28) (.tmp 31) 61 rfl w.heap.size 9 i0 (.string ⟨#[]⟩) 1 16 Tryz.underlying61 hi hz0 hz1 hz2 rfl (by decide) _ _ _ rfl hO3 ⟨w3.heap.size, 0, none⟩ 1 1 [.string p0] rfl rfl hcl (by intro u hu; simp at hu; subst hu; rfl) (by unfold maxLen; omega) (by omega) (by simp; omega) ?_)
            intro v5 w4 hown5 hgr hnil
            obtain ⟨g', cap', rfl⟩ := own_succ9 hown5
            have HR : Hid (w4.ownsRow w.heap.size 9 1 (.slice (some ⟨g', 0, none⟩) (k + 1) cap') (k + 1) (rowG (encS (fun i => (f i).name)) (k + 1)) ∧ Below w.heap.size w w4) := by
              refine ⟨?_, ?_⟩
              · rw [HN.out]; exact hown5
              · exact HB4.out.grown hgr (by simp; omega) HOW
            clear hown5 hgr hnil hO3 hcl HOW
            go_wp2
            go_roundg (n - (k + 1))
            case measure => omega
            case rel => exact ⟨k + 1, by omega, rfl, by go_num, ⟨_, _, rfl⟩, HR.out.1, HR.out.2, HN2⟩
        · have hcz' : (c != 0) = true := by simpa using hcz
          clear hO2
          go_wp2
          go_ret
          exact ⟨by rw [firstF_hit hlt HA.out (badF_check (by rw [hc.out]; exact hcz))]; rfl, HB3.out⟩
      · have hk3' : (3 : Int) ≤ (k : Int) := by omega
        clear hI hv hf h hc1 hO
        go_wp2
        go_ret
        exact ⟨by rw [firstF_hit hlt HA.out (badF_late (by omega))]; rfl, HB2.out⟩
    · have hkz : ¬ (k : Int) < (n : Int) := by omega
      clear h hf hI hO
      go_wp2
      go_ret
      exact ⟨by rw [firstF_no (fun i hi => HA.out i (by omega))]; rfl, hB⟩
end Go.Proofs.YtnpfgamlncfikaaGreatDoor

/-
  The model's l8Name: whether a text is a name.
-/
namespace Go.Proofs.YtnpfgamlncfikaaGreatDoor
open Go.RowKit
set_option maxRecDepth 4000

theorem l1In_tok (x l m : Int) (w : World) :
    Calls Tryz.prog 116 #[.int .i64 x, .int .i64 l, .int .i64 m] w fun e w' => e = .returned (.bool (decide (l ≤ x) && decide (x ≤ m))) ∧ w = w' := by
  go_enter Tryz.func116, Tryz.ntmps116
  by_cases h : l ≤ x
  · have e1 : decide (l ≤ x) = true := by simpa using h
    go_wp2
    go_ret
    exact ⟨by simp [h], rfl⟩
  · have e1 : decide (l ≤ x) = false := by simpa using h
    go_wp2
    go_ret
    exact ⟨by simp, rfl⟩

theorem l8Small_any (c : Int) (w : World) (h0 : 0 ≤ c) (h1 : c ≤ 255) :
    Calls Tryz.prog 77 #[.int .u8 c] w fun e w' => e = .returned (.bool (small c)) ∧ w = w' := by
  have e : small c = (decide (97 ≤ c) && decide (c ≤ 122)) := by unfold small; simp
  rw [e]
  go_enter Tryz.func77, Tryz.ntmps77
  go_wp2_with fail
  refine (l1In_tok c 97 122 w).mono ?_
  rintro e w2 ⟨rfl, rfl⟩
  go_wp2
  go_ret
  exact ⟨rfl, rfl⟩
theorem l2Digit_tok (c : Int) (w : World) (h0 : 0 ≤ c) (h1 : c ≤ 255) :
    Calls Tryz.prog 78 #[.int .u8 c] w fun e w' => e = .returned (.bool (digit c)) ∧ w = w' := by
  have e : digit c = (decide (48 ≤ c) && decide (c ≤ 57)) := by unfold digit; simp
  rw [e]
  go_enter Tryz.func78, Tryz.ntmps78
  go_wp2_with fail
  refine (l1In_tok c 48 57 w).mono ?_
  rintro e w2 ⟨rfl, rfl⟩
  go_wp2
  go_ret
  exact ⟨rfl, rfl⟩

set_option maxHeartbeats 1000000 in
theorem l8Name_any (s : ByteArray) (w : World) (hs : s.size ≤ 281474976710656) :
    Calls Tryz.prog 125 #[.string s] w fun e w' => e = .returned (.bool (nameOk s)) ∧ w = w' := by
  go_enter Tryz.func125, Tryz.ntmps125
  go_wp2
  go_loopg [3] s.size (fun q i wr => ∃ k : Nat, k ≤ s.size ∧ q = s.size - k ∧ i = .int .i64 k ∧ wr = w ∧ (0 < k → small (bt s 0) = true) ∧ ∀ j, j < k → inName (bt s j) = true)
  case atStart => exact ⟨0, Nat.zero_le _, rfl, rfl, rfl, fun h => absurd h (Nat.lt_irrefl _), fun j hj => absurd hj (Nat.not_lt_zero _)⟩
  case round =>
    obtain ⟨k, hk, rfl, rfl, rfl, hs0, hall⟩ := hrel
    have HA : Hid ((0 < k → small (bt s 0) = true) ∧ ∀ j, j < k → inName (bt s j) = true) := ⟨hs0, hall⟩
    clear hs0 hall
    by_cases hlt : k < s.size
    · have hkz : (k : Int) < (s.size : Int) := by omega
      have hc := bt_at hlt
      have hbd := bt_bd s k
      obtain ⟨c, hcc⟩ : ∃ c, Hid (bt s k = c) := ⟨_, rfl⟩
      rw [hcc.out] at hc hbd
      have hS := l8Small_any c wr hbd.1 hbd.2
      have hD := l2Digit_tok c wr hbd.1 hbd.2
      go_wp2_with (rw [hc])
      refine hS.mono ?_
      cases hsm : small c with
      | true =>
        rintro e _ ⟨rfl, rfl⟩
        have HN : Hid ((0 < k + 1 → small (bt s 0) = true) ∧ ∀ j, j < k + 1 → inName (bt s j) = true) := by
          refine ⟨fun _ => ?_, fun j hj => ?_⟩
          · by_cases h0 : k = 0
            · subst h0; rw [hcc.out]; exact hsm
            · exact HA.out.1 (by omega)
          · by_cases e : j < k
            · exact HA.out.2 j e
            · obtain rfl : j = k := by omega
              rw [hcc.out]; unfold inName; rw [hsm]; rfl
        clear hS hD
        go_wp2
        go_roundg (s.size - (k + 1))
        case measure => omega
        case rel => exact ⟨k + 1, by omega, rfl, by go_num, rfl, HN.out.1, HN.out.2⟩
      | false =>
        rintro e _ ⟨rfl, rfl⟩
        by_cases h0 : k = 0
        · subst h0
          have HF : Hid (nameOk s = false) := by
            show _ = _
            unfold nameOk
            apply decide_eq_false
            rintro ⟨-, -, h, -⟩
            rw [hcc.out, hsm] at h; cases h
          clear hS hD
          go_wp2
          go_ret
          exact ⟨by rw [HF.out]; rfl, rfl⟩
        · have h0z : ((k : Int) == 0) = false := by simpa using h0
          clear hS
          go_wp2_with (rw [hc])
          refine hD.mono ?_
          cases hdg : digit c with
          | true =>
            rintro e _ ⟨rfl, rfl⟩
            have HN : Hid ((0 < k + 1 → small (bt s 0) = true) ∧ ∀ j, j < k + 1 → inName (bt s j) = true) := by
              refine ⟨fun _ => HA.out.1 (by omega), fun j hj => ?_⟩
              by_cases e : j < k
              · exact HA.out.2 j e
              · obtain rfl : j = k := by omega
                rw [hcc.out]; unfold inName; rw [hdg]; simp
            clear hD
            go_wp2
            go_roundg (s.size - (k + 1))
            case measure => omega
            case rel => exact ⟨k + 1, by omega, rfl, by go_num, rfl, HN.out.1, HN.out.2⟩
          | false =>
            rintro e _ ⟨rfl, rfl⟩
            have HF : Hid (nameOk s = false) := by
              show _ = _
              unfold nameOk
              apply decide_eq_false
              rintro ⟨-, -, -, h⟩
              have := h k hlt
              rw [hcc.out] at this
              unfold inName at this
              rw [hsm, hdg] at this; cases this
            clear hD
            go_wp2
            go_ret
            exact ⟨by rw [HF.out]; rfl, rfl⟩
    · have hkz : ¬ (k : Int) < (s.size : Int) := by omega
      obtain rfl : k = s.size := by omega
      have HF : Hid (nameOk s = (decide ((1 : Int) ≤ (s.size : Int)) && decide ((s.size : Int) ≤ 8))) := by
        show _ = _
        unfold nameOk
        by_cases h1 : 1 ≤ s.size
        · by_cases h2 : s.size ≤ 8
          · rw [decide_eq_true ⟨h1, h2, HA.out.1 (by omega), HA.out.2⟩]
            simp; omega
          · rw [decide_eq_false (fun h => h2 h.2.1)]
            simp; omega
        · rw [decide_eq_false (fun h => h1 h.1)]
          simp; omega
      go_wp2_with fail
      refine (l1In_tok _ 1 8 wr).mono ?_
      rintro e _ ⟨rfl, rfl⟩
      go_wp2
      go_ret
      exact ⟨by rw [HF.out]; rfl, rfl⟩

end Go.Proofs.YtnpfgamlncfikaaGreatDoor

/-
  The model's TokenOk comes to the plain one.
-/
namespace Go.Proofs.YtnpfgamlncfikaaGreatDoor
open Go.RowKit
set_option maxRecDepth 4000

theorem one_byte (s : ByteArray) (c : UInt8) : s = ⟨#[c]⟩ ↔ s.size = 1 ∧ bt s 0 = (c.toNat : Int) := by
  constructor
  · rintro rfl
    exact ⟨rfl, rfl⟩
  · rintro ⟨h1, h2⟩
    have h0 : 0 < s.size := by omega
    rw [← bt_at h0] at h2
    have h3 : s[0] = c := by
      apply UInt8.toNat.inj
      omega
    apply ByteArray.ext
    apply Array.ext
    · exact h1
    · intro i hi hi2
      obtain rfl : i = 0 := by simp at hi2; omega
      exact h3

theorem one_list (s : ByteArray) (c : UInt8) : s.toList = [c] ↔ s.size = 1 ∧ bt s 0 = (c.toNat : Int) := by
  rw [← one_byte, ByteArray.toList_eq]
  constructor
  · intro h; exact ByteArray.ext (Array.ext' h)
  · rintro rfl; rfl
theorem markOk_list (s : ByteArray) : markOk s = (s.toList == [123] || s.toList == [125] || s.toList == [44] || s.toList == [59]) := by
  rw [Bool.eq_iff_iff]
  simp only [Bool.or_eq_true, beq_iff_eq, one_list, markOk, markC, decide_eq_true_eq]
  constructor
  · rintro ⟨h, h1 | h1 | h1 | h1⟩
    · exact .inl (.inl (.inl ⟨h, h1⟩))
    · exact .inl (.inl (.inr ⟨h, h1⟩))
    · exact .inl (.inr ⟨h, h1⟩)
    · exact .inr ⟨h, h1⟩
  · rintro (((⟨h, h1⟩ | ⟨h, h1⟩) | ⟨h, h1⟩) | ⟨h, h1⟩)
    · exact ⟨h, .inl h1⟩
    · exact ⟨h, .inr (.inl h1)⟩
    · exact ⟨h, .inr (.inr (.inl h1))⟩
    · exact ⟨h, .inr (.inr (.inr h1))⟩

set_option maxHeartbeats 1000000 in
theorem l8Mark_any (s : ByteArray) (w : World) :
    Calls Tryz.prog 126 #[.string s] w fun e w' => e = .returned (.bool (markOk s)) ∧ w = w' := by
  have HM : Hid (markOk s = (s.toList == [123] || s.toList == [125] || s.toList == [44] || s.toList == [59])) := markOk_list s
  go_enter Tryz.func126, Tryz.ntmps126
  go_wp2
  all_goals
    go_ret
    exact ⟨by rw [HM.out]; simp [*], rfl⟩

set_option maxHeartbeats 1000000 in
theorem specTokenOk_any (k : Int) (s : ByteArray) (w : World) (hs : s.size ≤ 281474976710656) :
    Calls Tryz.prog 79 #[.agg #[.int .i64 k, .string s]] w fun e w' => e = .returned (.bool (tokOk k s)) ∧ Below w.heap.size w w' := by
  have hb1 : Below w.heap.size w (w.alloc (.cells #[.int .i64 k, .string s] 41)) := (Below.refl _ _).alloc (Nat.le_refl _) _
  by_cases c1 : k = 1
  · subst c1
    have HF : Hid (tokOk 1 s = nameOk s) := rfl
    go_enter Tryz.func79, Tryz.ntmps79
    go_wp2_with fail
    refine (l8Name_any s _ hs).mono ?_
    rintro e _ ⟨rfl, rfl⟩
    go_wp2
    go_ret
    exact ⟨by rw [HF.out]; rfl, hb1⟩
  by_cases c2 : k = 2
  · subst c2
    have HF : Hid (tokOk 2 s = markOk s) := rfl
    go_enter Tryz.func79, Tryz.ntmps79
    go_wp2_with fail
    refine (l8Mark_any s _).mono ?_
    rintro e _ ⟨rfl, rfl⟩
    go_wp2
    go_ret
    exact ⟨by rw [HF.out]; rfl, hb1⟩
  have HF : Hid (tokOk k s = false) := by show _ = _; unfold tokOk; rw [if_neg c1, if_neg c2]
  have z1 : (k == 1) = false := by simpa using c1
  have z2 : (k == 2) = false := by simpa using c2
  go_enter Tryz.func79, Tryz.ntmps79
  go_wp2
  go_ret
  exact ⟨by rw [HF.out]; rfl, hb1⟩
end Go.Proofs.YtnpfgamlncfikaaGreatDoor

