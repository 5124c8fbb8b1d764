/-
  Together: FirstImpl, TokOkImpl, GrowStr, ConcatImpl
-/
import Derived.Test.YtmibpdnlphdoaaaGreatDoorPackF11
import Derived.Test.YtmibpdnlphdoaaaGreatDoorPackF12
import Derived.Test.YtmibpdnlphdoaaaGreatDoorPackF3
import Derived.Test.YtmibpdnlphdoaaaGreatDoorPackF6
import Derived.Deep.LoopGhost
import Derived.Test.YtmibpdnlphdoaaaGreatDoorLexImpl
import Derived.BigQuiet
import Derived.Deep.QuietTactic
import Derived.Lib.AppendZeros
/-
  The program's FirstBad comes to the plain one.
-/
namespace Go.Proofs.YtmibpdnlphdoaaaGreatDoor
open Go.RowKit
set_option maxRecDepth 4000

set_option maxHeartbeats 2000000 in
theorem indexStr9 (a : Option Addr) (n cap : Nat) (f : Nat → ByteArray) (x : ByteArray) (w : World) (h : SView w a n cap f) (hn : n ≤ 1048576) :
    Calls Tryz.prog 67 #[.slice a n cap, .string x] w fun e w' => ∃ r : Int, e = .returned (.int .i64 r) ∧ Hid (0 ≤ r ↔ ∃ i, i < n ∧ f i = x) ∧ w' = w := by
  go_enter Tryz.func67, Tryz.ntmps67
  go_wp2
  go_loopg [8] n (fun q i wr => ∃ k : Nat, k ≤ n ∧ q = n - k ∧ i = .int .i64 k ∧ wr = w ∧ Hid (∀ i, i < k → f i ≠ x))
  case atStart => exact ⟨0, Nat.zero_le _, rfl, rfl, rfl, fun i hi => absurd hi (Nat.not_lt_zero _)⟩
  case round =>
    obtain ⟨k, hk, rfl, rfl, rfl, HA⟩ := hrel
    by_cases hlt : k < n
    · have hkz : (k : Int) < (n : Int) := by omega
      obtain ⟨b1, o1, rfl, hb1, hc1⟩ := h.cells (by omega)
      have x0 := hc1 k hlt
      obtain ⟨s0, hs0⟩ : ∃ y, Hid (f k = y) := ⟨_, rfl⟩
      rw [hs0.out] at x0
      clear h hc1
      by_cases he : x = s0
      · have hq := bytes_eq he
        go_wp2
        go_ret
        exact ⟨k, rfl, ⟨fun _ => ⟨k, hlt, hs0.out.trans he.symm⟩, fun _ => by omega⟩, rfl⟩
      · have hq := bytes_ne he
        go_wp2
        go_roundg (n - (k + 1))
        case measure => omega
        case rel => exact ⟨k + 1, by omega, rfl, by go_num, rfl, fun i hi => by
          by_cases e : i < k
          · exact HA.out i e
          · obtain rfl : i = k := by omega
            rw [hs0.out]; exact fun e => he e.symm⟩
    · have hkz : ¬ (k : Int) < (n : Int) := by omega
      clear h
      go_wp2
      go_ret
      exact ⟨-1, rfl, ⟨fun h => by omega, fun ⟨i, hi, e⟩ => absurd e (HA.out i (by omega))⟩, rfl⟩
set_option maxHeartbeats 1000000 in
theorem containsStr9 (a : Option Addr) (n cap : Nat) (f : Nat → ByteArray) (x : ByteArray) (w : World) (h : SView w a n cap f) (hn : n ≤ 1048576) :
    Calls Tryz.prog 30 #[.slice a n cap, .string x] w fun e w' => e = .returned (.bool (decide (∃ i, i < n ∧ f i = x))) ∧ w' = w := by
  have hI := indexStr9 a n cap f x w h hn
  clear h
  go_enter Tryz.func30, Tryz.ntmps30
  go_wp2_with fail
  refine hI.mono ?_
  rintro e w' ⟨r, rfl, HR, rfl⟩
  clear hI
  have HD : Hid (decide (∃ i, i < n ∧ f i = x) = decide (0 ≤ r)) := by show _ = _; rw [decide_eq_decide]; exact HR.out.symm
  go_wp2
  go_ret
  exact ⟨by rw [HD.out]; rfl, rfl⟩

set_option maxHeartbeats 4000000 in
theorem implFirst_any (a : Option Addr) (n cap : Nat) (f : Nat → PDef) (w : World) (h : LView w a n cap f) (hf : LFine n f)
    (hI : ∀ (W : World) (v : Value) (D : PDef), Below w.heap.size w W → DView W v D → DFine D → Calls Tryz.prog 29 #[v] W fun e w' => e = .returned (.int .i64 (checkF D)) ∧ Below W.heap.size W w') :
    Calls Tryz.prog 11 #[.slice a n cap] w fun e w' => e = .returned (.int .i64 (firstF f n)) ∧ Below w.heap.size w w' := by
  obtain ⟨i0, hi, hz0, hz1, hz2⟩ := infoStr
  have hn := hf.few
  have hbE : Below w.heap.size w (w.alloc (.cells #[] 9)) := (Below.refl _ _).alloc (Nat.le_refl _) _
  have hO0 : (w.alloc (.cells #[] 9)).ownsRow w.heap.size 9 1 (.slice (some ⟨w.heap.size, 0, none⟩) 0 0) 0 (rowG (encS (fun i => (f i).name)) 0) := by
    have := World.ownsRow_lit (base := w.heap.size) (e := 9) (size := 1) w #[] 0 (Nat.le_refl _) (Nat.zero_le _) rfl
    simpa [rowG] using this
  go_enter Tryz.func11, Tryz.ntmps11
  go_wp2
  go_loopg [9, 3] n (fun q i s wr => ∃ k : Nat, k ≤ n ∧ q = n - k ∧ i = .int .i64 k ∧ (∃ g c, s = .slice (some ⟨g, 0, none⟩) k c) ∧ wr.ownsRow w.heap.size 9 1 s k (rowG (encS (fun i => (f i).name)) k) ∧ Below w.heap.size w wr ∧ Hid (∀ i, i < k → badF f i = false))
  case atStart => exact ⟨0, Nat.zero_le _, rfl, rfl, ⟨_, _, rfl⟩, hO0, hbE, fun j hj => absurd hj (Nat.not_lt_zero _)⟩
  case round =>
    clear hO0 hbE
    obtain ⟨k, hk, rfl, rfl, ⟨sa, sc, rfl⟩, hO, hB, HA⟩ := hrel
    by_cases hlt : k < n
    · have hkz : (k : Int) < (n : Int) := by omega
      obtain ⟨b1, o1, rfl, hb1, hc1⟩ := (h.below hB).cells (by omega)
      obtain ⟨y1, y2, y3, x0, x1, x2, x3, hv⟩ := hc1 k hlt
      obtain ⟨ac, cc, ap, cp, ai, ci, -, rfl, rfl, rfl, -, -, -⟩ := hv.parts
      obtain ⟨n1, hn1⟩ : ∃ x, Hid ((f k).nc = x) := ⟨_, rfl⟩
      obtain ⟨n2, hn2⟩ : ∃ x, Hid ((f k).np = x) := ⟨_, rfl⟩
      obtain ⟨n3, hn3⟩ : ∃ x, Hid ((f k).ni = x) := ⟨_, rfl⟩
      simp only [hn1.out, hn2.out, hn3.out] at x1 x2 x3 hv
      obtain ⟨p0, hp0⟩ : ∃ x, Hid ((f k).name = x) := ⟨_, rfl⟩
      simp only [hp0.out] at x0 hv
      have hb2 : Below wr.heap.size wr (wr.alloc (.cells #[.string p0, .slice ac n1 cc, .slice ap n2 cp, .slice ai n3 ci] 35)) := (Below.refl _ _).alloc (Nat.le_refl _) _
      have HB2 : Hid (Below w.heap.size w (wr.alloc (.cells #[.string p0, .slice ac n1 cc, .slice ap n2 cp, .slice ai n3 ci] 35))) := hB.trans (hb2.mono hB.size)
      have hsz := hB.size
      by_cases hk3 : k < 3
      · have hk3' : ¬ (3 : Int) ≤ (k : Int) := by omega
        have hC := hI _ _ (f k) HB2.out (hv.below hb2) (hf.at_ k hlt)
        obtain ⟨c, hc⟩ : ∃ c, Hid (checkF (f k) = c) := ⟨_, rfl⟩
        simp only [hc.out] at hC
        have hbx := box4_start wr (.cells #[.string p0, .slice ac n1 cc, .slice ap n2 cp, .slice ai n3 ci] 35)
        clear hI hv hf h hc1
        go_wp2_with fail
        refine hC.mono ?_
        rintro e w2 ⟨rfl, hb3⟩
        have hbx2 := box4_on hbx hb3
        obtain ⟨hbw2, hs2⟩ := box4_below hbx2
        obtain ⟨z0, z1, z2, z3⟩ := box4 hbx2
        have HB3 : Hid (Below w.heap.size w w2) := HB2.out.trans (hb3.mono HB2.out.size)
        have hO2 := own_belowG hO hbw2
        clear hC hb3 hbx hbx2 HB2 hO x0 x1 x2 x3 z1 z2 z3 hb2
        by_cases hcz : c = 0
        · subst hcz
          obtain ⟨a', k', ea, hsv, -⟩ := sview_of_own hO2
          have hCt := containsStr9 (some ⟨sa, 0, none⟩) k sc (fun i => (f i).name) p0 w2 (by cases ea; exact hsv) (by omega)
          cases ea
          clear hsv
          by_cases hin : ∃ i, i < k ∧ (f i).name = p0
          · rw [decide_eq_true hin] at hCt
            have HF : Hid (firstF f n = k) := by
              obtain ⟨i, hi, e⟩ := hin
              exact firstF_hit hlt HA.out (badF_twice hi (by rw [e, hp0.out]))
            clear hin hO2
            go_wp2_with fail
            refine hCt.mono ?_
            rintro e w3 ⟨rfl, rfl⟩
            clear hCt
            go_wp2
            go_ret
            exact ⟨by rw [HF.out]; rfl, HB3.out⟩
          · rw [decide_eq_false hin] at hCt
            have HN2 : Hid (∀ i, i < k + 1 → badF f i = false) := fun i hi => by
              by_cases e : i < k
              · exact HA.out i e
              · obtain rfl : i = k := by omega
                exact badF_no hc.out (by omega) (fun j hj e => hin ⟨j, hj, by rw [e, hp0.out]⟩)
            have HN : Hid (rowG (encS (fun i => (f i).name)) (k + 1) = rowG (encS (fun i => (f i).name)) k ++ [.string p0]) := by show _ = _; rw [← hp0.out]; rfl
            obtain ⟨R, hR⟩ : ∃ x, Hid (rowG (encS (fun i => (f i).name)) k = x) := ⟨_, rfl⟩
            rw [hR.out] at HN hO2
            have hb4 : Below w2.heap.size w2 (w2.alloc (.cells #[.string p0] 9)) := (Below.refl _ _).alloc (Nat.le_refl _) _
            have HB4 : Hid (Below w.heap.size w (w2.alloc (.cells #[.string p0] 9))) := HB3.out.trans (hb4.mono HB3.out.size)
            have hO3 := own_belowG hO2 hb4
            have hcl : ∀ j u, [Value.string p0][j]? = some u → (w2.alloc (.cells #[.string p0] 9)).cell? ((⟨w2.heap.size, 0, none⟩ : Addr).add j) = some u := by
              intro j u hj
              match j, hj with
              | 0, hj => simp at hj; subst hj; simp [Addr.add]
            have HOW := own_ge9 hO2
            have hsz2 := HB3.out.size
            clear hin hO2 hb4
            go_wp2_with fail
            refine hCt.mono ?_
            rintro e w3 ⟨rfl, rfl⟩
            clear hCt
            go_wp2_with (at_builtin; refine wpList_append_own _ rfl (.tmp 28) (.tmp 31) 61 rfl w.heap.size 9 i0 (.string ⟨#[]⟩) 1 16 Tryz.underlying61 hi hz0 hz1 hz2 rfl (by decide) _ _ _ rfl hO3 ⟨w3.heap.size, 0, none⟩ 1 1 [.string p0] rfl rfl hcl (by intro u hu; simp at hu; subst hu; rfl) (by unfold maxLen; omega) (by omega) (by simp; omega) ?_)
            intro v5 w4 hown5 hgr hnil
            obtain ⟨g', cap', rfl⟩ := own_succ9 hown5
            have HR : Hid (w4.ownsRow w.heap.size 9 1 (.slice (some ⟨g', 0, none⟩) (k + 1) cap') (k + 1) (rowG (encS (fun i => (f i).name)) (k + 1)) ∧ Below w.heap.size w w4) := by
              refine ⟨?_, ?_⟩
              · rw [HN.out]; exact hown5
              · exact HB4.out.grown hgr (by simp; omega) HOW
            clear hown5 hgr hnil hO3 hcl HOW
            go_wp2
            go_roundg (n - (k + 1))
            case measure => omega
            case rel => exact ⟨k + 1, by omega, rfl, by go_num, ⟨_, _, rfl⟩, HR.out.1, HR.out.2, HN2⟩
        · have hcz' : (c != 0) = true := by simpa using hcz
          clear hO2
          go_wp2
          go_ret
          exact ⟨by rw [firstF_hit hlt HA.out (badF_check (by rw [hc.out]; exact hcz))]; rfl, HB3.out⟩
      · have hk3' : (3 : Int) ≤ (k : Int) := by omega
        clear hI hv hf h hc1 hO
        go_wp2
        go_ret
        exact ⟨by rw [firstF_hit hlt HA.out (badF_late (by omega))]; rfl, HB2.out⟩
    · have hkz : ¬ (k : Int) < (n : Int) := by omega
      clear h hf hI hO
      go_wp2
      go_ret
      exact ⟨by rw [firstF_no (fun i hi => HA.out i (by omega))]; rfl, hB⟩
end Go.Proofs.YtmibpdnlphdoaaaGreatDoor

/-
  The program's TokenOk: what Lex makes of the token's own text, alone.
-/
namespace Go.Proofs.YtmibpdnlphdoaaaGreatDoor
open Go.RowKit
set_option maxRecDepth 4000

theorem eqTok_run (k : Int) (s : ByteArray) (k' : Int) (s' : ByteArray) (W : World) :
    (binOp .eql 41 (.agg #[.int .i64 k, .string s]) (.agg #[.int .i64 k', .string s'])).run Tryz.prog W = .ok (.bool (eqT k s k' s')) W := by
  by_cases h1 : k = k' <;> by_cases h3 : s = s' <;> simp [go_sem, h1, h3, eqT, bytes_inj]

set_option maxHeartbeats 2000000 in
theorem implTokenOk_any (k : Int) (s : ByteArray) (w : World) (hs : s.size ≤ 281474976710656) :
    Calls Tryz.prog 141 #[.agg #[.int .i64 k, .string s]] w fun e w' => e = .returned (.bool (tokOk k s)) ∧ Below w.heap.size w w' := by
  have hL := fun W => implLex_any s W hs
  have HA : Hid ((lexF s 0 []).1.length = 1 → tokOk k s = eqT (tk (lexF s 0 []).1 0) (ts (lexF s 0 []).1 0) k s) := tok_self
  have HN : Hid ((lexF s 0 []).1.length ≠ 1 → tokOk k s = false) := tok_none
  obtain ⟨r, hr⟩ : ∃ r, Hid (lexF s 0 [] = r) := ⟨_, rfl⟩
  rw [hr.out] at HA HN
  simp only [hr.out] at hL
  go_enter Tryz.func141, Tryz.ntmps141
  go_wp2_with fail
  refine (hL _).mono ?_
  rintro e w1 ⟨v, rfl, hne, hown, hB⟩
  rw [rowL_K] at hown
  obtain ⟨a, c, rfl, hv, -⟩ := tview_of_own hown
  have hC := hB.mono (show w.heap.size + 1 ≤ _ by simp)
  have c0 : w1.cell? ⟨w.heap.size, 0, none⟩ = some (.int .i64 k) := by rw [hC.cell (by simp)]; simp [go_sem]
  have c1 : w1.cell? ⟨w.heap.size, 1, none⟩ = some (.string s) := by rw [hC.cell (by simp)]; simp [go_sem]
  have HB : Hid (Below w.heap.size w w1) := ((Below.refl _ _).alloc (Nat.le_refl _) _).trans (hB.mono (by simp))
  clear hL hown hB hC hne
  by_cases h1 : r.1.length = 1
  · have HE0 := HA.out h1
    have hd : ((r.1.length : Int) == 1) = true := by simp; omega
    obtain ⟨b, off, rfl, hb, hcs⟩ := hv.cells (by omega)
    obtain ⟨x0, x1⟩ := hcs 0 (by omega)
    simp only [Nat.zero_mul, Nat.add_zero] at x0 x1
    rw [h1]
    have hq := eqTok_run (tk r.1 0) (ts r.1 0) k s
    clear HA HN hv hcs h1 hd
    generalize tk r.1 0 = p0 at *
    generalize ts r.1 0 = p1 at *
    have HE : Hid (tokOk k s = eqT p0 p1 k s) := HE0
    clear HE0
    go_wp2_with fail
    go_quiet (fail)
    go_wp2
    go_ret
    exact ⟨by rw [HE.out]; rfl, HB.out.trans ⟨rfl, rfl, rfl, Nat.le_refl _, fun _ _ => rfl⟩⟩
  · have HE : Hid (tokOk k s = false) := HN.out h1
    have hd : ((r.1.length : Int) == 1) = false := by simp; omega
    clear HA HN hv
    go_wp2_with fail
    go_quiet (fail)
    go_wp2
    go_ret
    exact ⟨by rw [HE.out]; rfl, HB.out.trans ⟨rfl, rfl, rfl, Nat.le_refl _, fun _ _ => rfl⟩⟩
end Go.Proofs.YtmibpdnlphdoaaaGreatDoor

/-
  slices.Grow of no texts, for n of them: a row of the call's own with room.
-/
namespace Go.Proofs.YtmibpdnlphdoaaaGreatDoor
open Go.RowKit
set_option maxRecDepth 4000

set_option maxHeartbeats 2000000 in
theorem growStr_any (n : Nat) (w : World) (h0 : 0 < n) (hn : n ≤ 4194304) :
    Calls Tryz.prog 139 #[.slice none 0 0, .int .i64 n] w fun e w' => ∃ g c, e = .returned (.slice (some ⟨g, 0, none⟩) 0 c) ∧ w'.ownsRow w.heap.size 9 1 (.slice (some ⟨g, 0, none⟩) 0 c) 0 [] ∧ Below w.heap.size w w' := by
  obtain ⟨i0, hi, hz0, hz1, hz2⟩ := infoStr
  have h1 : ¬ ((n : Int) < 0) := by omega
  have h2 : wrap64 ((0 : Int) - (0 : Int)) = 0 := by unfold wrap64; omega
  have h3 : wrap64 ((n : Int) - 0) = (n : Int) := by unfold wrap64; omega
  have h4 : (n : Int) > 0 := by omega
  have hrz := fun ty => Lib.run_append_nil_zeros (P := Tryz.prog) w 61 3 ty 9 i0 (.string ⟨#[]⟩) .i64 .i64 Tryz.underlying61 Tryz.underlying3 hi hz0 n h0 (by omega) (by omega) (by rw [hz2]; omega)
  have hG1 : n ≤ grownCap w n 0 9 := grownCap_ge w _ _ _
  have hG2 : grownCap w n 0 9 ≤ maxLen := grownCap_le_maxLen w n 0 9 (by unfold maxLen; omega)
  obtain ⟨G, hG⟩ : ∃ G, G = grownCap w n 0 9 := ⟨_, rfl⟩
  rw [← hG] at hG1 hG2
  simp only [← hG] at hrz
  have hzc : (Value.string ⟨#[]⟩).cells.size = 1 := rfl
  have HS : Hid ((Builtin.zeroCells (Value.string ⟨#[]⟩).cells n ++ Builtin.zeroCells (Value.string ⟨#[]⟩).cells (G - n)).size = G) := by
    show _ = _
    simp [Builtin.zeroCells, Value.cells]
    omega
  obtain ⟨cs, hcs⟩ : ∃ cs, Hid (Builtin.zeroCells (Value.string ⟨#[]⟩).cells n ++ Builtin.zeroCells (Value.string ⟨#[]⟩).cells (G - n) = cs) := ⟨_, rfl⟩
  rw [hcs.out] at HS
  simp only [hcs.out] at hrz
  have HB : Hid (Below w.heap.size w (w.drew.alloc (.cells cs 9))) := ((Below.refl _ _).drew).alloc (by simp) _
  have HO : Hid ((w.drew.alloc (.cells cs 9)).ownsRow w.heap.size 9 1 (.slice (some ⟨w.heap.size, 0, none⟩) 0 G) 0 []) := by
    refine ⟨rfl, .inr ⟨w.heap.size, G, cs, rfl, Nat.le_refl _, ?_, Nat.zero_le _, hG2, by rw [HS.out]; omega, by simp⟩⟩
    exact heap_alloc_new w.drew (.cells cs 9)
  have hGz : (0 : Int) ≤ (G : Int) := by omega
  unfold maxLen at hG2
  clear hcs hz0 hz1 hz2 hi hG hzc
  go_enter Tryz.func139, Tryz.ntmps139
  go_wp2_with (at_builtin; refine Lib.wpList_append_run _ rfl _ _ _ _ rfl _ _ rfl rfl _ _ (hrz _) ?_)
  go_ret
  exact ⟨_, _, rfl, HO.out, HB.out⟩
end Go.Proofs.YtmibpdnlphdoaaaGreatDoor

/-
  slices.Concat of three rows of texts: a row of the call's own, one behind the other.
-/
namespace Go.Proofs.YtmibpdnlphdoaaaGreatDoor
open Go.RowKit
set_option maxRecDepth 4000

theorem rowS_len (f : Nat → ByteArray) (n : Nat) : (rowG (encS f) n).length = n := by
  rw [rowG_len (c := 1) (fun _ => rfl)]; omega
theorem rowS_get {f : Nat → ByteArray} {n j : Nat} {u : Value} (h : (rowG (encS f) n)[j]? = some u) : j < n ∧ u = .string (f j) := by
  have hj : j < n := by
    have := (List.getElem?_eq_some_iff.1 h).1
    rwa [rowS_len] at this
  have h1 := rowG_get (enc := encS f) (c := 1) (fun _ => rfl) n j 0 hj (by decide)
  rw [Nat.mul_one, Nat.add_zero, h] at h1
  exact ⟨hj, (Option.some.inj h1)⟩
theorem rowS_one {f : Nat → ByteArray} {n : Nat} : ∀ u ∈ rowG (encS f) n, u.oneCell' = true := by
  intro u hu
  obtain ⟨j, hj⟩ := List.mem_iff_getElem?.1 hu
  obtain ⟨_, rfl⟩ := rowS_get hj
  rfl
/-- What is appended, where it lies. -/
theorem sview_cells {W : World} {g n c : Nat} {f : Nat → ByteArray} (h : SView W (some ⟨g, 0, none⟩) n c f) : ∀ j u, (rowG (encS f) n)[j]? = some u → W.cell? ((⟨g, 0, none⟩ : Addr).add j) = some u := by
  intro j u hj
  obtain ⟨hlt, rfl⟩ := rowS_get hj
  obtain ⟨b, off, e, _, hc⟩ := h.cells (by omega)
  cases e
  have := hc j hlt
  have e : (⟨g, 0, none⟩ : Addr).add j = ⟨g, 0 + j, none⟩ := by unfold Addr.add; split <;> simp_all
  rw [e]; exact this
theorem sview_of_row {W : World} {base g n c : Nat} {f : Nat → ByteArray} (h : W.ownsRow base 9 1 (.slice (some ⟨g, 0, none⟩) n c) n (rowG (encS f) n)) : SView W (some ⟨g, 0, none⟩) n c f := by
  obtain ⟨a, k, e, hv, _⟩ := sview_of_own h
  cases e
  exact hv

/-- Two rows, one behind the other. -/
def catF (f0 : Nat → ByteArray) (n0 : Nat) (f1 : Nat → ByteArray) (i : Nat) : ByteArray := if i < n0 then f0 i else f1 (i - n0)
theorem rowS_cat (f0 : Nat → ByteArray) (n0 : Nat) (f1 : Nat → ByteArray) : ∀ n1, rowG (encS f0) n0 ++ rowG (encS f1) n1 = rowG (encS (catF f0 n0 f1)) (n0 + n1)
  | 0 => by
    rw [rowG, List.append_nil]
    exact rowG_congr (fun i hi => by simp [encS, catF, hi])
  | n1 + 1 => by
    rw [rowG, ← List.append_assoc, rowS_cat f0 n0 f1 n1]
    show _ = rowG (encS (catF f0 n0 f1)) (n0 + n1) ++ encS (catF f0 n0 f1) (n0 + n1)
    simp [encS, catF, show ¬ n0 + n1 < n0 by omega]
/-- A row that was put behind a row of the call's own. -/
theorem grown9 {w W W' : World} {T c n m g k : Nat} {v : Value} {xs ys : List Value} (hb : Below w.heap.size w W) (hO : W.ownsRow w.heap.size T c (.slice (some ⟨g, 0, none⟩) n k) n xs) (hO2 : W'.ownsRow w.heap.size T c v m ys) (hgr : W.grownBy W' (Value.slice (some ⟨g, 0, none⟩) n k).ownBlock)
    (hnil : ¬ v = .slice none 0 0) : (∃ g' k', v = .slice (some ⟨g', 0, none⟩) m k') ∧ Below w.heap.size w W' := by
  refine ⟨?_, hb.grown hgr hb.size (own_ge9 hO)⟩
  rcases hO2.2 with ⟨e, _⟩ | ⟨g', k', _, e, _⟩
  · exact absurd e hnil
  · exact ⟨g', k', e⟩

set_option maxHeartbeats 4000000 in
theorem concat3_any (B g0 n0 c0 g1 n1 c1 g2 n2 c2 : Nat) (f0 f1 f2 : Nat → ByteArray) (w : World)
    (x0 : w.cell? ⟨B, 0, none⟩ = some (.slice (some ⟨g0, 0, none⟩) n0 c0)) (x1 : w.cell? ⟨B, 1, none⟩ = some (.slice (some ⟨g1, 0, none⟩) n1 c1)) (x2 : w.cell? ⟨B, 2, none⟩ = some (.slice (some ⟨g2, 0, none⟩) n2 c2)) (hB : B < w.heap.size)
    (v0 : SView w (some ⟨g0, 0, none⟩) n0 c0 f0) (v1 : SView w (some ⟨g1, 0, none⟩) n1 c1 f1) (v2 : SView w (some ⟨g2, 0, none⟩) n2 c2 f2) (h0 : 0 < n0) (l0 : n0 ≤ 1048576) (l1 : n1 ≤ 1048576) (l2 : n2 ≤ 1048576) :
    Calls Tryz.prog 105 #[.slice (some ⟨B, 0, none⟩) 3 3] w fun e w' => ∃ g c, e = .returned (.slice (some ⟨g, 0, none⟩) (n0 + n1 + n2) c) ∧ w'.ownsRow w.heap.size 9 1 (.slice (some ⟨g, 0, none⟩) (n0 + n1 + n2) c) (n0 + n1 + n2) (rowG (encS f0) n0 ++ rowG (encS f1) n1 ++ rowG (encS f2) n2) ∧ Below w.heap.size w w' := by
  obtain ⟨i0, hi, hz0, hz1, hz2⟩ := infoStr
  have hG := growStr_any (n0 + n1 + n2) w (by omega) (by omega)
  have e1 : ((n0 + n1 + n2 : Nat) : Int) = (n0 : Int) + n1 + n2 := by omega
  rw [e1] at hG
  have k1 : ¬ ((0 : Int) + n0 < 0) := by omega
  have k2 : ¬ ((n0 : Int) + n1 < 0) := by omega
  have k3 : ¬ ((n0 : Int) + n1 + n2 < 0) := by omega
  go_enter Tryz.func105, Tryz.ntmps105
  go_wp2
  refine wp_loop_rounds 4 ?_
  rw [rounds_succ]
  go_wp2
  rw [rounds_succ]
  go_wp2
  rw [rounds_succ]
  go_wp2
  rw [rounds_succ]
  go_wp2_with fail
  refine hG.mono ?_
  rintro e w1 ⟨g, c, rfl, hO1, hb1⟩
  have s1 := hb1.size
  rw [← hb1.cell (p := ⟨B, 0, none⟩) hB] at x0
  rw [← hb1.cell (p := ⟨B, 1, none⟩) hB] at x1
  rw [← hb1.cell (p := ⟨B, 2, none⟩) hB] at x2
  have HX : Hid (w1.cell? ⟨B, 1, none⟩ = some (.slice (some ⟨g1, 0, none⟩) n1 c1) ∧ w1.cell? ⟨B, 2, none⟩ = some (.slice (some ⟨g2, 0, none⟩) n2 c2)) := ⟨x1, x2⟩
  have hV0 := sview_cells (v0.below hb1)
  clear hG k1 k2 k3 x1 x2
  go_wp2
  refine wp_loop_rounds 4 ?_
  rw [rounds_succ]
  go_wp2_with (at_builtin; refine wpList_append_own _ rfl (.tmp 31) (.tmp 32) 61 rfl w.heap.size 9 i0 (.string ⟨#[]⟩) 1 16 Tryz.underlying61 hi hz0 hz1 hz2 rfl (by decide) _ _ _ rfl hO1 ⟨g0, 0, none⟩ n0 c0 (rowG (encS f0) n0) rfl (by rw [rowS_len]; omega) hV0 rowS_one (by unfold maxLen; omega) (by omega) (by omega) ?_)
  intro u2 w2 hO2 hgr2 hnil2
  obtain ⟨⟨g2', k2', rfl⟩, hb2⟩ := grown9 hb1 hO1 hO2 hgr2 hnil2
  have s2 := hb2.size
  have x1 : w2.cell? ⟨B, 1, none⟩ = some (.slice (some ⟨g1, 0, none⟩) n1 c1) := by rw [hb2.cell (p := ⟨B, 1, none⟩) hB, ← hb1.cell (p := ⟨B, 1, none⟩) hB]; exact HX.out.1
  have hV1 := sview_cells (v1.below hb2)
  have HX2 : Hid (w.cell? ⟨B, 2, none⟩ = some (.slice (some ⟨g2, 0, none⟩) n2 c2)) := by
    have := HX.out.2
    rw [hb1.cell (p := ⟨B, 2, none⟩) hB] at this
    exact this
  clear hV0 hO1 hgr2 hnil2 x0 HX hb1 s1 v0 v1
  go_wp2
  rw [rounds_succ]
  go_wp2_with (at_builtin; refine wpList_append_own _ rfl (.tmp 31) (.tmp 32) 61 rfl w.heap.size 9 i0 (.string ⟨#[]⟩) 1 16 Tryz.underlying61 hi hz0 hz1 hz2 rfl (by decide) _ _ _ rfl hO2 ⟨g1, 0, none⟩ n1 c1 (rowG (encS f1) n1) rfl (by rw [rowS_len]; omega) hV1 rowS_one (by unfold maxLen; omega) (by omega) (by omega) ?_)
  intro u3 w3 hO3 hgr3 hnil3
  obtain ⟨⟨g3', k3', rfl⟩, hb3⟩ := grown9 hb2 hO2 hO3 hgr3 hnil3
  have s3 := hb3.size
  have x2 : w3.cell? ⟨B, 2, none⟩ = some (.slice (some ⟨g2, 0, none⟩) n2 c2) := by rw [hb3.cell (p := ⟨B, 2, none⟩) hB]; exact HX2.out
  have hV2 := sview_cells (v2.below hb3)
  clear hV1 hO2 hgr3 hnil3 x1 HX2 hb2 s2 v2
  go_wp2
  rw [rounds_succ]
  go_wp2_with (at_builtin; refine wpList_append_own _ rfl (.tmp 31) (.tmp 32) 61 rfl w.heap.size 9 i0 (.string ⟨#[]⟩) 1 16 Tryz.underlying61 hi hz0 hz1 hz2 rfl (by decide) _ _ _ rfl hO3 ⟨g2, 0, none⟩ n2 c2 (rowG (encS f2) n2) rfl (by rw [rowS_len]; omega) hV2 rowS_one (by unfold maxLen; omega) (by omega) (by omega) ?_)
  intro u4 w4 hO4 hgr4 hnil4
  obtain ⟨⟨g4', k4', rfl⟩, hb4⟩ := grown9 hb3 hO3 hO4 hgr4 hnil4
  have HR : Hid (w4.ownsRow w.heap.size 9 1 (.slice (some ⟨g4', 0, none⟩) (n0 + n1 + n2) k4') (n0 + n1 + n2) (rowG (encS f0) n0 ++ rowG (encS f1) n1 ++ rowG (encS f2) n2) ∧ Below w.heap.size w w4) := ⟨by rw [List.append_assoc]; exact hO4, hb4⟩
  clear hV2 hO3 hO4 hgr4 hnil4 x2 hb3 hb4 s3
  go_wp2
  rw [rounds_succ]
  go_wp2
  go_ret
  exact ⟨_, _, rfl, HR.out.1, HR.out.2⟩
end Go.Proofs.YtmibpdnlphdoaaaGreatDoor

