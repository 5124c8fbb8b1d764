/-
  Together: TokOkImpl, GrowStr, ConcatImpl, WordImpl, StrIter, TwicePlain
-/
import Derived.Test.YtjoimkfpenbkmabGreatDoorPackK2
import Derived.Test.YtjoimkfpenbkmabGreatDoorPackK9
import Derived.Test.YtjoimkfpenbkmabGreatDoorPackK8
import Derived.BigQuiet
import Derived.Deep.QuietTactic
import Derived.Test.YtjoimkfpenbkmabGreatDoorPackK6
import Derived.Lib.AppendZeros
import Derived.Test.YtjoimkfpenbkmabGreatDoorPackK7
import Derived.Test.YtjoimkfpenbkmabGreatDoorPackK21
import Derived.Test.YtjoimkfpenbkmabGreatDoorPackK25
import Derived.Test.YtjoimkfpenbkmabGreatDoorPackK1
import Derived.Lib.SlicesCompact
/-
  The program's TokenOk: what Lex makes of the token's own text, alone.
-/
namespace Go.Proofs.YtjoimkfpenbkmabGreatDoor
open Go.RowKit
set_option maxRecDepth 4000

theorem eqTok_run (k : Int) (s : ByteArray) (k' : Int) (s' : ByteArray) (W : World) :
    (binOp .eql 214 (.agg #[.int .i64 k, .string s]) (.agg #[.int .i64 k', .string s'])).run Tryz.prog W = .ok (.bool (eqT k s k' s')) W := by
  by_cases h1 : k = k' <;> by_cases h3 : s = s' <;> simp [go_sem, h1, h3, eqT, bytes_inj]

set_option maxHeartbeats 2000000 in
theorem implTokenOk_any (k : Int) (s : ByteArray) (w : World) (hs : s.size ≤ 281474976710656) :
    Calls Tryz.prog 167 #[.agg #[.int .i64 k, .string s]] w fun e w' => e = .returned (.bool (tokOk k s)) ∧ Below w.heap.size w w' := by
  have hL := fun W => implLex_any s W hs
  have HA : Hid ((lexF s 0 []).1.length = 1 → tokOk k s = eqT (tk (lexF s 0 []).1 0) (ts (lexF s 0 []).1 0) k s) := tok_self
  have HN : Hid ((lexF s 0 []).1.length ≠ 1 → tokOk k s = false) := tok_none
  obtain ⟨r, hr⟩ : ∃ r, Hid (lexF s 0 [] = r) := ⟨_, rfl⟩
  rw [hr.out] at HA HN
  simp only [hr.out] at hL
  go_enter Tryz.func167, Tryz.ntmps167
  go_wp2_with fail
  refine (hL _).mono ?_
  rintro e w1 ⟨v, rfl, hne, hown, hB⟩
  rw [rowL_K] at hown
  obtain ⟨a, c, rfl, hv, -⟩ := tview_of_own hown
  have hC := hB.mono (show w.heap.size + 1 ≤ _ by simp)
  have c0 : w1.cell? ⟨w.heap.size, 0, none⟩ = some (.int .i64 k) := by rw [hC.cell (by simp)]; simp [go_sem]
  have c1 : w1.cell? ⟨w.heap.size, 1, none⟩ = some (.string s) := by rw [hC.cell (by simp)]; simp [go_sem]
  have HB : Hid (Below w.heap.size w w1) := ((Below.refl _ _).alloc (Nat.le_refl _) _).trans (hB.mono (by simp))
  clear hL hown hB hC hne
  by_cases h1 : r.1.length = 1
  · have HE0 := HA.out h1
    have hd : ((r.1.length : Int) == 1) = true := by simp; omega
    obtain ⟨b, off, rfl, hb, hcs⟩ := hv.cells (by omega)
    obtain ⟨x0, x1⟩ := hcs 0 (by omega)
    simp only [Nat.zero_mul, Nat.add_zero] at x0 x1
    rw [h1]
    have hq := eqTok_run (tk r.1 0) (ts r.1 0) k s
    clear HA HN hv hcs h1 hd
    generalize tk r.1 0 = p0 at *
    generalize ts r.1 0 = p1 at *
    have HE : Hid (tokOk k s = eqT p0 p1 k s) := HE0
    clear HE0
    go_wp2_with fail
    go_quiet (fail)
    go_wp2
    go_ret
    exact ⟨by rw [HE.out]; rfl, HB.out.trans ⟨rfl, rfl, rfl, Nat.le_refl _, fun _ _ => rfl⟩⟩
  · have HE : Hid (tokOk k s = false) := HN.out h1
    have hd : ((r.1.length : Int) == 1) = false := by simp; omega
    clear HA HN hv
    go_wp2_with fail
    go_quiet (fail)
    go_wp2
    go_ret
    exact ⟨by rw [HE.out]; rfl, HB.out.trans ⟨rfl, rfl, rfl, Nat.le_refl _, fun _ _ => rfl⟩⟩
end Go.Proofs.YtjoimkfpenbkmabGreatDoor

/-
  slices.Grow of no texts, for n of them: a row of the call's own with room.
-/
namespace Go.Proofs.YtjoimkfpenbkmabGreatDoor
open Go.RowKit
set_option maxRecDepth 4000

set_option maxHeartbeats 2000000 in
theorem growStr_any (n : Nat) (w : World) (h0 : 0 < n) (hn : n ≤ 4194304) :
    Calls Tryz.prog 165 #[.slice none 0 0, .int .i64 n] w fun e w' => ∃ g c, e = .returned (.slice (some ⟨g, 0, none⟩) 0 c) ∧ w'.ownsRow w.heap.size 9 1 (.slice (some ⟨g, 0, none⟩) 0 c) 0 [] ∧ Below w.heap.size w w' := by
  obtain ⟨i0, hi, hz0, hz1, hz2⟩ := infoStr
  have h1 : ¬ ((n : Int) < 0) := by omega
  have h2 : wrap64 ((0 : Int) - (0 : Int)) = 0 := by unfold wrap64; omega
  have h3 : wrap64 ((n : Int) - 0) = (n : Int) := by unfold wrap64; omega
  have h4 : (n : Int) > 0 := by omega
  have hrz := fun ty => Lib.run_append_nil_zeros (P := Tryz.prog) w 123 3 ty 9 i0 (.string ⟨#[]⟩) .i64 .i64 Tryz.underlying123 Tryz.underlying3 hi hz0 n h0 (by omega) (by omega) (by rw [hz2]; omega)
  have hG1 : n ≤ grownCap w n 0 9 := grownCap_ge w _ _ _
  have hG2 : grownCap w n 0 9 ≤ maxLen := grownCap_le_maxLen w n 0 9 (by unfold maxLen; omega)
  obtain ⟨G, hG⟩ : ∃ G, G = grownCap w n 0 9 := ⟨_, rfl⟩
  rw [← hG] at hG1 hG2
  simp only [← hG] at hrz
  have hzc : (Value.string ⟨#[]⟩).cells.size = 1 := rfl
  have HS : Hid ((Builtin.zeroCells (Value.string ⟨#[]⟩).cells n ++ Builtin.zeroCells (Value.string ⟨#[]⟩).cells (G - n)).size = G) := by
    show _ = _
    simp [Builtin.zeroCells, Value.cells]
    omega
  obtain ⟨cs, hcs⟩ : ∃ cs, Hid (Builtin.zeroCells (Value.string ⟨#[]⟩).cells n ++ Builtin.zeroCells (Value.string ⟨#[]⟩).cells (G - n) = cs) := ⟨_, rfl⟩
  rw [hcs.out] at HS
  simp only [hcs.out] at hrz
  have HB : Hid (Below w.heap.size w (w.drew.alloc (.cells cs 9))) := ((Below.refl _ _).drew).alloc (by simp) _
  have HO : Hid ((w.drew.alloc (.cells cs 9)).ownsRow w.heap.size 9 1 (.slice (some ⟨w.heap.size, 0, none⟩) 0 G) 0 []) := by
    refine ⟨rfl, .inr ⟨w.heap.size, G, cs, rfl, Nat.le_refl _, ?_, Nat.zero_le _, hG2, by rw [HS.out]; omega, by simp⟩⟩
    exact heap_alloc_new w.drew (.cells cs 9)
  have hGz : (0 : Int) ≤ (G : Int) := by omega
  unfold maxLen at hG2
  clear hcs hz0 hz1 hz2 hi hG hzc
  go_enter Tryz.func165, Tryz.ntmps165
  go_wp2_with (at_builtin; refine Lib.wpList_append_run _ rfl _ _ _ _ rfl _ _ rfl rfl _ _ (hrz _) ?_)
  go_ret
  exact ⟨_, _, rfl, HO.out, HB.out⟩
end Go.Proofs.YtjoimkfpenbkmabGreatDoor

/-
  slices.Concat of three rows of texts: a row of the call's own, one behind the other.
-/
namespace Go.Proofs.YtjoimkfpenbkmabGreatDoor
open Go.RowKit
set_option maxRecDepth 4000

theorem rowS_len (f : Nat → ByteArray) (n : Nat) : (rowG (encS f) n).length = n := by
  rw [rowG_len (c := 1) (fun _ => rfl)]; omega
theorem rowS_get {f : Nat → ByteArray} {n j : Nat} {u : Value} (h : (rowG (encS f) n)[j]? = some u) : j < n ∧ u = .string (f j) := by
  have hj : j < n := by
    have := (List.getElem?_eq_some_iff.1 h).1
    rwa [rowS_len] at this
  have h1 := rowG_get (enc := encS f) (c := 1) (fun _ => rfl) n j 0 hj (by decide)
  rw [Nat.mul_one, Nat.add_zero, h] at h1
  exact ⟨hj, (Option.some.inj h1)⟩
theorem rowS_one {f : Nat → ByteArray} {n : Nat} : ∀ u ∈ rowG (encS f) n, u.oneCell' = true := by
  intro u hu
  obtain ⟨j, hj⟩ := List.mem_iff_getElem?.1 hu
  obtain ⟨_, rfl⟩ := rowS_get hj
  rfl
/-- What is appended, where it lies. -/
theorem sview_cells {W : World} {g n c : Nat} {f : Nat → ByteArray} (h : SView W (some ⟨g, 0, none⟩) n c f) : ∀ j u, (rowG (encS f) n)[j]? = some u → W.cell? ((⟨g, 0, none⟩ : Addr).add j) = some u := by
  intro j u hj
  obtain ⟨hlt, rfl⟩ := rowS_get hj
  obtain ⟨b, off, e, _, hc⟩ := h.cells (by omega)
  cases e
  have := hc j hlt
  have e : (⟨g, 0, none⟩ : Addr).add j = ⟨g, 0 + j, none⟩ := by unfold Addr.add; split <;> simp_all
  rw [e]; exact this
theorem sview_of_row {W : World} {base g n c : Nat} {f : Nat → ByteArray} (h : W.ownsRow base 9 1 (.slice (some ⟨g, 0, none⟩) n c) n (rowG (encS f) n)) : SView W (some ⟨g, 0, none⟩) n c f := by
  obtain ⟨a, k, e, hv, _⟩ := sview_of_own h
  cases e
  exact hv

/-- Two rows, one behind the other. -/
def catF (f0 : Nat → ByteArray) (n0 : Nat) (f1 : Nat → ByteArray) (i : Nat) : ByteArray := if i < n0 then f0 i else f1 (i - n0)
theorem rowS_cat (f0 : Nat → ByteArray) (n0 : Nat) (f1 : Nat → ByteArray) : ∀ n1, rowG (encS f0) n0 ++ rowG (encS f1) n1 = rowG (encS (catF f0 n0 f1)) (n0 + n1)
  | 0 => by
    rw [rowG, List.append_nil]
    exact rowG_congr (fun i hi => by simp [encS, catF, hi])
  | n1 + 1 => by
    rw [rowG, ← List.append_assoc, rowS_cat f0 n0 f1 n1]
    show _ = rowG (encS (catF f0 n0 f1)) (n0 + n1) ++ encS (catF f0 n0 f1) (n0 + n1)
    simp [encS, catF, show ¬ n0 + n1 < n0 by omega]
/-- A row that was put behind a row of the call's own. -/
theorem grown9 {w W W' : World} {T c n m g k : Nat} {v : Value} {xs ys : List Value} (hb : Below w.heap.size w W) (hO : W.ownsRow w.heap.size T c (.slice (some ⟨g, 0, none⟩) n k) n xs) (hO2 : W'.ownsRow w.heap.size T c v m ys) (hgr : W.grownBy W' (Value.slice (some ⟨g, 0, none⟩) n k).ownBlock)
    (hnil : ¬ v = .slice none 0 0) : (∃ g' k', v = .slice (some ⟨g', 0, none⟩) m k') ∧ Below w.heap.size w W' := by
  refine ⟨?_, hb.grown hgr hb.size (own_ge9 hO)⟩
  rcases hO2.2 with ⟨e, _⟩ | ⟨g', k', _, e, _⟩
  · exact absurd e hnil
  · exact ⟨g', k', e⟩

set_option maxHeartbeats 4000000 in
theorem concat3_any (B g0 n0 c0 g1 n1 c1 g2 n2 c2 : Nat) (f0 f1 f2 : Nat → ByteArray) (w : World)
    (x0 : w.cell? ⟨B, 0, none⟩ = some (.slice (some ⟨g0, 0, none⟩) n0 c0)) (x1 : w.cell? ⟨B, 1, none⟩ = some (.slice (some ⟨g1, 0, none⟩) n1 c1)) (x2 : w.cell? ⟨B, 2, none⟩ = some (.slice (some ⟨g2, 0, none⟩) n2 c2)) (hB : B < w.heap.size)
    (v0 : SView w (some ⟨g0, 0, none⟩) n0 c0 f0) (v1 : SView w (some ⟨g1, 0, none⟩) n1 c1 f1) (v2 : SView w (some ⟨g2, 0, none⟩) n2 c2 f2) (h0 : 0 < n0) (l0 : n0 ≤ 1048576) (l1 : n1 ≤ 1048576) (l2 : n2 ≤ 1048576) :
    Calls Tryz.prog 137 #[.slice (some ⟨B, 0, none⟩) 3 3] w fun e w' => ∃ g c, e = .returned (.slice (some ⟨g, 0, none⟩) (n0 + n1 + n2) c) ∧ w'.ownsRow w.heap.size 9 1 (.slice (some ⟨g, 0, none⟩) (n0 + n1 + n2) c) (n0 + n1 + n2) (rowG (encS f0) n0 ++ rowG (encS f1) n1 ++ rowG (encS f2) n2) ∧ Below w.heap.size w w' := by
  obtain ⟨i0, hi, hz0, hz1, hz2⟩ := infoStr
  have hG := growStr_any (n0 + n1 + n2) w (by omega) (by omega)
  have e1 : ((n0 + n1 + n2 : Nat) : Int) = (n0 : Int) + n1 + n2 := by omega
  rw [e1] at hG
  have k1 : ¬ ((0 : Int) + n0 < 0) := by omega
  have k2 : ¬ ((n0 : Int) + n1 < 0) := by omega
  have k3 : ¬ ((n0 : Int) + n1 + n2 < 0) := by omega
  go_enter Tryz.func137, Tryz.ntmps137
  go_wp2
  refine wp_loop_rounds 4 ?_
  rw [rounds_succ]
  go_wp2
  rw [rounds_succ]
  go_wp2
  rw [rounds_succ]
  go_wp2
  rw [rounds_succ]
  go_wp2_with fail
  refine hG.mono ?_
  rintro e w1 ⟨g, c, rfl, hO1, hb1⟩
  have s1 := hb1.size
  rw [← hb1.cell (p := ⟨B, 0, none⟩) hB] at x0
  rw [← hb1.cell (p := ⟨B, 1, none⟩) hB] at x1
  rw [← hb1.cell (p := ⟨B, 2, none⟩) hB] at x2
  have HX : Hid (w1.cell? ⟨B, 1, none⟩ = some (.slice (some ⟨g1, 0, none⟩) n1 c1) ∧ w1.cell? ⟨B, 2, none⟩ = some (.slice (some ⟨g2, 0, none⟩) n2 c2)) := ⟨x1, x2⟩
  have hV0 := sview_cells (v0.below hb1)
  clear hG k1 k2 k3 x1 x2
  go_wp2
  refine wp_loop_rounds 4 ?_
  rw [rounds_succ]
  go_wp2_with (at_builtin; refine wpList_append_own _ rfl (.tmp 31) (.tmp 32) 123 rfl w.heap.size 9 i0 (.string ⟨#[]⟩) 1 16 Tryz.underlying123 hi hz0 hz1 hz2 rfl (by decide) _ _ _ rfl hO1 ⟨g0, 0, none⟩ n0 c0 (rowG (encS f0) n0) rfl (by rw [rowS_len]; omega) hV0 rowS_one (by unfold maxLen; omega) (by omega) (by omega) ?_)
  intro u2 w2 hO2 hgr2 hnil2
  obtain ⟨⟨g2', k2', rfl⟩, hb2⟩ := grown9 hb1 hO1 hO2 hgr2 hnil2
  have s2 := hb2.size
  have x1 : w2.cell? ⟨B, 1, none⟩ = some (.slice (some ⟨g1, 0, none⟩) n1 c1) := by rw [hb2.cell (p := ⟨B, 1, none⟩) hB, ← hb1.cell (p := ⟨B, 1, none⟩) hB]; exact HX.out.1
  have hV1 := sview_cells (v1.below hb2)
  have HX2 : Hid (w.cell? ⟨B, 2, none⟩ = some (.slice (some ⟨g2, 0, none⟩) n2 c2)) := by
    have := HX.out.2
    rw [hb1.cell (p := ⟨B, 2, none⟩) hB] at this
    exact this
  clear hV0 hO1 hgr2 hnil2 x0 HX hb1 s1 v0 v1
  go_wp2
  rw [rounds_succ]
  go_wp2_with (at_builtin; refine wpList_append_own _ rfl (.tmp 31) (.tmp 32) 123 rfl w.heap.size 9 i0 (.string ⟨#[]⟩) 1 16 Tryz.underlying123 hi hz0 hz1 hz2 rfl (by decide) _ _ _ rfl hO2 ⟨g1, 0, none⟩ n1 c1 (rowG (encS f1) n1) rfl (by rw [rowS_len]; omega) hV1 rowS_one (by unfold maxLen; omega) (by omega) (by omega) ?_)
  intro u3 w3 hO3 hgr3 hnil3
  obtain ⟨⟨g3', k3', rfl⟩, hb3⟩ := grown9 hb2 hO2 hO3 hgr3 hnil3
  have s3 := hb3.size
  have x2 : w3.cell? ⟨B, 2, none⟩ = some (.slice (some ⟨g2, 0, none⟩) n2 c2) := by rw [hb3.cell (p := ⟨B, 2, none⟩) hB]; exact HX2.out
  have hV2 := sview_cells (v2.below hb3)
  clear hV1 hO2 hgr3 hnil3 x1 HX2 hb2 s2 v2
  go_wp2
  rw [rounds_succ]
  go_wp2_with (at_builtin; refine wpList_append_own _ rfl (.tmp 31) (.tmp 32) 123 rfl w.heap.size 9 i0 (.string ⟨#[]⟩) 1 16 Tryz.underlying123 hi hz0 hz1 hz2 rfl (by decide) _ _ _ rfl hO3 ⟨g2, 0, none⟩ n2 c2 (rowG (encS f2) n2) rfl (by rw [rowS_len]; omega) hV2 rowS_one (by unfold maxLen; omega) (by omega) (by omega) ?_)
  intro u4 w4 hO4 hgr4 hnil4
  obtain ⟨⟨g4', k4', rfl⟩, hb4⟩ := grown9 hb3 hO3 hO4 hgr4 hnil4
  have HR : Hid (w4.ownsRow w.heap.size 9 1 (.slice (some ⟨g4', 0, none⟩) (n0 + n1 + n2) k4') (n0 + n1 + n2) (rowG (encS f0) n0 ++ rowG (encS f1) n1 ++ rowG (encS f2) n2) ∧ Below w.heap.size w w4) := ⟨by rw [List.append_assoc]; exact hO4, hb4⟩
  clear hV2 hO3 hO4 hgr4 hnil4 x2 hb3 hb4 s3
  go_wp2
  rw [rounds_succ]
  go_wp2
  go_ret
  exact ⟨_, _, rfl, HR.out.1, HR.out.2⟩
end Go.Proofs.YtjoimkfpenbkmabGreatDoor

/-
  The program's isWord, isNoName, isOfNoType, and whether one of a row is so.
-/
namespace Go.Proofs.YtjoimkfpenbkmabGreatDoor
open Go.RowKit
set_option maxRecDepth 4000

theorem isKw_split (s : ByteArray) : isKw s = ((s.toList == [116, 97, 98, 108, 101]) || ((s.toList == [112, 114, 105, 109, 97, 114, 121]) || ((s.toList == [117, 110, 105, 113, 117, 101]) || ((s.toList == [105, 110, 100, 101, 120]) || ((s.toList == [110, 117, 108, 108]) || ((s.toList == [100, 101, 115, 99]) || ((s.toList == [105, 110, 116]) || ((s.toList == [110, 117, 109]) || ((s.toList == [116, 101, 120, 116]) || ((s.toList == [98, 111, 111, 108]) || (false))))))))))) := by
  unfold isKw kwords
  simp only [List.contains_cons, List.contains_nil]
theorem beq_flip (a b : List UInt8) : (a == b) = (b == a) := by
  cases h : a == b with
  | true => rw [eq_of_beq h]; exact (beq_self_eq_true _).symm
  | false => cases h2 : b == a with
    | false => rfl
    | true => rw [eq_of_beq h2, beq_self_eq_true] at h; cases h

set_option maxHeartbeats 2000000 in
theorem isWord_any (s : ByteArray) (w : World) :
    Calls Tryz.prog 168 #[.string s] w fun e w' => e = .returned (.bool (isKw s)) ∧ w = w' := by
  have HK := isKw_split s
  obtain ⟨z, hz⟩ : ∃ z, Hid (isKw s = z) := ⟨_, rfl⟩
  rw [hz.out] at HK ⊢
  clear hz
  cases m0 : (s.toList == [116, 97, 98, 108, 101]) with
  | true =>
    have HZ : Hid (z = true) := by show _ = _; rw [HK]; simp [m0]
    clear HK
    go_enter Tryz.func168, Tryz.ntmps168
    go_wp2
    go_ret
    exact ⟨by rw [HZ.out]; rfl, rfl⟩
  | false =>
    cases m1 : (s.toList == [112, 114, 105, 109, 97, 114, 121]) with
    | true =>
      have HZ : Hid (z = true) := by show _ = _; rw [HK]; simp [m0, m1]
      clear HK
      go_enter Tryz.func168, Tryz.ntmps168
      go_wp2
      go_ret
      exact ⟨by rw [HZ.out]; rfl, rfl⟩
    | false =>
      cases m2 : (s.toList == [117, 110, 105, 113, 117, 101]) with
      | true =>
        have HZ : Hid (z = true) := by show _ = _; rw [HK]; simp [m0, m1, m2]
        clear HK
        go_enter Tryz.func168, Tryz.ntmps168
        go_wp2
        go_ret
        exact ⟨by rw [HZ.out]; rfl, rfl⟩
      | false =>
        cases m3 : (s.toList == [105, 110, 100, 101, 120]) with
        | true =>
          have HZ : Hid (z = true) := by show _ = _; rw [HK]; simp [m0, m1, m2, m3]
          clear HK
          go_enter Tryz.func168, Tryz.ntmps168
          go_wp2
          go_ret
          exact ⟨by rw [HZ.out]; rfl, rfl⟩
        | false =>
          cases m4 : (s.toList == [110, 117, 108, 108]) with
          | true =>
            have HZ : Hid (z = true) := by show _ = _; rw [HK]; simp [m0, m1, m2, m3, m4]
            clear HK
            go_enter Tryz.func168, Tryz.ntmps168
            go_wp2
            go_ret
            exact ⟨by rw [HZ.out]; rfl, rfl⟩
          | false =>
            cases m5 : (s.toList == [100, 101, 115, 99]) with
            | true =>
              have HZ : Hid (z = true) := by show _ = _; rw [HK]; simp [m0, m1, m2, m3, m4, m5]
              clear HK
              go_enter Tryz.func168, Tryz.ntmps168
              go_wp2
              go_ret
              exact ⟨by rw [HZ.out]; rfl, rfl⟩
            | false =>
              cases m6 : (s.toList == [105, 110, 116]) with
              | true =>
                have HZ : Hid (z = true) := by show _ = _; rw [HK]; simp [m0, m1, m2, m3, m4, m5, m6]
                clear HK
                go_enter Tryz.func168, Tryz.ntmps168
                go_wp2
                go_ret
                exact ⟨by rw [HZ.out]; rfl, rfl⟩
              | false =>
                cases m7 : (s.toList == [110, 117, 109]) with
                | true =>
                  have HZ : Hid (z = true) := by show _ = _; rw [HK]; simp [m0, m1, m2, m3, m4, m5, m6, m7]
                  clear HK
                  go_enter Tryz.func168, Tryz.ntmps168
                  go_wp2
                  go_ret
                  exact ⟨by rw [HZ.out]; rfl, rfl⟩
                | false =>
                  cases m8 : (s.toList == [116, 101, 120, 116]) with
                  | true =>
                    have HZ : Hid (z = true) := by show _ = _; rw [HK]; simp [m0, m1, m2, m3, m4, m5, m6, m7, m8]
                    clear HK
                    go_enter Tryz.func168, Tryz.ntmps168
                    go_wp2
                    go_ret
                    exact ⟨by rw [HZ.out]; rfl, rfl⟩
                  | false =>
                    cases m9 : (s.toList == [98, 111, 111, 108]) with
                    | true =>
                      have HZ : Hid (z = true) := by show _ = _; rw [HK]; simp [m0, m1, m2, m3, m4, m5, m6, m7, m8, m9]
                      clear HK
                      go_enter Tryz.func168, Tryz.ntmps168
                      go_wp2
                      go_ret
                      exact ⟨by rw [HZ.out]; rfl, rfl⟩
                    | false =>
                      have HZ : Hid (z = false) := by show _ = _; rw [HK]; simp [m0, m1, m2, m3, m4, m5, m6, m7, m8, m9]
                      clear HK
                      go_enter Tryz.func168, Tryz.ntmps168
                      go_wp2
                      go_ret
                      exact ⟨by rw [HZ.out]; rfl, rfl⟩

set_option maxHeartbeats 1000000 in
theorem isNoName_any (s : ByteArray) (w : World) (hs : s.size ≤ 281474976710656) :
    Calls Tryz.prog 141 #[.string s] w fun e w' => e = .returned (.bool (!wordOk s)) ∧ Below w.heap.size w w' := by
  have hT := implTokenOk_any 1 s w hs
  have HW : Hid (wordOk s = (tokOk 1 s && !isKw s)) := by show _ = _; unfold wordOk tokOk; rw [if_pos rfl]
  have hI := fun W => isWord_any s W
  obtain ⟨z, hz⟩ : ∃ z, Hid (wordOk s = z) := ⟨_, rfl⟩
  rw [hz.out] at HW ⊢
  clear hz
  generalize tokOk 1 s = o at *
  generalize isKw s = k at *
  go_enter Tryz.func141, Tryz.ntmps141
  go_wp2_with fail
  refine hT.mono ?_
  rintro e w1 ⟨rfl, hb1⟩
  have HB : Hid (Below w.heap.size w w1) := hb1
  clear hT hb1
  cases o with
  | false =>
    clear hI
    go_wp2
    go_ret
    exact ⟨by rw [HW.out]; rfl, HB.out⟩
  | true =>
    go_wp2_with fail
    refine (hI _).mono ?_
    rintro e w2 ⟨rfl, rfl⟩
    clear hI
    go_wp2
    go_ret
    exact ⟨by rw [HW.out]; cases k <;> rfl, HB.out⟩

set_option maxHeartbeats 1000000 in
theorem isOfNoType_any (s : ByteArray) (ty : Int) (nul : Bool) (w : World) :
    Calls Tryz.prog 143 #[.agg #[.string s, .int .i64 ty, .bool nul]] w fun e w' => e = .returned (.bool (decide (ty < 1 ∨ 4 < ty))) ∧ Below w.heap.size w w' := by
  have HB : Hid (Below w.heap.size w (w.alloc (.cells #[.string s, .int .i64 ty, .bool nul] 102))) := (Below.refl _ _).alloc (Nat.le_refl _) _
  obtain ⟨z, hz⟩ : ∃ z, Hid (decide (ty < 1 ∨ 4 < ty) = z) := ⟨_, rfl⟩
  rw [hz.out]
  by_cases h1 : ty < 1
  · have HD : Hid (z = true) := hz.out.symm.trans (decide_eq_true (.inl h1))
    go_enter Tryz.func143, Tryz.ntmps143
    go_wp2
    go_ret
    exact ⟨by rw [HD.out]; rfl, HB.out⟩
  · by_cases h2 : 4 < ty
    · have HD : Hid (z = true) := hz.out.symm.trans (decide_eq_true (.inr h2))
      have h3 : ty > 4 := h2
      go_enter Tryz.func143, Tryz.ntmps143
      go_wp2
      go_ret
      exact ⟨by rw [HD.out]; rfl, HB.out⟩
    · have HD : Hid (z = false) := hz.out.symm.trans (decide_eq_false (by omega))
      have h3 : ¬ ty > 4 := by omega
      go_enter Tryz.func143, Tryz.ntmps143
      go_wp2
      go_ret
      exact ⟨by rw [HD.out]; rfl, HB.out⟩

set_option maxHeartbeats 2000000 in
theorem indexStr_any (a : Option Addr) (n cap : Nat) (f : Nat → ByteArray) (w : World) (h : SView w a n cap f) (hn : n ≤ 4194304) (hz : ∀ i, i < n → (f i).size ≤ 281474976710656) :
    Calls Tryz.prog 166 #[.slice a n cap, .func (.func 141) #[] #[]] w fun e w' => ∃ r : Int, e = .returned (.int .i64 r) ∧ (0 ≤ r ↔ ∃ i, i < n ∧ wordOk (f i) = false) ∧ Below w.heap.size w w' := by
  go_enter Tryz.func166, Tryz.ntmps166
  go_wp2
  go_loopg [8] n (fun q i wr => ∃ k : Nat, k ≤ n ∧ q = n - k ∧ i = .int .i64 k ∧ Below w.heap.size w wr ∧ Hid (∀ i, i < k → ¬ (wordOk (f i) = false)))
  case atStart => exact ⟨0, Nat.zero_le _, rfl, rfl, Below.refl _ _, fun j hj => absurd hj (Nat.not_lt_zero _)⟩
  case round =>
    obtain ⟨k, hk, rfl, rfl, hB, HA⟩ := hrel
    by_cases hlt : k < n
    · have hkz : (k : Int) < (n : Int) := by omega
      obtain ⟨b1, o1, rfl, hb1, hcs⟩ := (h.below hB).cells (by omega)
      have x0 := hcs k hlt
      have hV := fun W => isNoName_any (f k) W (hz k hlt)
      have HB : Hid (Below w.heap.size w wr) := hB
      obtain ⟨o, ho⟩ : ∃ o, Hid ((!wordOk (f k)) = o) := ⟨_, rfl⟩
      have HO : Hid (o = true ↔ wordOk (f k) = false) := by show _ ↔ _; rw [← ho.out]; cases wordOk (f k) <;> simp
      simp only [ho.out] at hV
      clear ho
      obtain ⟨s0, hs0⟩ : ∃ s, Hid (f k = s) := ⟨_, rfl⟩
      rw [hs0.out] at x0
      simp only [hs0.out] at hV
      clear hcs h hB hz
      go_wp2_with fail
      refine (hV _).mono ?_
      rintro e w2 ⟨rfl, hB2⟩
      have HB3 : Hid (Below w.heap.size w w2) := HB.out.trans (hB2.mono (by have := HB.out.size; first | exact this | (simp; omega)))
      clear hB2 hV x0 HB
      cases o with
      | true =>
        have HR : Hid ((0 : Int) ≤ (k : Int) ↔ ∃ i, i < n ∧ wordOk (f i) = false) := ⟨fun _ => ⟨k, hlt, HO.out.1 rfl⟩, fun _ => by omega⟩
        clear HO HA
        go_wp2
        go_ret
        exact ⟨_, rfl, HR.out, HB3.out⟩
      | false =>
        have HN : Hid (∀ i, i < k + 1 → ¬ (wordOk (f i) = false)) := by
          intro i hi
          by_cases e : i < k
          · exact HA.out i e
          · obtain rfl : i = k := by omega
            intro hb
            have := HO.out.2 hb
            cases this
        clear HO HA
        go_wp2
        go_roundg (n - (k + 1))
        case measure => omega
        case rel => exact ⟨k + 1, by omega, rfl, by go_num, HB3.out, HN⟩
    · have hkz : ¬ (k : Int) < (n : Int) := by omega
      obtain rfl : k = n := by omega
      have HR : Hid ((0 : Int) ≤ -1 ↔ ∃ i, i < k ∧ wordOk (f i) = false) := ⟨fun h => absurd h (by decide), fun ⟨i, hi, hb⟩ => absurd hb (HA.out i hi)⟩
      clear h HA
      go_wp2
      go_ret
      exact ⟨_, rfl, HR.out, hB⟩

set_option maxHeartbeats 1000000 in
theorem containsStr_any (a : Option Addr) (n cap : Nat) (f : Nat → ByteArray) (w : World) (h : SView w a n cap f) (hn : n ≤ 4194304) (hz : ∀ i, i < n → (f i).size ≤ 281474976710656) :
    Calls Tryz.prog 140 #[.slice a n cap, .func (.func 141) #[] #[]] w fun e w' => e = .returned (.bool (decide (∃ i, i < n ∧ wordOk (f i) = false))) ∧ Below w.heap.size w w' := by
  have hI := indexStr_any a n cap f w h hn hz
  clear h
  obtain ⟨z, hd⟩ : ∃ z, Hid (decide (∃ i, i < n ∧ wordOk (f i) = false) = z) := ⟨_, rfl⟩
  rw [hd.out]
  go_enter Tryz.func140, Tryz.ntmps140
  go_wp2_with fail
  refine hI.mono ?_
  rintro e w1 ⟨r, rfl, hr, hb⟩
  have HD : Hid (z = decide (0 ≤ r)) := by
    show _ = _
    rw [← hd.out]
    exact decide_eq_decide.2 hr.symm
  clear hI hr hd
  go_wp2
  go_ret
  exact ⟨by rw [HD.out]; rfl, hb⟩

set_option maxHeartbeats 2000000 in
theorem indexCol_any (a : Option Addr) (n cap : Nat) (f : Nat → PCol) (w : World) (h : CView w a n cap f) (hn : n ≤ 4194304) :
    Calls Tryz.prog 169 #[.slice a n cap, .func (.func 143) #[] #[]] w fun e w' => ∃ r : Int, e = .returned (.int .i64 r) ∧ (0 ≤ r ↔ ∃ i, i < n ∧ ((f i).type < 1 ∨ 4 < (f i).type)) ∧ Below w.heap.size w w' := by
  go_enter Tryz.func169, Tryz.ntmps169
  go_wp2
  go_loopg [8] n (fun q i wr => ∃ k : Nat, k ≤ n ∧ q = n - k ∧ i = .int .i64 k ∧ Below w.heap.size w wr ∧ Hid (∀ i, i < k → ¬ (((f i).type < 1 ∨ 4 < (f i).type))))
  case atStart => exact ⟨0, Nat.zero_le _, rfl, rfl, Below.refl _ _, fun j hj => absurd hj (Nat.not_lt_zero _)⟩
  case round =>
    obtain ⟨k, hk, rfl, rfl, hB, HA⟩ := hrel
    by_cases hlt : k < n
    · have hkz : (k : Int) < (n : Int) := by omega
      obtain ⟨b1, o1, rfl, hb1, hcs⟩ := (h.below hB).cells (by omega)
      obtain ⟨x0, x1, x2⟩ := hcs k hlt
      have hV := fun W => isOfNoType_any (f k).name (f k).type (f k).null W
      have HB : Hid (Below w.heap.size w wr) := hB
      obtain ⟨o, ho⟩ : ∃ o, Hid (decide ((f k).type < 1 ∨ 4 < (f k).type) = o) := ⟨_, rfl⟩
      have HO : Hid (o = true ↔ ((f k).type < 1 ∨ 4 < (f k).type)) := by show _ ↔ _; rw [← ho.out]; exact decide_eq_true_iff
      simp only [ho.out] at hV
      clear ho
      obtain ⟨s0, hs0⟩ : ∃ s, Hid ((f k).name = s) := ⟨_, rfl⟩
      obtain ⟨s1, hs1⟩ : ∃ s, Hid ((f k).type = s) := ⟨_, rfl⟩
      obtain ⟨s2, hs2⟩ : ∃ s, Hid ((f k).null = s) := ⟨_, rfl⟩
      rw [hs0.out] at x0
      rw [hs1.out] at x1
      rw [hs2.out] at x2
      simp only [hs0.out, hs1.out, hs2.out] at hV
      clear hcs h hB
      go_wp2_with fail
      refine (hV _).mono ?_
      rintro e w2 ⟨rfl, hB2⟩
      have HB3 : Hid (Below w.heap.size w w2) := HB.out.trans (hB2.mono (by have := HB.out.size; first | exact this | (simp; omega)))
      clear hB2 hV x0 x1 x2 HB
      cases o with
      | true =>
        have HR : Hid ((0 : Int) ≤ (k : Int) ↔ ∃ i, i < n ∧ ((f i).type < 1 ∨ 4 < (f i).type)) := ⟨fun _ => ⟨k, hlt, HO.out.1 rfl⟩, fun _ => by omega⟩
        clear HO HA
        go_wp2
        go_ret
        exact ⟨_, rfl, HR.out, HB3.out⟩
      | false =>
        have HN : Hid (∀ i, i < k + 1 → ¬ (((f i).type < 1 ∨ 4 < (f i).type))) := by
          intro i hi
          by_cases e : i < k
          · exact HA.out i e
          · obtain rfl : i = k := by omega
            intro hb
            have := HO.out.2 hb
            cases this
        clear HO HA
        go_wp2
        go_roundg (n - (k + 1))
        case measure => omega
        case rel => exact ⟨k + 1, by omega, rfl, by go_num, HB3.out, HN⟩
    · have hkz : ¬ (k : Int) < (n : Int) := by omega
      obtain rfl : k = n := by omega
      have HR : Hid ((0 : Int) ≤ -1 ↔ ∃ i, i < k ∧ ((f i).type < 1 ∨ 4 < (f i).type)) := ⟨fun h => absurd h (by decide), fun ⟨i, hi, hb⟩ => absurd hb (HA.out i hi)⟩
      clear h HA
      go_wp2
      go_ret
      exact ⟨_, rfl, HR.out, hB⟩

set_option maxHeartbeats 1000000 in
theorem containsCol_any (a : Option Addr) (n cap : Nat) (f : Nat → PCol) (w : World) (h : CView w a n cap f) (hn : n ≤ 4194304) :
    Calls Tryz.prog 142 #[.slice a n cap, .func (.func 143) #[] #[]] w fun e w' => e = .returned (.bool (decide (∃ i, i < n ∧ ((f i).type < 1 ∨ 4 < (f i).type)))) ∧ Below w.heap.size w w' := by
  have hI := indexCol_any a n cap f w h hn
  clear h
  obtain ⟨z, hd⟩ : ∃ z, Hid (decide (∃ i, i < n ∧ ((f i).type < 1 ∨ 4 < (f i).type)) = z) := ⟨_, rfl⟩
  rw [hd.out]
  go_enter Tryz.func142, Tryz.ntmps142
  go_wp2_with fail
  refine hI.mono ?_
  rintro e w1 ⟨r, rfl, hr, hb⟩
  have HD : Hid (z = decide (0 ≤ r)) := by
    show _ = _
    rw [← hd.out]
    exact decide_eq_decide.2 hr.symm
  clear hI hr hd
  go_wp2
  go_ret
  exact ⟨by rw [HD.out]; rfl, hb⟩
end Go.Proofs.YtjoimkfpenbkmabGreatDoor

/-
  slices.Values of a row of texts, and what slices.AppendSeq makes of it.
-/
namespace Go.Proofs.YtjoimkfpenbkmabGreatDoor
open Go.RowKit
set_option maxRecDepth 4000

attribute [local go_sem] Oper.semAt_some

/-- A text, as it is yielded. -/
abbrev encY (x : ByteArray) : Array Value := #[.string x]
/-- The first j texts. -/
def strU (f : Nat → ByteArray) (j : Nat) : List ByteArray := (List.range j).map f
theorem strU_succ (f : Nat → ByteArray) (j : Nat) : strU f (j + 1) = strU f j ++ [f j] := by simp [strU, List.range_succ]
theorem strU_len (f : Nat → ByteArray) (j : Nat) : (strU f j).length = j := by simp [strU]
theorem rowG_strU (f : Nat → ByteArray) : ∀ n, rowG (encS f) n = (strU f n).map Value.string
  | 0 => rfl
  | n + 1 => by rw [rowG, rowG_strU f n, strU_succ, List.map_append]; rfl

set_option linter.unusedSimpArgs false in
set_option maxRecDepth 100000 in
set_option maxHeartbeats 4000000 in
theorem values1_in (NN : Nat) (hNN : 1 ≤ NN) (l B : Nat) (a : Option Addr) (n cap : Nat) (f : Nat → ByteArray) (w : World) (hp : SView w a n cap f) (hn : n ≤ 281474976710656)
    (J Jx : List ByteArray → World → Prop) (W : World)
    (hY : ∀ pre x W1, J pre W1 → pre.length < n → YieldAt Fence.wide (NN - 1) Tryz.prog l (encY x) W1 fun e W' =>
      (e = .returned (.bool true) ∧ J (pre ++ [x]) W' ∧ KpB w.heap.size B B W1 W') ∨ (e = .returned (.bool false) ∧ Jx (pre ++ [x]) W'))
    (hb : Below w.heap.size w W) (hl : Boxed W B 123 (.slice a n cap)) (h0 : J [] W) :
    CallsIn Fence.wide NN Tryz.prog 187 #[.func (.yield l) #[] #[], .pointer (some ⟨B, 0, none⟩)] W fun e W' => (∃ v, e = .returned v) ∧
      ((∃ xs, xs = strU f n ∧ J xs W') ∨ (∃ pre, True ∧ Jx pre W')) := by
  refine callsIn_of_wp Tryz.func187 rfl trivial ?_ rfl
  simp only [Tryz.ntmps187, List.size_toArray, List.length_cons, List.length_nil, Nat.reduceAdd, Nat.reduceSub, Array.replicate_succ, Array.replicate_zero, List.push_toArray, List.append_toArray, List.nil_append, List.cons_append]
  have cl := hl.cell
  gi_wp2
  gi_loopw [7] (fun i wr => ∃ (j : Nat), j ≤ n ∧ i = .int .i64 j ∧ J (strU f j) wr ∧ KpB w.heap.size B B W wr) (fun i _ => n - (intOf i).toNat)
  case atStart => exact ⟨0, Nat.zero_le _, rfl, h0, KpB.refl _ _ _ _⟩
  case round =>
    obtain ⟨j, hj, rfl, hJs, hk⟩ := hrel
    by_cases hlt : j < n
    · have hbw : Below w.heap.size w wr := hb.trans hk.below
      obtain ⟨b1, o1, rfl, hb1, hd1⟩ := (hp.below hbw).cells (by omega)
      have x0 := hd1 j hlt
      have hjz : (j : Int) < (n : Int) := by omega
      have hUl := strU_len f j
      obtain ⟨fn', tmps, assign, body, hy, hR⟩ := hY (strU f j) (f j) wr hJs (by omega)
      dsimp only [encY] at hy
      have HU : Hid (strU f (j + 1) = strU f j ++ [f j]) := strU_succ f j
      obtain ⟨s0, hs0⟩ : ∃ s, f j = s := ⟨_, rfl⟩
      rw [hs0] at x0 hy hR HU
      clear hd1 cl hs0 hJs
      gi_wp2
      refine hR.mono ?_
      rintro e W3 (⟨rfl, hJ3, hk3⟩ | ⟨rfl, hJx3⟩)
      · clear hy hR x0
        gi_wp2
        go_roundw
        case rel => exact ⟨j + 1, by omega, by go_num, by rw [HU.out]; exact hJ3, hk.trans hk3⟩
        case measure => simp [intOf]; omega
      · clear hy hR x0
        gi_wp2
        refine bodyPost_ret (results_none rfl _ _ _) rfl ?_
        exact ⟨⟨_, rfl⟩, .inr ⟨_, trivial, hJx3⟩⟩
    · have hjz : ¬ (j : Int) < (n : Int) := by omega
      obtain rfl : j = n := by omega
      gi_wp2
      go_end0
      first
        | exact ⟨⟨_, rfl⟩, .inl hJs⟩
        | exact ⟨⟨_, rfl⟩, .inl ⟨_, rfl, hJs⟩⟩

theorem values_stops (NN : Nat) (hNN : 1 ≤ NN) (B : Nat) (a : Option Addr) (n cap : Nat) (f : Nat → ByteArray) (w : World) (hp : SView w a n cap f) (hn : n ≤ 281474976710656)
    (W0 : World) (hb : Below w.heap.size w W0) (hl : Boxed W0 B 123 (.slice a n cap)) :
    SeqStopsK Fence.wide NN Tryz.prog 187 #[.pointer (some ⟨B, 0, none⟩)] encY (KpB w.heap.size B B) (fun xs => xs = strU f n) (fun _ => True) n W0 :=
  fun l J Jx W hW _ _ hY h0 => values1_in NN hNN l B a n cap f w hp hn J Jx W hY (hb.trans (hW.mono hb.size)) (Boxed.below' hl hW) h0

set_option maxHeartbeats 1000000 in
/-- slices.Values boxes its argument. -/
theorem values_in (NN : Nat) (a : Option Addr) (n cap : Nat) (w : World) :
    CallsIn Fence.wide NN Tryz.prog 171 #[.slice a n cap] w fun e w' => e = .returned (.func (.func 187) #[] #[.pointer (some ⟨w.heap.size, 0, none⟩)]) ∧ w' = w.alloc (.cells #[.slice a n cap] 123) := by
  refine callsIn_of_wp Tryz.func171 rfl trivial ?_ rfl
  simp only [Tryz.ntmps171, List.size_toArray, List.length_cons, List.length_nil, Nat.reduceAdd, Nat.reduceSub, Array.replicate_succ, Array.replicate_zero, List.push_toArray, List.append_toArray, List.nil_append, List.cons_append]
  gi_wp2
  go_ret
  exact ⟨rfl, rfl⟩

theorem cells_oneS (W : World) (s : ByteArray) : ∀ j u, [Value.string s][j]? = some u → (W.alloc (.cells #[.string s] 9)).cell? ((⟨W.heap.size, 0, none⟩ : Addr).add j) = some u := by
  intro j u hj
  match j, hj with
  | 0, hj => simp at hj; subst hj; simp [Addr.add]

set_option linter.unusedSimpArgs false in
set_option maxRecDepth 100000 in
set_option maxHeartbeats 4000000 in
/-- What is yielded is put behind a row of the call's own. -/
theorem appendStr_in (a : Option Addr) (n cap : Nat) (f : Nat → ByteArray) (w : World) (hp : SView w a n cap f) (hn : n ≤ 4194304)
    (w2 : World) (B : Nat) (hb : Below w.heap.size w w2) (bL : Boxed w2 B 123 (.slice a n cap)) :
    CallsIn Fence.wide 7 Tryz.prog 197 #[.slice none 0 0, .func (.func 187) #[] #[.pointer (some ⟨B, 0, none⟩)]] w2 fun e w' => ∃ v, e = .returned v ∧ w'.ownsRow w.heap.size 9 1 v n (rowG (encS f) n) ∧ Below w.heap.size w w' := by
  obtain ⟨i0, hi, hz0, hz1, hz2⟩ := infoStr
  refine callsIn_of_wp_marks Tryz.func197 rfl trivial ?_ rfl
  simp only [Tryz.ntmps197, List.size_toArray, List.length_cons, List.length_nil, Nat.reduceAdd, Nat.reduceSub, Array.replicate_succ, Array.replicate_zero, List.push_toArray, List.append_toArray, List.nil_append, List.cons_append]
  gi_wp2
  have hb5 : Below w2.heap.size w2 (w2.alloc (.cells #[.slice none 0 0] 123)) := (Below.refl _ _).alloc (Nat.le_refl _) _
  have hB0 := hb.trans (hb5.mono hb.size)
  have bS := Boxed.new w2 123 (.slice none 0 0)
  have bL0 := Boxed.below' bL hb5
  have hbl := bL.lt
  have hsz : (w2.alloc (.cells #[.slice none 0 0] 123)).heap.size = w2.heap.size + 1 := by simp
  obtain ⟨W0, hW0⟩ : ∃ W0, w2.alloc (.cells #[.slice none 0 0] 123) = W0 := ⟨_, rfl⟩
  rw [hW0] at hB0 bS bL0 hsz ⊢
  have hwA := hb.size
  have hO3 : W0.ownsRow w.heap.size 9 1 (.slice none 0 0) 0 [] := ⟨rfl, .inl ⟨rfl, rfl⟩⟩
  clear hW0 hb5 hb bL
  obtain ⟨A, hA⟩ : ∃ A, w2.heap.size = A := ⟨_, rfl⟩
  rw [hA] at bS hsz hwA hbl ⊢
  clear hA
  refine wpIn_rangeFunc_ownH rfl (by decide) (gf := 187) (lb := #[.pointer (some ⟨B, 0, none⟩)]) rfl trivial (enters_of Tryz.func187 (by kernel_rfl) rfl)
    (values_stops (7 - 1) (by decide) B a n cap f w hp (by omega) W0 hB0 bL0) (fun h k => KpB.trans h k) (KpB.put (by omega) (by omega) (by omega)) (Below.refl _ _) (fun _ => rfl)
    (fun pre W => (∃ v, Boxed W A 123 v ∧ W.ownsRow w.heap.size 9 1 v pre.length (pre.map Value.string)) ∧ KpB w.heap.size B B W0 W)
    (fun c pre W => False)
    (OwnFrom.and (fun s X Y row hs hg hr => by obtain ⟨v, h1, h3⟩ := hs; exact ⟨v, Boxed.ownK h1 hg (fun r e => (hr r e).2), own_ownK h3 hg (fun r e => (hr r e).2)⟩) (ownFrom_kpB (by omega) (by omega) (by omega) (Nat.le_refl _)))
    (fun c s X Y row hs hg hr => hs)
    ⟨⟨_, bS, hO3⟩, KpB.refl _ _ _ _⟩
    (fun x a' W => a' = { tmps := #[.slice none 0 0, .func (.func 187) #[] #[.pointer (some ⟨B, 0, none⟩)], .pointer (some ⟨A, 0, none⟩), undef, .slice none 0 0, .string x, .func (.func 187) #[] #[.pointer (some ⟨B, 0, none⟩)], .string x, undef, undef, undef, undef, undef], defers := [] })
    (fun x a' _ X Y row hs hg hr => hs)
    ?assign ?body ?done ?stop
  case assign =>
    rintro l pre x W K ⟨⟨v, bV1, hO⟩, hk⟩ hK
    gi_wp2
    exact hK _ _ (KeepsFrom.ofBelow (Below.refl _ _)) (KpB.refl _ _ _ _) ⟨⟨v, bV1, hO⟩, hk⟩ rfl
  case body =>
    rintro l pre x a' W hl ⟨r, hr⟩ ⟨⟨v, bV1, hO⟩, hk⟩ rfl hlt
    have hs1 := hk.below.size
    have cV := bV1.cell
    clear hr
    gi_wp2_with (gi_at_builtin; refine wpListIn_append_own _ rfl _ _ 123 rfl w.heap.size 9 i0 (.string ⟨#[]⟩) 1 16 Tryz.underlying123 hi hz0 hz1 hz2 rfl (by decide) v _ _ rfl (own_belowG hO ((Below.refl _ _).alloc (Nat.le_refl _) _)) ⟨W.heap.size, 0, none⟩ 1 1 [.string x] rfl rfl (cells_oneS W x) (by intro u hu; simp at hu; subst hu; rfl) (by unfold maxLen; omega) (by omega) (by simp; omega) ?_; intro v' w1 hown' hgrow hnil; obtain ⟨g', cap', rfl⟩ := ownsRow_succ hown'; obtain ⟨hv1, hv2, hr2, hk2, hb2⟩ := Boxed.appended bV1 (by decide) hO (by omega) (by omega) hown' hgrow; have hc1 := hv1.cell; have hf1 := hv1.frozen)
    have bL1 := Boxed.kpl bL0 hk
    have hsg := hgrow.size
    rw [World.size_alloc] at hsg
    have hkk : KpB w.heap.size B B W (w1.setCell ⟨A, 0, none⟩ (.slice (some ⟨g', 0, none⟩) (pre.length + 1) cap')) := by
      refine ((KpB.ofBelow ((Below.refl _ _).alloc (Nat.le_refl _) _) (by omega) (by omega) (by omega)).trans (KpB.ofGrown hgrow (by rw [World.size_alloc]; omega) (by rw [World.size_alloc]; omega) (by rw [World.size_alloc]; omega) (fun k e => ⟨own_ge hO k e, fun h => ?_, fun h => ?_⟩))).trans (KpB.ofGrown (grownBy_setCell' w1 A _) (by omega) (by omega) (by omega) (fun k e => by cases e; omega))
      · subst h; exact bL1.not_row (by decide) hO e.symm
      · subst h; exact bL1.not_row (by decide) hO e.symm
    refine ⟨hk2.from _, hkk, ⟨_, hv2, ?_⟩, hk.trans hkk⟩
    rw [List.map_append, List.length_append]
    exact hr2
  case done =>
    rintro D ys W hD rfl ⟨⟨v, bV1, hO⟩, hk⟩ hK
    have hk0 := hB0.trans hk.below
    rw [← rowG_strU, strU_len] at hO
    have cV := bV1.cell
    obtain ⟨ga, cg, rfl⟩ : ∃ ga cg, v = .slice ga n cg := by
      rcases hO.2 with ⟨e, h0⟩ | ⟨g, cg, _, e, _⟩
      · subst h0; exact ⟨_, _, e⟩
      · exact ⟨_, _, e⟩
    gi_wp2
    refine ⟨by simp, .inl ⟨_, _, rfl, run_takeDeferred hK, ?_⟩⟩
    exact ⟨_, results_tmp rfl _ _ _, _, rfl, own_ownK hO (grownBy_putObj' _ D _) (fun r e => by cases e; exact ⟨_, hK, rfl⟩), Below.put' hk0 (by omega) hK⟩
  case stop =>
    rintro D c pre W hD hpre h hK
    exact h.elim
end Go.Proofs.YtjoimkfpenbkmabGreatDoor

/-
  Names that are sorted and compacted are fewer just if one stands twice.
-/
namespace Go.Proofs.YtjoimkfpenbkmabGreatDoor
open Go.RowKit
set_option maxRecDepth 4000

theorem le_sorted (zs : List (List UInt8)) : (zs.mergeSort fun x y => decide (x ≤ y)).Pairwise (fun a b => a ≤ b) := by
  have h := List.pairwise_mergeSort (le := fun x y : List UInt8 => decide (x ≤ y))
    (fun a b c h k => decide_eq_true (List.le_trans (of_decide_eq_true h) (of_decide_eq_true k)))
    (fun a b => by rcases List.le_total a b with h | h <;> simp [h]) zs
  exact h.imp (fun h => of_decide_eq_true h)

/-- Of a sorted list one is dropped just if one stands twice. -/
theorem compact_short (ss : List (List UInt8)) (hs : ss.Pairwise (fun a b => a ≤ b)) : (Lib.compact ss).length < ss.length ↔ ¬ ss.Nodup := by
  have hl : (Lib.compact ss).length < ss.length ↔ ∃ j, j < ss.length ∧ Lib.keeps ss.toArray j = false := by
    unfold Lib.compact Lib.compactUpTo
    rw [List.length_map]
    have h := List.length_filter_lt_length_iff_exists (p := Lib.keeps ss.toArray) (l := List.range ss.length)
    rw [List.length_range] at h
    rw [h]
    simp
  rw [hl]
  have hp := List.pairwise_iff_getElem.1 hs
  constructor
  · rintro ⟨j, hj, hk⟩ hn
    have h0 : ¬ (j = 0 ∨ ss.toArray[j]! ≠ ss.toArray[j - 1]!) := by simpa [Lib.keeps] using hk
    have hj0 : 0 < j := by omega
    have he : ss.toArray[j]! = ss.toArray[j - 1]! := Classical.byContradiction fun h => h0 (.inr h)
    have e1 : ss.toArray[j]! = ss[j] := by simp [hj]
    have e2 : ss.toArray[j - 1]! = ss[j - 1] := by simp [show j - 1 < ss.length by omega]
    rw [e1, e2] at he
    have := (List.pairwise_iff_getElem.1 hn) (j - 1) j (by omega) hj (by omega)
    exact this he.symm
  · intro hn
    apply Classical.byContradiction
    intro hno
    apply hn
    have hadj : ∀ j (h1 : j < ss.length) (h0 : 0 < j), ss[j]'h1 ≠ ss[j - 1]'(by omega) := by
      intro j h1 h0 he
      refine hno ⟨j, h1, ?_⟩
      have e1 : ss.toArray[j]! = ss[j] := by simp [h1]
      have e2 : ss.toArray[j - 1]! = ss[j - 1] := by simp [show j - 1 < ss.length by omega]
      exact Lib.keeps_neg h0 (by rw [e1, e2, he])
    refine List.pairwise_iff_getElem.2 fun i j hi hj hij he => ?_
    have h1 : ss[i] ≤ ss[j - 1] := by
      by_cases e : i = j - 1
      · subst e; exact List.le_refl _
      · exact hp i (j - 1) hi (by omega) (by omega)
    have h2 : ss[j - 1] ≤ ss[j] := hp (j - 1) j (by omega) hj (by omega)
    rw [← he] at h2
    have h3 := List.le_antisymm h2 h1
    refine hadj j hj (by omega) ?_
    rw [← he, h3]

theorem twice_short (zs : List (List UInt8)) : (Lib.compact (zs.mergeSort fun x y => decide (x ≤ y))).length < zs.length ↔ ¬ zs.Nodup := by
  have h := compact_short _ (le_sorted zs)
  have hp := List.mergeSort_perm zs (fun x y => decide (x ≤ y))
  rw [hp.length_eq] at h
  rw [h, hp.nodup_iff]
end Go.Proofs.YtjoimkfpenbkmabGreatDoor

