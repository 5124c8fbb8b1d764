/-
  Together: TextsSize, TextsSpec, LawDefsText, PartsText9, IdxText9
-/
import Derived.Test.YtmibpdnlphdoaaaGreatDoorPackF11
import Derived.Test.YtmibpdnlphdoaaaGreatDoorPackF18
import Derived.Test.YtmibpdnlphdoaaaGreatDoorPackF3
import Derived.Test.YtmibpdnlphdoaaaGreatDoorPackF19
import Derived.Deep.LoopGhost
import Derived.Test.YtmibpdnlphdoaaaGreatDoorPackF6
import Derived.Test.YtmibpdnlphdoaaaGreatDoorPackF7
import Derived.Deep.RegionHeld3
/-
  The text of tables is not long.
-/
namespace Go.Proofs.YtmibpdnlphdoaaaGreatDoor
open Go.RowKit
set_option maxRecDepth 4000

/-- A table's text, whatever its names. -/
theorem defText_size (D : PDef) : (defText D).size ≤ 2000 := by
  unfold defText
  split
  · rename_i h
    obtain ⟨g1, g2, -, g4, g5, -⟩ := checkF_good h
    unfold namesF at g1
    unfold typesF at g2
    unfold allPartsF at g5
    obtain ⟨hw, hi, hn⟩ := of_decide_eq_true g1
    obtain ⟨ht, hc1, hc6⟩ := of_decide_eq_true g2
    obtain ⟨hpi, hpp⟩ := of_decide_eq_true g5
    have h8 : ∀ {s}, wordOk s = true → s.size ≤ 8 := fun hs => by
      have := word_name hs
      unfold nameOk at this
      exact (of_decide_eq_true this).2.1
    have hcol : ∀ i, i < D.nc → (D.col i).name.size ≤ 8 := fun i h => h8 (hw i h)
    have hpp' : (partsE D.col D.np D.pri).size ≤ 2 * 8 + 16 := partsE_size (fun i h => hcol _ (by have := partsF_in hpp h; omega)) (partsF_two hpp).2
    have := idxT_size (B := 8) (h8 hn) hcol hc6 hpp' (fun i h => ⟨h8 (hi i h), partsE_size (fun j hj => hcol _ (by have := partsF_in (hpi i h) hj; omega)) (partsF_two (hpi i h)).2⟩) D.ni (Nat.le_refl _)
    have hni : D.ni ≤ 2 := g4
    have h3 : D.ni * (3 * 8 + 24) ≤ 2 * (3 * 8 + 24) := Nat.mul_le_mul_right _ hni
    unfold textG
    rw [ByteArray.size_append]
    have e : (⟨#[125]⟩ : ByteArray).size = 1 := rfl
    omega
  · exact Nat.zero_le _
theorem defsT_size (f : Nat → PDef) : ∀ k, (defsT f k).size ≤ k * 2001
  | 0 => Nat.zero_le _
  | k + 1 => by
    have ih := defsT_size f k
    have h := defText_size (f k)
    have e : (⟨#[10]⟩ : ByteArray).size = 1 := rfl
    rw [defsT, ByteArray.size_append, ByteArray.size_append]
    omega
end Go.Proofs.YtmibpdnlphdoaaaGreatDoor

/-
  spec.DefsText, walked.
-/
namespace Go.Proofs.YtmibpdnlphdoaaaGreatDoor
open Go.RowKit
set_option maxRecDepth 4000

set_option maxHeartbeats 4000000 in
theorem specTexts_any (a : Option Addr) (n cap : Nat) (f : Nat → PDef) (w : World) (h : LView w a n cap f) (hf : LFine n f) :
    Calls Tryz.prog 13 #[.slice a n cap] w fun e w' => e = .returned (.string (defsT f n)) ∧ Below w.heap.size w w' := by
  have hn := hf.few
  go_enter Tryz.func13, Tryz.ntmps13
  go_wp2
  go_loopg [3, 4] n (fun q s i wr => ∃ (k : Nat) (t : ByteArray), k ≤ n ∧ q = n - k ∧ s = .string t ∧ i = .int .i64 k ∧ Below w.heap.size w wr ∧ Hid (t = defsT f k))
  case atStart => exact ⟨0, _, Nat.zero_le _, rfl, rfl, rfl, Below.refl _ _, rfl⟩
  case round =>
    obtain ⟨k, t, hk, rfl, rfl, rfl, hB, HA⟩ := hrel
    by_cases hlt : k < n
    · obtain ⟨b1, o1, rfl, hb1, hc1⟩ := (h.below hB).cells (by omega)
      obtain ⟨y1, y2, y3, x0, x1, x2, x3, hv⟩ := hc1 k hlt
      have hkz : (k : Int) < (n : Int) := by omega
      have hS := specText_any _ (f k) wr hv (hf.at_ k hlt)
      obtain ⟨c, hc⟩ : ∃ c, Hid (defText (f k) = c) := ⟨_, rfl⟩
      have hcs : c.size ≤ 2000 := by rw [← hc.out]; exact defText_size _
      have hts : t.size ≤ 2099249152 := by rw [HA.out]; have := defsT_size f k; omega
      rw [hc.out] at hS
      obtain ⟨p0, hp0⟩ : ∃ x, Hid ((f k).name = x) := ⟨_, rfl⟩
      rw [hp0.out] at x0
      simp only [hp0.out] at hS
      clear hv hf h hc1
      go_wp2_with fail
      refine hS.mono ?_
      rintro e w1 ⟨rfl, hb⟩
      have HB : Hid (Below w.heap.size w w1) := hB.trans (hb.mono hB.size)
      clear hS hb hB x0 x1 x2 x3 hb1
      go_wp2
      go_roundg (n - (k + 1))
      case measure => omega
      case rel => exact ⟨k + 1, _, by omega, rfl, rfl, by go_num, HB.out, by show _ = defsT f k ++ defText (f k) ++ _; rw [hc.out, ← HA.out]⟩
    · have hkz : ¬ (k : Int) < (n : Int) := by omega
      clear h hf
      go_wp2
      go_ret
      obtain rfl : k = n := by omega
      exact ⟨by rw [← HA.out]; rfl, hB⟩
end Go.Proofs.YtmibpdnlphdoaaaGreatDoor

/-
  The law FnExactDefsText, walked.
-/
namespace Go.Proofs.YtmibpdnlphdoaaaGreatDoor
open Go.RowKit
set_option maxRecDepth 4000

set_option maxHeartbeats 4000000 in
theorem lawDefsText (a : Option Addr) (n cap : Nat) (f : Nat → PDef) (w : World) (h : LView w a n cap f) (hn : n ≤ maxLen) (hm : ∀ i, i < n → DLim (f i))
    (hI : ∀ (W : World) (a' : Option Addr) (c' : Nat), Below w.heap.size w W → LView W a' n c' f → LFine n f → Calls Tryz.prog 10 #[.slice a' n c'] W fun e w' => e = .returned (.string (defsT f n)) ∧ Below W.heap.size W w') :
    Calls Tryz.prog 6 #[.slice a n cap] w fun e w' => e = .returned (.bool true) ∧ Below w.heap.size w w' := by
  have hZ := szDefS_fine a n cap f 1048576 w h hn hm (by omega) (by omega)
  clear hm hn
  go_enter Tryz.func6, Tryz.ntmps6
  go_wp2_with fail
  refine hZ.mono ?_
  rintro e w1 ⟨L, rfl, hb1, hL⟩
  clear hZ
  rcases hL with rfl | ⟨hL0, hL1, hf⟩
  · have HB : Hid (Below w.heap.size w w1) := hb1
    clear hI h hb1
    go_wp2
    go_ret
    exact ⟨rfl, HB.out⟩
  have hLn : ¬ L < 0 := by omega
  have hT := toDefS_any a n cap f w1 (h.below hb1) hf
  go_wp2_with fail
  refine hT.mono ?_
  rintro e w2 ⟨rfl, hv2, hb2, -⟩
  have hB2 : Below w.heap.size w w2 := hb1.trans (hb2.mono hb1.size)
  have hP := specTexts_any _ n n f w2 hv2 hf
  obtain ⟨r, hr⟩ : ∃ r, Hid (defsT f n = r) := ⟨_, rfl⟩
  simp only [hr.out] at hP hI
  clear hT hb1 hb2 hv2
  go_wp2_with fail
  refine hP.mono ?_
  rintro e w3 ⟨rfl, hb3⟩
  have hB3 : Below w.heap.size w w3 := hB2.trans (hb3.mono hB2.size)
  have hT := toDefS_any a n cap f w3 (h.below hB3) hf
  clear hP hb3 hB2
  go_wp2_with fail
  refine hT.mono ?_
  rintro e w4 ⟨rfl, hv4, hb4, -⟩
  have hB4 : Below w.heap.size w w4 := hB3.trans (hb4.mono hB3.size)
  have hG := hI w4 _ _ hB4 hv4 hf
  obtain ⟨X, hX⟩ : ∃ X, Hid (w3.heap.size = X) := ⟨_, rfl⟩
  rw [hX.out] at hG hv4 ⊢
  clear hT hb4 hB3 hI
  go_wp2_with fail
  refine hG.mono ?_
  rintro e w5 ⟨rfl, hb5⟩
  have hB5 : Below w.heap.size w w5 := hB4.trans (hb5.mono hB4.size)
  have hv5 := hv4.below hb5
  have hT := toDefS_any a n cap f w5 (h.below hB5) hf
  have hq := bytes_eq (a := r) rfl
  clear hG hb5 hB4 hv4
  go_wp2_with fail
  refine hT.mono ?_
  rintro e w6 ⟨rfl, hv6, hb6, -⟩
  have hB6 : Below w.heap.size w w6 := hB5.trans (hb6.mono hB5.size)
  have hE := eqDefS_same _ _ n n n f w6 (hv5.below hb6) hv6 hf
  clear hT hB5 hv5 hv6 hb6 h hf
  go_wp2_with fail
  refine hE.mono ?_
  rintro e w7 ⟨rfl, hb7⟩
  have HB : Hid (Below w.heap.size w w7) := hB6.trans (hb7.mono hB6.size)
  clear hE hb7 hB6
  go_wp2
  go_ret
  exact ⟨rfl, HB.out⟩
end Go.Proofs.YtmibpdnlphdoaaaGreatDoor

/-
  The program's partsText, indexText.
-/
namespace Go.Proofs.YtmibpdnlphdoaaaGreatDoor
open Go.RowKit
set_option maxRecDepth 4000

theorem partT_size {col : Nat → PCol} {f : Nat → PBy} {k : Nat} (h : (col (f k).col.toNat).name.size ≤ 1048576) : (partT col f k).size ≤ 1048581 := by
  unfold partT
  split
  · rw [ByteArray.size_append]; have : (⟨#[32, 100, 101, 115, 99]⟩ : ByteArray).size = 5 := rfl; omega
  · omega

set_option maxHeartbeats 4000000 in
theorem partsText_any (ac : Option Addr) (nc cc : Nat) (col : Nat → PCol) (a : Option Addr) (n cap : Nat) (f : Nat → PBy) (w : World) (hcv : CView w ac nc cc col) (h : BView w a n cap f) (h1 : 1 ≤ n) (h2 : n ≤ 2) (hnc : nc ≤ 1048576) (hin : ∀ i, i < n → 0 ≤ (f i).col ∧ (f i).col < nc) (hz : ∀ i, i < nc → (col i).name.size ≤ 1048576) :
    Calls Tryz.prog 63 #[.slice ac nc cc, .slice a n cap] w fun e w' => e = .returned (.string (partsE col n f)) ∧ Below w.heap.size w w' := by
  obtain ⟨i0, hi, hz0, hz1, hz2⟩ := infoStr
  have HE : Hid (partsE col n f = (⟨(Lib.join (((List.range n).map (partT col f)).map (·.data.toList)) (⟨#[44, 32]⟩ : ByteArray).data.toList).toArray⟩ : ByteArray) ++ (⟨#[59, 32]⟩ : ByteArray)) := partsE_join col n f h1 h2
  have hpz := partsE_size (B := 1048576) (col := col) (f := f) (n := n) (fun i hi => hz _ (by have := hin i hi; omega)) h2
  have HIN : Hid (∀ i, i < n → 0 ≤ (f i).col ∧ (f i).col < nc) := hin
  have HZ : Hid (∀ i, i < nc → (col i).name.size ≤ 1048576) := hz
  obtain ⟨z, hzz⟩ : ∃ z, Hid (partsE col n f = z) := ⟨_, rfl⟩
  rw [hzz.out] at HE hpz ⊢
  clear hin hz hzz
  have hbE : Below w.heap.size w (w.alloc (.cells #[] 9)) := (Below.refl _ _).alloc (Nat.le_refl _) _
  have hO0 : (w.alloc (.cells #[] 9)).ownsRow w.heap.size 9 1 (.slice (some ⟨w.heap.size, 0, none⟩) 0 0) 0 (rowG (encS (partT col f)) 0) := by
    have := World.ownsRow_lit (base := w.heap.size) (e := 9) (size := 1) w #[] 0 (Nat.le_refl _) (Nat.zero_le _) rfl
    simpa [rowG] using this
  go_enter Tryz.func63, Tryz.ntmps63
  go_wp2
  go_loopg [12, 5] n (fun q i s wr => ∃ k : Nat, k ≤ n ∧ q = n - k ∧ i = .int .i64 k ∧ (∃ g c, s = .slice (some ⟨g, 0, none⟩) k c) ∧ wr.ownsRow w.heap.size 9 1 s k (rowG (encS (partT col f)) k) ∧ Below w.heap.size w wr)
  case atStart => exact ⟨0, Nat.zero_le _, rfl, rfl, ⟨_, _, rfl⟩, hO0, hbE⟩
  case round =>
    clear hO0 hbE
    obtain ⟨k, hk, rfl, rfl, ⟨sa, sc, rfl⟩, hO, hB⟩ := hrel
    by_cases hlt : k < n
    · have hkz : (k : Int) < (n : Int) := by omega
      obtain ⟨q0, q1⟩ := HIN.out k hlt
      obtain ⟨m, hm⟩ := Int.eq_ofNat_of_zero_le q0
      obtain ⟨b1, o1, rfl, hb1, hcs⟩ := (h.below hB).cells (by omega)
      obtain ⟨x0, x1⟩ := hcs k hlt
      rw [hm] at x0 q1
      obtain ⟨b2, o2, rfl, hb2, hcc⟩ := (hcv.below hB).cells (by omega)
      obtain ⟨y0, -, -⟩ := hcc m (by omega)
      have hsz := hB.size
      have hnz := HZ.out m (by omega)
      have HN : Hid (rowG (encS (partT col f)) (k + 1) = rowG (encS (partT col f)) k ++ [.string (partT col f k)]) := rfl
      have HPT : Hid (partT col f k = if (f k).desc then (col m).name ++ (⟨#[32, 100, 101, 115, 99]⟩ : ByteArray) else (col m).name) := by show _ = _; unfold partT; rw [hm]; rfl
      have HB : Hid (Below w.heap.size w wr) := hB
      obtain ⟨s0, hs0⟩ : ∃ x, Hid ((col m).name = x) := ⟨_, rfl⟩
      obtain ⟨ds, hds⟩ : ∃ x, Hid ((f k).desc = x) := ⟨_, rfl⟩
      obtain ⟨R, hR⟩ : ∃ x, Hid (rowG (encS (partT col f)) k = x) := ⟨_, rfl⟩
      rw [hs0.out] at y0 hnz HPT
      rw [hds.out] at x1 HPT
      rw [hR.out] at HN hO
      have hmz : (m : Int) < (nc : Int) := q1
      have e5 : (⟨#[32, 100, 101, 115, 99]⟩ : ByteArray).size = 5 := rfl
      have s5 : ¬ (s0.size + 5 > 9223372036854775807) := by omega
      clear hcs hcc h hcv hB hm q0 q1
      have y0' : (wr.alloc (.cells #[.int .i64 (m : Int), .bool ds] 70)).cell? ⟨b2, o2 + m * 3, none⟩ = some (.string s0) := by rw [World.cell?_alloc_lt _ _ _ hb2]; exact y0
      cases ds with
      | true =>
        have hpt : Hid (partT col f k = s0 ++ (⟨#[32, 100, 101, 115, 99]⟩ : ByteArray)) := HPT.out
        rw [hpt.out] at HN
        clear HPT hpt
        have hb3 : Below wr.heap.size wr ((wr.alloc (.cells #[.int .i64 (m : Int), .bool true] 70)).alloc (.cells #[.string (s0 ++ (⟨#[32, 100, 101, 115, 99]⟩ : ByteArray))] 9)) := ((Below.refl _ _).alloc (Nat.le_refl _) _).alloc (by simp) _
        have hO2 := own_belowG hO hb3
        have hcl : ∀ j u, [Value.string (s0 ++ (⟨#[32, 100, 101, 115, 99]⟩ : ByteArray))][j]? = some u → ((wr.alloc (.cells #[.int .i64 (m : Int), .bool true] 70)).alloc (.cells #[.string (s0 ++ (⟨#[32, 100, 101, 115, 99]⟩ : ByteArray))] 9)).cell? ((⟨wr.heap.size + 1, 0, none⟩ : Addr).add j) = some u := by
          intro j u hj
          match j, hj with
          | 0, hj => simp at hj; subst hj; simp [Addr.add]
        have HBB : Hid (Below wr.heap.size wr ((wr.alloc (.cells #[.int .i64 (m : Int), .bool true] 70)).alloc (.cells #[.string (s0 ++ (⟨#[32, 100, 101, 115, 99]⟩ : ByteArray))] 9))) := hb3
        have HOW := own_ge9 hO
        clear hb3
        go_wp2_with (at_builtin; refine wpList_append_own _ rfl (.tmp 26) (.tmp 28) 61 rfl w.heap.size 9 i0 (.string ⟨#[]⟩) 1 16 Tryz.underlying61 hi hz0 hz1 hz2 rfl (by decide) _ _ _ rfl hO2 ⟨wr.heap.size + 1, 0, none⟩ 1 1 [.string (s0 ++ (⟨#[32, 100, 101, 115, 99]⟩ : ByteArray))] rfl rfl hcl (by intro u hu; simp at hu; subst hu; rfl) (by unfold maxLen; omega) (by omega) (by simp; omega) ?_)
        intro v5 w2 hown5 hgr hnil
        obtain ⟨g', cap', rfl⟩ := own_succ9 hown5
        have HR : Hid (w2.ownsRow w.heap.size 9 1 (.slice (some ⟨g', 0, none⟩) (k + 1) cap') (k + 1) (rowG (encS (partT col f)) (k + 1)) ∧ Below w.heap.size w w2) := by
          refine ⟨?_, ?_⟩
          · rw [HN.out]; exact hown5
          · exact (HB.out.trans (HBB.out.mono hsz)).grown hgr (by simp; omega) HOW
        clear hown5 hgr hnil hO hO2 hcl HOW y0 y0' x0 x1
        go_wp2
        go_roundg (n - (k + 1))
        case measure => omega
        case rel => exact ⟨k + 1, by omega, rfl, by go_num, ⟨_, _, rfl⟩, HR.out.1, HR.out.2⟩
      | false =>
        have hpt : Hid (partT col f k = s0) := HPT.out
        rw [hpt.out] at HN
        clear HPT hpt
        have hb3 : Below wr.heap.size wr ((wr.alloc (.cells #[.int .i64 (m : Int), .bool false] 70)).alloc (.cells #[.string (s0)] 9)) := ((Below.refl _ _).alloc (Nat.le_refl _) _).alloc (by simp) _
        have hO2 := own_belowG hO hb3
        have hcl : ∀ j u, [Value.string (s0)][j]? = some u → ((wr.alloc (.cells #[.int .i64 (m : Int), .bool false] 70)).alloc (.cells #[.string (s0)] 9)).cell? ((⟨wr.heap.size + 1, 0, none⟩ : Addr).add j) = some u := by
          intro j u hj
          match j, hj with
          | 0, hj => simp at hj; subst hj; simp [Addr.add]
        have HBB : Hid (Below wr.heap.size wr ((wr.alloc (.cells #[.int .i64 (m : Int), .bool false] 70)).alloc (.cells #[.string (s0)] 9))) := hb3
        have HOW := own_ge9 hO
        clear hb3
        go_wp2_with (at_builtin; refine wpList_append_own _ rfl (.tmp 26) (.tmp 28) 61 rfl w.heap.size 9 i0 (.string ⟨#[]⟩) 1 16 Tryz.underlying61 hi hz0 hz1 hz2 rfl (by decide) _ _ _ rfl hO2 ⟨wr.heap.size + 1, 0, none⟩ 1 1 [.string (s0)] rfl rfl hcl (by intro u hu; simp at hu; subst hu; rfl) (by unfold maxLen; omega) (by omega) (by simp; omega) ?_)
        intro v5 w2 hown5 hgr hnil
        obtain ⟨g', cap', rfl⟩ := own_succ9 hown5
        have HR : Hid (w2.ownsRow w.heap.size 9 1 (.slice (some ⟨g', 0, none⟩) (k + 1) cap') (k + 1) (rowG (encS (partT col f)) (k + 1)) ∧ Below w.heap.size w w2) := by
          refine ⟨?_, ?_⟩
          · rw [HN.out]; exact hown5
          · exact (HB.out.trans (HBB.out.mono hsz)).grown hgr (by simp; omega) HOW
        clear hown5 hgr hnil hO hO2 hcl HOW y0 y0' x0 x1
        go_wp2
        go_roundg (n - (k + 1))
        case measure => omega
        case rel => exact ⟨k + 1, by omega, rfl, by go_num, ⟨_, _, rfl⟩, HR.out.1, HR.out.2⟩
    · have hkz : ¬ (k : Int) < (n : Int) := by omega
      obtain rfl : k = n := by omega
      have hV := sview_of_row hO
      obtain ⟨b1, o1, eb, hb1, hcs⟩ := hV.cells (by omega)
      cases eb
      have hJL : (Lib.join (((List.range k).map (partT col f)).map (·.data.toList)) (⟨#[44, 32]⟩ : ByteArray).data.toList).length ≤ 2097168 := by
        have : z.size = (Lib.join (((List.range k).map (partT col f)).map (·.data.toList)) (⟨#[44, 32]⟩ : ByteArray).data.toList).length + 2 := by
          rw [HE.out, ByteArray.size_append]
          show (_ : List UInt8).toArray.size + 2 = _
          rw [List.size_toArray]
        omega
      have hJ := Tryz.strings_Join sa 0 sc ((List.range k).map (partT col f)) ⟨#[44, 32]⟩ wr (fun j x hj => by
        have hj' : j < k := by
          have := (List.getElem?_eq_some_iff.1 hj).1
          simpa using this
        have e : x = partT col f j := by simpa [hj'] using hj.symm
        rw [e]
        exact hcs j hj') hb1 (by simp; omega) (by simpa using hV.le) (by omega)
      rw [List.length_map, List.length_range] at hJ
      have HB : Hid (Below w.heap.size w wr) := hB
      have hjs : (⟨(Lib.join (((List.range k).map (partT col f)).map (·.data.toList)) (⟨#[44, 32]⟩ : ByteArray).data.toList).toArray⟩ : ByteArray).size ≤ 2097168 := by
        show (_ : List UInt8).toArray.size ≤ _
        rw [List.size_toArray]; exact hJL
      have hsz := hB.size
      obtain ⟨J, hJJ⟩ : ∃ J, Hid ((⟨(Lib.join (((List.range k).map (partT col f)).map (·.data.toList)) (⟨#[44, 32]⟩ : ByteArray).data.toList).toArray⟩ : ByteArray) = J) := ⟨_, rfl⟩
      rw [hJJ.out] at hJ HE hjs
      have e2 : (⟨#[59, 32]⟩ : ByteArray).size = 2 := rfl
      have s2 : ¬ (J.size + 2 > 9223372036854775807) := by omega
      clear h hcv hO hV hcs hB hJL hJJ
      go_wp2_with fail
      refine hJ.mono ?_
      rintro e w2 ⟨rfl, hb2⟩
      have HR : Hid (Below w.heap.size w w2) := HB.out.trans (hb2.mono hsz)
      clear hJ hb2
      go_wp2
      go_ret
      exact ⟨by rw [HE.out]; rfl, HR.out⟩
end Go.Proofs.YtmibpdnlphdoaaaGreatDoor

/-
  The program's indexText.
-/
namespace Go.Proofs.YtmibpdnlphdoaaaGreatDoor
open Go.RowKit
set_option maxRecDepth 4000

/-- An index's text. -/
def idxE (col : Nat → PCol) (x : PIdx) : ByteArray := (if x.uniq then (⟨#[117, 110, 105, 113, 117, 101, 32]⟩ : ByteArray) else (⟨#[105, 110, 100, 101, 120, 32]⟩ : ByteArray)) ++ x.name ++ (⟨#[32]⟩ : ByteArray) ++ partsE col x.n x.part
theorem idxT_idxE (D : PDef) (k : Nat) : idxT D (k + 1) = idxT D k ++ idxE D.col (D.idx k) := by
  rw [idxT]
  unfold idxE
  simp only [ByteArray.append_assoc]

set_option maxHeartbeats 4000000 in
theorem indexText_any (ac : Option Addr) (nc cc : Nat) (col : Nat → PCol) (x : PIdx) (a2 : Option Addr) (c2 : Nat) (w : World) (hcv : CView w ac nc cc col) (h : BView w a2 x.n c2 x.part) (h1 : 1 ≤ x.n) (h2 : x.n ≤ 2) (hnc : nc ≤ 1048576) (hin : ∀ i, i < x.n → 0 ≤ (x.part i).col ∧ (x.part i).col < nc) (hz : ∀ i, i < nc → (col i).name.size ≤ 1048576) (hxn : x.name.size ≤ 1048576) :
    Calls Tryz.prog 64 #[.slice ac nc cc, .agg #[.string x.name, .bool x.uniq, .slice a2 x.n c2]] w fun e w' => e = .returned (.string (idxE col x)) ∧ Below w.heap.size w w' := by
  have hP := fun W (hb : Below w.heap.size w W) => partsText_any ac nc cc col a2 x.n c2 x.part W (hcv.below hb) (h.below hb) h1 h2 hnc hin hz
  have hpz := partsE_size (B := 1048576) (col := col) (f := x.part) (n := x.n) (fun i hi => hz _ (by have := hin i hi; omega)) h2
  have HN : Hid (idxE col x = (if x.uniq then (⟨#[117, 110, 105, 113, 117, 101, 32]⟩ : ByteArray) else (⟨#[105, 110, 100, 101, 120, 32]⟩ : ByteArray)) ++ x.name ++ (⟨#[32]⟩ : ByteArray) ++ partsE col x.n x.part) := rfl
  clear hcv h h1 h2 hin hz
  obtain ⟨z, hzz⟩ : ∃ z, Hid (idxE col x = z) := ⟨_, rfl⟩
  rw [hzz.out] at HN ⊢
  clear hzz
  generalize partsE col x.n x.part = q at *
  obtain ⟨s0, u, n2, pp⟩ := x
  simp only at *
  have hb0 : Below w.heap.size w (w.alloc (.cells #[.string s0, .bool u, .slice a2 n2 c2] 73)) := (Below.refl _ _).alloc (Nat.le_refl _) _
  have hs0 : w.heap.size < (w.alloc (.cells #[.string s0, .bool u, .slice a2 n2 c2] 73)).heap.size := by simp
  have x0 : (w.alloc (.cells #[.string s0, .bool u, .slice a2 n2 c2] 73)).cell? ⟨w.heap.size, 0, none⟩ = some (.string s0) := by simp
  have x1 : (w.alloc (.cells #[.string s0, .bool u, .slice a2 n2 c2] 73)).cell? ⟨w.heap.size, 1, none⟩ = some (.bool u) := by simp [go_sem]
  have x2 : (w.alloc (.cells #[.string s0, .bool u, .slice a2 n2 c2] 73)).cell? ⟨w.heap.size, 2, none⟩ = some (.slice a2 n2 c2) := by simp [go_sem]
  have k7 : (⟨#[117, 110, 105, 113, 117, 101, 32]⟩ : ByteArray).size = 7 := rfl
  have k6 : (⟨#[105, 110, 100, 101, 120, 32]⟩ : ByteArray).size = 6 := rfl
  have k1 : (⟨#[32]⟩ : ByteArray).size = 1 := rfl
  cases u with
  | true =>
    have HZ : Hid (z = (⟨#[117, 110, 105, 113, 117, 101, 32]⟩ : ByteArray) ++ s0 ++ (⟨#[32]⟩ : ByteArray) ++ q) := HN.out
    have t1 : ¬ (7 + s0.size > 9223372036854775807) := by omega
    have t2 : ((⟨#[117, 110, 105, 113, 117, 101, 32]⟩ : ByteArray) ++ s0).size = 7 + s0.size := by rw [ByteArray.size_append]; rfl
    have t3 : ¬ (7 + s0.size + 1 > 9223372036854775807) := by omega
    have t4 : ((⟨#[117, 110, 105, 113, 117, 101, 32]⟩ : ByteArray) ++ s0 ++ (⟨#[32]⟩ : ByteArray)).size = 7 + s0.size + 1 := by rw [ByteArray.size_append, t2]; rfl
    have t5 : ¬ (7 + s0.size + 1 + q.size > 9223372036854775807) := by omega
    clear HN
    go_enter Tryz.func64, Tryz.ntmps64
    go_wp2_with fail
    obtain ⟨w0, hw0⟩ : ∃ w0, Hid (w0 = w.alloc (.cells #[.string s0, .bool true, .slice a2 n2 c2] 73)) := ⟨_, rfl⟩
    rw [← hw0.out] at hb0 hs0 x0 x1 x2 ⊢
    have HWK : Hid (∀ W, Below w0.heap.size w0 W → W.cell? ⟨w.heap.size, 0, none⟩ = some (.string s0) ∧ W.cell? ⟨w.heap.size, 1, none⟩ = some (.bool true) ∧ W.cell? ⟨w.heap.size, 2, none⟩ = some (.slice a2 n2 c2)) := by
      intro W hb
      refine ⟨?_, ?_, ?_⟩ <;> (rw [hb.cell hs0]; assumption)
    have HP : Hid (∀ W, Below w0.heap.size w0 W → Below w.heap.size w W) := fun W hb => hb0.trans (hb.mono hb0.size)
    clear hb0
    go_region_held3 (fun WW => WW.cell? ⟨w.heap.size, 0, none⟩ = some (.string s0) ∧ WW.cell? ⟨w.heap.size, 1, none⟩ = some (.bool true) ∧ WW.cell? ⟨w.heap.size, 2, none⟩ = some (.slice a2 n2 c2)) (first | assumption | go_keep) (first | (go_at_call 63; refine (hP _ (HP.out _ (by repeat (first | exact Below.refl _ _ | refine Below.drew ?_)))).mono ?_; rintro e w2 ⟨rfl, hB2⟩; have hcells : w2.cell? ⟨w.heap.size, 0, none⟩ = some (.string s0) ∧ w2.cell? ⟨w.heap.size, 1, none⟩ = some (.bool true) ∧ w2.cell? ⟨w.heap.size, 2, none⟩ = some (.slice a2 n2 c2) := HWK.out _ (Below.trans (by repeat (first | exact Below.refl _ _ | refine Below.drew ?_)) hB2)))
    all_goals
      have HR : Hid (Below w.heap.size w w2) := HP.out _ (Below.trans (by repeat (first | exact Below.refl _ _ | refine Below.drew ?_)) hB2)
      clear hcells HWK HP hP hB2
      go_wp2
      go_ret
      exact ⟨by rw [HZ.out]; rfl, by first | exact HR.out | exact HR.out.drew⟩
  | false =>
    have HZ : Hid (z = (⟨#[105, 110, 100, 101, 120, 32]⟩ : ByteArray) ++ s0 ++ (⟨#[32]⟩ : ByteArray) ++ q) := HN.out
    have t1 : ¬ (6 + s0.size > 9223372036854775807) := by omega
    have t2 : ((⟨#[105, 110, 100, 101, 120, 32]⟩ : ByteArray) ++ s0).size = 6 + s0.size := by rw [ByteArray.size_append]; rfl
    have t3 : ¬ (6 + s0.size + 1 > 9223372036854775807) := by omega
    have t4 : ((⟨#[105, 110, 100, 101, 120, 32]⟩ : ByteArray) ++ s0 ++ (⟨#[32]⟩ : ByteArray)).size = 6 + s0.size + 1 := by rw [ByteArray.size_append, t2]; rfl
    have t5 : ¬ (6 + s0.size + 1 + q.size > 9223372036854775807) := by omega
    clear HN
    go_enter Tryz.func64, Tryz.ntmps64
    go_wp2_with fail
    obtain ⟨w0, hw0⟩ : ∃ w0, Hid (w0 = w.alloc (.cells #[.string s0, .bool false, .slice a2 n2 c2] 73)) := ⟨_, rfl⟩
    rw [← hw0.out] at hb0 hs0 x0 x1 x2 ⊢
    have HWK : Hid (∀ W, Below w0.heap.size w0 W → W.cell? ⟨w.heap.size, 0, none⟩ = some (.string s0) ∧ W.cell? ⟨w.heap.size, 1, none⟩ = some (.bool false) ∧ W.cell? ⟨w.heap.size, 2, none⟩ = some (.slice a2 n2 c2)) := by
      intro W hb
      refine ⟨?_, ?_, ?_⟩ <;> (rw [hb.cell hs0]; assumption)
    have HP : Hid (∀ W, Below w0.heap.size w0 W → Below w.heap.size w W) := fun W hb => hb0.trans (hb.mono hb0.size)
    clear hb0
    go_region_held3 (fun WW => WW.cell? ⟨w.heap.size, 0, none⟩ = some (.string s0) ∧ WW.cell? ⟨w.heap.size, 1, none⟩ = some (.bool false) ∧ WW.cell? ⟨w.heap.size, 2, none⟩ = some (.slice a2 n2 c2)) (first | assumption | go_keep) (first | (go_at_call 63; refine (hP _ (HP.out _ (by repeat (first | exact Below.refl _ _ | refine Below.drew ?_)))).mono ?_; rintro e w2 ⟨rfl, hB2⟩; have hcells : w2.cell? ⟨w.heap.size, 0, none⟩ = some (.string s0) ∧ w2.cell? ⟨w.heap.size, 1, none⟩ = some (.bool false) ∧ w2.cell? ⟨w.heap.size, 2, none⟩ = some (.slice a2 n2 c2) := HWK.out _ (Below.trans (by repeat (first | exact Below.refl _ _ | refine Below.drew ?_)) hB2)))
    all_goals
      have HR : Hid (Below w.heap.size w w2) := HP.out _ (Below.trans (by repeat (first | exact Below.refl _ _ | refine Below.drew ?_)) hB2)
      clear hcells HWK HP hP hB2
      go_wp2
      go_ret
      exact ⟨by rw [HZ.out]; rfl, by first | exact HR.out | exact HR.out.drew⟩
end Go.Proofs.YtmibpdnlphdoaaaGreatDoor

