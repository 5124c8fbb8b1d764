/-
  LawBest
-/
import Derived.Test.YtdhfbblameiloaaBE20
import Derived.Test.YtdhfbblameiloaaBE22
import Derived.Test.YtdhfbblameiloaaBE23
import Derived.Test.YtdhfbblameiloaaBE25
import Derived.Deep.RegionHeld3
import Derived.Deep.LoopGhost
/-
  The law FnBest.
-/
namespace Go.Proofs.Ytdhfbblameiloaa
open Go.RowKit
set_option maxRecDepth 4000

theorem secsField15 (a b c : Option Addr) (n1 m1 n2 m2 n3 m3 : Nat) (x : Int) (d : Bool) (W : World) : (Instr.field 32 (.agg #[.slice a n1 m1, .slice b n2 m2, .int .i64 x, .slice c n3 m3, .bool d]) 0).run Try.prog W = .ok (.slice a n1 m1) W := by kernel_rfl
theorem eqM2_same (g r : Int) (W : World) : (binOp .eql 64 (.agg #[.int .i64 g, .int .i64 r]) (.agg #[.int .i64 g, .int .i64 r])).run Try.prog W = .ok (.bool true) W := by
  rw [eqM2]; simp
theorem drawFormat_any (ao : Option Addr) (n cap : Nat) (f : Nat → Int) (w : World) (hn : n ≤ 1048576) (hv : View w ao n cap f) :
    Calls Try.prog 48 #[.slice ao n cap] w fun e w' => ∃ (z : Int) (l : List PFault) (va : Option Addr) (vc : Nat), e = .returned (.tuple #[.int .i64 z, .slice va l.length vc]) ∧ FView w' va vc l ∧ l.length ≤ 4 ∧ (3 ≤ z ∧ z ≤ 49) ∧ Below w.heap.size w w' := by
  have hD := drawDiskNew_any ao n cap f w hn hv
  go_enter Try.func48, Try.ntmps48
  go_wp2_with fail
  refine hD.mono ?_
  rintro e w1 ⟨z, l, va, vc, rfl, h⟩
  have H : Hid _ := h
  clear h hD hv
  go_wp2
  go_ret2
  exact ⟨z, l, va, vc, rfl, H.out⟩
set_option maxHeartbeats 8000000 in
theorem lawBest (ao : Option Addr) (n cap : Nat) (f : Nat → Int) (w : World) (hv : View w ao n cap f) (hn63 : n ≤ 9223372036854775807) :
    Calls Try.prog 8 #[.slice ao n cap] w fun e w' => e = .returned (.bool true) ∧ Below w.heap.size w w' := by
  by_cases hbig : 1048576 < n
  · have hd : decide ((1048576 : Int) < (n : Int)) = true := by simp; omega
    go_enter Try.func8, Try.ntmps8
    go_wp2_with fail
    refine (big_any ao n cap w hn63).mono ?_
    rw [hd]
    rintro e _ ⟨rfl, rfl⟩
    go_wp2
    go_ret
    exact ⟨rfl, Below.refl _ _⟩
  have hd : decide ((1048576 : Int) < (n : Int)) = false := by simp; omega
  have hn : n ≤ 1048576 := by omega
  clear hbig
  go_enter Try.func8, Try.ntmps8
  go_wp2_with fail
  refine (big_any ao n cap w hn63).mono ?_
  rw [hd]
  rintro e _ ⟨rfl, rfl⟩
  clear hd
  go_wp2_with fail
  have hDr := drawBestMeta_any ao n cap f w hn hv
  unfold DrawsD at hDr
  refine hDr.mono ?_
  rintro e w1 ⟨dv, D, rfl, hk, hfD, -, hB⟩
  clear hDr
  have hy := readB_bytes hk
  obtain ⟨dsa, dsc, dca, dcc, dfa, dfc, rfl, -, -, -⟩ := hk.is
  have hbX : Below w1.heap.size w1 (w1.alloc (.cells #[.slice dsa D.secs.length dsc, .slice dca D.cache.length dcc, .int .i64 D.ops, .slice dfa D.faults.length dfc, .bool D.down] 32)) := (Below.refl _ _).alloc (Nat.le_refl _) _
  have hX3 := VN.new w1 32 [.slice dsa D.secs.length dsc, .slice dca D.cache.length dcc, .int .i64 D.ops, .slice dfa D.faults.length dfc, .bool D.down]
  replace hk := hk.below hbX
  replace hB := hB.trans (hbX.mono hB.size)
  clear hbX
  obtain ⟨W1, hW1⟩ : ∃ x, Hid ((w1.alloc (.cells #[.slice dsa D.secs.length dsc, .slice dca D.cache.length dcc, .int .i64 D.ops, .slice dfa D.faults.length dfc, .bool D.down] 32)) = x) := ⟨_, rfl⟩
  obtain ⟨X3, hX3e⟩ : ∃ x, Hid (w1.heap.size = x) := ⟨_, rfl⟩
  rw [hW1.out] at hX3 hk hB
  rw [hX3e.out] at hX3
  obtain ⟨g, r, ok, hP⟩ : ∃ g r ok, Hid (bestP D 2 = (g, r, ok)) := ⟨_, _, _, rfl⟩
  have hI := implBest_any _ D W1 hk hfD hy
  rw [hP.out] at hI
  have s0 : W1.cell? ⟨w1.heap.size, 0, none⟩ = some (.slice dsa D.secs.length dsc) := by rw [hX3e.out]; exact hX3.cell 0
  have s1 : W1.cell? ⟨w1.heap.size, 1, none⟩ = some (.slice dca D.cache.length dcc) := by rw [hX3e.out]; exact hX3.cell 1
  have s2 : W1.cell? ⟨w1.heap.size, 2, none⟩ = some (.int .i64 D.ops) := by rw [hX3e.out]; exact hX3.cell 2
  have s3 : W1.cell? ⟨w1.heap.size, 3, none⟩ = some (.slice dfa D.faults.length dfc) := by rw [hX3e.out]; exact hX3.cell 3
  have s4 : W1.cell? ⟨w1.heap.size, 4, none⟩ = some (.bool D.down) := by rw [hX3e.out]; exact hX3.cell 4
  go_wp2_with (rw [hW1.out])
  rw [hX3e.out]
  clear s0 s1 s2 s3 s4
  refine hI.mono ?_
  rintro e w2 ⟨rfl, hb2⟩
  clear hI hW1 hX3e
  replace hk := hk.below hb2
  replace hB := hB.trans (hb2.mono hB.size)
  replace hX3 := hX3.below hb2
  clear hb2
  have hbX : Below w2.heap.size w2 (w2.alloc (.cells #[.int .i64 g, .int .i64 r] 64)) := (Below.refl _ _).alloc (Nat.le_refl _) _
  have hM := VN.new w2 64 [.int .i64 g, .int .i64 r]
  replace hk := hk.below hbX
  replace hB := hB.trans (hbX.mono hB.size)
  replace hX3 := hX3.below hbX
  clear hbX
  obtain ⟨W2, hW2⟩ : ∃ x, Hid ((w2.alloc (.cells #[.int .i64 g, .int .i64 r] 64)) = x) := ⟨_, rfl⟩
  obtain ⟨M, hMe⟩ : ∃ x, Hid (w2.heap.size = x) := ⟨_, rfl⟩
  rw [hW2.out] at hM hk hB hX3
  rw [hMe.out] at hM
  have HY : Hid (∀ n : Int, ∀ i, i < (readB D n).length → 0 ≤ bf (readB D n) i ∧ bf (readB D n) i ≤ 255) := hy
  have H0 : Hid _ := And.intro hk (And.intro hX3 (And.intro hM hB))
  clear hy hk hX3 hM hB
  go_wp2_with (rw [hW2.out])
  rw [hMe.out]
  clear hW2 hMe
  go_loopg [6] 2 (fun q i wr => ∃ k : Nat, k ≤ 2 ∧ q = 2 - k ∧ i = .int .i64 k ∧ KView wr (.agg #[.slice dsa D.secs.length dsc, .slice dca D.cache.length dcc, .int .i64 D.ops, .slice dfa D.faults.length dfc, .bool D.down]) D ∧ VN wr X3 32 [.slice dsa D.secs.length dsc, .slice dca D.cache.length dcc, .int .i64 D.ops, .slice dfa D.faults.length dfc, .bool D.down] ∧ VN wr M 64 [.int .i64 g, .int .i64 r] ∧ Below w.heap.size w wr)
  case atStart => exact ⟨0, by omega, rfl, rfl, H0.out⟩
  case round =>
    clear H0
    obtain ⟨k, hk2, rfl, rfl, hk, hX3, hM, hB⟩ := hrel
    have s0 : wr.cell? ⟨X3, 0, none⟩ = some (.slice dsa D.secs.length dsc) := hX3.cell 0
    have s1 : wr.cell? ⟨X3, 1, none⟩ = some (.slice dca D.cache.length dcc) := hX3.cell 1
    have s2 : wr.cell? ⟨X3, 2, none⟩ = some (.int .i64 D.ops) := hX3.cell 2
    have s3 : wr.cell? ⟨X3, 3, none⟩ = some (.slice dfa D.faults.length dfc) := hX3.cell 3
    have s4 : wr.cell? ⟨X3, 4, none⟩ = some (.bool D.down) := hX3.cell 4
    by_cases hlt : k < 2
    · have hkz : (k : Int) < 2 := by omega
      have hread := (implReadSec_any _ D k wr hk hfD).mono (fun _ _ h => h.bto)
      have hyl := readB_len hfD k
      obtain ⟨hh, hhh⟩ := hidEx (hasB D k)
      rw [hhh.out] at hread
      go_wp2_with fail
      refine hread.mono ?_
      rintro e w3 ⟨v3, rfl, hoz, hb3⟩
      clear hread s0 s1 s2 s3 s4
      replace hk := hk.below hb3
      replace hX3 := hX3.below hb3
      replace hM := hM.below hb3
      replace hB := hB.trans (hb3.mono hB.size)
      clear hb3
      obtain ⟨a, c, e3, h1, h2, h3, h4⟩ := hoz.is
      obtain ⟨a', c', e4, hvv⟩ := oz_view hoz
      subst e3
      cases e4
      have hF : ∀ i, i < (readB D k).length → 0 ≤ bf (readB D k) i ∧ bf (readB D k) i ≤ 255 := bytes_of_list h3
      have hcs := getMe_cases hF
      have hG := implGetMeta_any a (readB D k).length c (bf (readB D k)) w3 (fun h4' => by
        rcases h4 with h4 | ⟨g, e, -, -⟩
        · rw [h4] at h4'; simp at h4'
        · exact ⟨g, e⟩) hvv hyl
      obtain ⟨gx, rx, is, hM2⟩ : ∃ g r is, Hid (getMe (readB D k).length (bf (readB D k)) = (g, r, is)) := ⟨_, _, _, rfl⟩
      have HN := fun h1 h2 => best_newest hlt hM2.out h1 h2
      rw [hM2.out] at hG hcs
      rw [hP.out] at HN
      dsimp only at HN hcs
      have hg0 : 0 ≤ gx := by
        rcases hcs with h | h
        · exact h.2.1
        · have := congrArg (·.1) h; dsimp only at this; omega
      obtain ⟨N3, hN3⟩ := hidEx (readB D k).length
      rw [hN3.out] at hG ⊢
      have HN2 : Hid (is = true → gx % 2 = (k : Int) → ok = true ∧ ¬ g < gx) := HN
      clear hoz h1 h2 h3 h4 hvv hF hM2 hcs HN hyl hN3 hlt
      go_wp2_with fail
      refine hG.mono ?_
      rintro e w4 ⟨rfl, hb4⟩
      clear hG
      replace hk := hk.below hb4
      replace hX3 := hX3.below hb4
      replace hM := hM.below hb4
      replace hB := hB.trans (hb4.mono hB.size)
      clear hb4
      have hbX : Below w4.heap.size w4 (w4.alloc (.cells #[.int .i64 gx, .int .i64 rx] 64)) := (Below.refl _ _).alloc (Nat.le_refl _) _
      have hXx := VN.new w4 64 [.int .i64 gx, .int .i64 rx]
      replace hk := hk.below hbX
      replace hX3 := hX3.below hbX
      replace hM := hM.below hbX
      replace hB := hB.trans (hbX.mono hB.size)
      clear hbX
      obtain ⟨W4, hW4⟩ : ∃ x, Hid ((w4.alloc (.cells #[.int .i64 gx, .int .i64 rx] 64)) = x) := ⟨_, rfl⟩
      obtain ⟨Xx, hXxe⟩ : ∃ x, Hid (w4.heap.size = x) := ⟨_, rfl⟩
      rw [hW4.out] at hXx hk hX3 hM hB
      rw [hXxe.out] at hXx
      have q0 : W4.cell? ⟨w4.heap.size, 0, none⟩ = some (.int .i64 gx) := by rw [hXxe.out]; exact hXx.cell 0
      have p0 : W4.cell? ⟨M, 0, none⟩ = some (.int .i64 g) := hM.cell 0
      have H4 : Hid _ := And.intro hk (And.intro hX3 (And.intro hM hB))
      clear hk hX3 hM hB hXx
      have hgo : ∃ bb : Bool, (gx % 2 == (k : Int)) = bb := ⟨_, rfl⟩
      obtain ⟨bb, hbb⟩ := hgo
      cases is with
      | false =>
        go_wp2_with (rw [hW4.out])
        go_roundg (2 - (k + 1))
        case measure => omega
        case rel => exact ⟨k + 1, by omega, rfl, by go_num, H4.out⟩
      | true =>
        cases bb with
        | false =>
          go_wp2_with (rw [hW4.out])
          go_roundg (2 - (k + 1))
          case measure => omega
          case rel => exact ⟨k + 1, by omega, rfl, by go_num, H4.out⟩
        | true =>
          obtain ⟨hok, hng⟩ := HN2.out rfl (beq_iff_eq.1 hbb)
          clear HN2
          have HP : Hid (bestP D 2 = (g, r, ok)) := hP
          clear hP
          subst hok
          go_wp2_with (rw [hW4.out])
          go_roundg (2 - (k + 1))
          case measure => omega
          case rel => exact ⟨k + 1, by omega, rfl, by go_num, H4.out⟩
    · have hkz : ¬ (k : Int) < 2 := by omega
      clear s0 s1 s2 s3 s4 hlt hk2
      go_wp2_with fail
      have hCC := drawFormat_any ao n cap f wr hn (hv.below hB)
      refine hCC.mono ?_
      rintro e w5 ⟨z, l, va, vc, rfl, hfv, hl4, -, hb5⟩
      clear hCC hkz
      replace hk := hk.below hb5
      replace hX3 := hX3.below hb5
      replace hM := hM.below hb5
      replace hB := hB.trans (hb5.mono hB.size)
      clear hb5
      have hfF := fmtD_fine z l (by omega)
      have hbn := best_new z l
      obtain ⟨F, hFe⟩ := hidEx (fmtD z l)
      have hCC := implFormat_any z va vc l w5 hfv (by omega)
      rw [hFe.out] at hCC hfF hbn
      go_wp2_with fail
      refine hCC.mono ?_
      rintro e w6 ⟨v6, rfl, hO6, hb6⟩
      clear hCC
      replace hk := hk.below hb6
      replace hX3 := hX3.below hb6
      replace hM := hM.below hb6
      replace hB := hB.trans (hb6.mono hB.size)
      replace hfv := fview_below hfv hb6
      clear hb6
      have hkf := hO6.view
      clear hO6
      have hyF := readB_bytes hkf
      obtain ⟨fsa, fsc, fca, fcc, ffa, ffc, rfl, -, -, -⟩ := hkf.is
      have hbX : Below w6.heap.size w6 (w6.alloc (.cells #[.slice fsa F.secs.length fsc, .slice fca F.cache.length fcc, .int .i64 F.ops, .slice ffa F.faults.length ffc, .bool F.down] 32)) := (Below.refl _ _).alloc (Nat.le_refl _) _
      have hX13 := VN.new w6 32 [.slice fsa F.secs.length fsc, .slice fca F.cache.length fcc, .int .i64 F.ops, .slice ffa F.faults.length ffc, .bool F.down]
      replace hk := hk.below hbX
      replace hX3 := hX3.below hbX
      replace hM := hM.below hbX
      replace hB := hB.trans (hbX.mono hB.size)
      replace hfv := fview_below hfv hbX
      replace hkf := hkf.below hbX
      clear hbX
      obtain ⟨W6, hW6⟩ : ∃ x, Hid ((w6.alloc (.cells #[.slice fsa F.secs.length fsc, .slice fca F.cache.length fcc, .int .i64 F.ops, .slice ffa F.faults.length ffc, .bool F.down] 32)) = x) := ⟨_, rfl⟩
      obtain ⟨X13, hX13e⟩ : ∃ x, Hid (w6.heap.size = x) := ⟨_, rfl⟩
      rw [hW6.out] at hX13 hk hX3 hM hB hfv hkf
      rw [hX13e.out] at hX13
      have hI := implBest_any _ F W6 hkf hfF hyF
      rw [hbn] at hI
      obtain ⟨fi, hfi⟩ := hidEx (decide (0 < F.secs.length))
      rw [hfi.out] at hI
      have s0 : W6.cell? ⟨w6.heap.size, 0, none⟩ = some (.slice fsa F.secs.length fsc) := by rw [hX13e.out]; exact hX13.cell 0
      have s1 : W6.cell? ⟨w6.heap.size, 1, none⟩ = some (.slice fca F.cache.length fcc) := by rw [hX13e.out]; exact hX13.cell 1
      have s2 : W6.cell? ⟨w6.heap.size, 2, none⟩ = some (.int .i64 F.ops) := by rw [hX13e.out]; exact hX13.cell 2
      have s3 : W6.cell? ⟨w6.heap.size, 3, none⟩ = some (.slice ffa F.faults.length ffc) := by rw [hX13e.out]; exact hX13.cell 3
      have s4 : W6.cell? ⟨w6.heap.size, 4, none⟩ = some (.bool F.down) := by rw [hX13e.out]; exact hX13.cell 4
      go_wp2_with (rw [hW6.out])
      rw [hX13e.out]
      clear s0 s1 s2 s3 s4
      refine hI.mono ?_
      rintro e w7 ⟨rfl, hb7⟩
      clear hI hW6 hX13e hyF hbn
      replace hk := hk.below hb7
      replace hX3 := hX3.below hb7
      replace hM := hM.below hb7
      replace hB := hB.trans (hb7.mono hB.size)
      replace hfv := fview_below hfv hb7
      replace hkf := hkf.below hb7
      replace hX13 := hX13.below hb7
      clear hb7
      have hbX : Below w7.heap.size w7 (w7.alloc (.cells #[.int .i64 0, .int .i64 0] 64)) := (Below.refl _ _).alloc (Nat.le_refl _) _
      have hZ := VN.new w7 64 [.int .i64 0, .int .i64 0]
      replace hk := hk.below hbX
      replace hX3 := hX3.below hbX
      replace hM := hM.below hbX
      replace hB := hB.trans (hbX.mono hB.size)
      replace hfv := fview_below hfv hbX
      replace hkf := hkf.below hbX
      replace hX13 := hX13.below hbX
      clear hbX
      obtain ⟨W7, hW7⟩ : ∃ x, Hid ((w7.alloc (.cells #[.int .i64 0, .int .i64 0] 64)) = x) := ⟨_, rfl⟩
      obtain ⟨Z, hZe⟩ : ∃ x, Hid (w7.heap.size = x) := ⟨_, rfl⟩
      rw [hW7.out] at hZ hk hX3 hM hB hfv hkf hX13
      rw [hZe.out] at hZ
      have hI := specBest_any _ D W7 hk hfD HY.out
      rw [hP.out] at hI
      have s0 : (w7.alloc (.cells #[.int .i64 0, .int .i64 0] 64)).cell? ⟨X3, 0, none⟩ = some (.slice dsa D.secs.length dsc) := by rw [hW7.out]; exact hX3.cell 0
      have s1 : (w7.alloc (.cells #[.int .i64 0, .int .i64 0] 64)).cell? ⟨X3, 1, none⟩ = some (.slice dca D.cache.length dcc) := by rw [hW7.out]; exact hX3.cell 1
      have s2 : (w7.alloc (.cells #[.int .i64 0, .int .i64 0] 64)).cell? ⟨X3, 2, none⟩ = some (.int .i64 D.ops) := by rw [hW7.out]; exact hX3.cell 2
      have s3 : (w7.alloc (.cells #[.int .i64 0, .int .i64 0] 64)).cell? ⟨X3, 3, none⟩ = some (.slice dfa D.faults.length dfc) := by rw [hW7.out]; exact hX3.cell 3
      have s4 : (w7.alloc (.cells #[.int .i64 0, .int .i64 0] 64)).cell? ⟨X3, 4, none⟩ = some (.bool D.down) := by rw [hW7.out]; exact hX3.cell 4
      go_wp2_with fail
      rw [hZe.out, hW7.out]
      clear s0 s1 s2 s3 s4
      refine hI.mono ?_
      rintro e w8 ⟨rfl, hb8⟩
      clear hI hW7 hZe HY
      replace hk := hk.below hb8
      replace hX3 := hX3.below hb8
      replace hM := hM.below hb8
      replace hB := hB.trans (hb8.mono hB.size)
      replace hfv := fview_below hfv hb8
      replace hkf := hkf.below hb8
      replace hX13 := hX13.below hb8
      replace hZ := hZ.below hb8
      clear hb8
      have hbX : Below w8.heap.size w8 (w8.alloc (.cells #[.int .i64 g, .int .i64 r] 64)) := (Below.refl _ _).alloc (Nat.le_refl _) _
      have hW := VN.new w8 64 [.int .i64 g, .int .i64 r]
      replace hk := hk.below hbX
      replace hX3 := hX3.below hbX
      replace hM := hM.below hbX
      replace hB := hB.trans (hbX.mono hB.size)
      replace hfv := fview_below hfv hbX
      replace hkf := hkf.below hbX
      replace hX13 := hX13.below hbX
      replace hZ := hZ.below hbX
      clear hbX
      obtain ⟨W8, hW8⟩ : ∃ x, Hid ((w8.alloc (.cells #[.int .i64 g, .int .i64 r] 64)) = x) := ⟨_, rfl⟩
      obtain ⟨Y, hYe⟩ : ∃ x, Hid (w8.heap.size = x) := ⟨_, rfl⟩
      rw [hW8.out] at hW hk hX3 hM hB hfv hkf hX13 hZ
      rw [hYe.out] at hW
      go_wp2_with (rw [hW8.out])
      rw [hYe.out]
      clear hW8 hYe hk hX3
      replace hM := hM.below (Below.refl _ _).drew
      replace hZ := hZ.below (Below.refl _ _).drew
      replace hW := hW.below (Below.refl _ _).drew
      replace hX13 := hX13.below (Below.refl _ _).drew
      replace hfv := fview_below hfv (Below.refl _ _).drew
      replace hB := hB.drew
      have hsf := secsField15
      have heq := eqM2_same g r
      have hkk : (ok == ok) = true := beq_self_eq_true _
      have hll : ((F.secs.length : Int) == (F.secs.length : Int)) = true := beq_self_eq_true _
      by_cases hpos : 0 < F.secs.length
      · have hfv2 : fi = true := by rw [← hfi.out]; simp [hpos]
        clear hfi
        subst hfv2
        have hpz : (0 : Int) < (F.secs.length : Int) := by omega
        have HPS : Hid (0 < F.secs.length) := hpos
        have hdz : decide (0 < F.secs.length) = true := by simp [hpos]
        clear hpos
        refine wp_region_held_drew (S := fun W => (W.cell? ⟨M, 0, none⟩ = some (.int .i64 g) ∧ W.cell? ⟨M, 1, none⟩ = some (.int .i64 r)) ∧ (W.cell? ⟨Y, 0, none⟩ = some (.int .i64 g) ∧ W.cell? ⟨Y, 1, none⟩ = some (.int .i64 r)) ∧ (W.cell? ⟨Z, 0, none⟩ = some (.int .i64 0) ∧ W.cell? ⟨Z, 1, none⟩ = some (.int .i64 0)) ∧ W.cell? ⟨X13, 0, none⟩ = some (.slice fsa F.secs.length fsc)) (by kernel_rfl) ⟨⟨hM.cell 0, hM.cell 1⟩, ⟨hW.cell 0, hW.cell 1⟩, ⟨hZ.cell 0, hZ.cell 1⟩, hX13.cell 0⟩ (fun hHeld => ?_)
        obtain ⟨wd, hwd⟩ := hidEx W8.drew
        rw [hwd.out] at hHeld hB hfv ⊢
        refine' wpAnyH_take (i := 0) (v := _) rfl (by kernel_rfl) (by kernel_rfl) (by kernel_rfl) (fun _ _ _ h => h) (Or.inl ⟨by kernel_rfl, ?hfbt1⟩) (by assumption) ?rfbt1
        case hfbt1 => intro W hW; obtain ⟨⟨c0, c1⟩, ⟨d0, d1⟩, ⟨y0, y1⟩, t0⟩ := hW; go_simp; all_goals with_reducible rfl
        change wpAnyH _ _ _ _ _ _ _ (Act.put _ (some 79) _) _
        simp only [Act.put, List.setIfInBounds_toArray, List.set_cons_zero, List.set_cons_succ]
        refine' wpAnyH_take (i := 1) (v := _) rfl (by kernel_rfl) (by kernel_rfl) (by kernel_rfl) (fun _ _ _ h => h) (Or.inl ⟨by kernel_rfl, ?hfbt2⟩) (by assumption) ?rfbt2
        case hfbt2 => intro W hW; obtain ⟨⟨c0, c1⟩, ⟨d0, d1⟩, ⟨y0, y1⟩, t0⟩ := hW; go_simp; all_goals with_reducible rfl
        change wpAnyH _ _ _ _ _ _ _ (Act.put _ (some 80) _) _
        simp only [Act.put, List.setIfInBounds_toArray, List.set_cons_zero, List.set_cons_succ]
        refine' wpAnyH_take (i := 2) (v := _) rfl (by kernel_rfl) (by kernel_rfl) (by kernel_rfl) (fun _ _ _ h => h) (Or.inl ⟨by kernel_rfl, ?hfbt3⟩) (by assumption) ?rfbt3
        case hfbt3 => intro W hW; obtain ⟨⟨c0, c1⟩, ⟨d0, d1⟩, ⟨y0, y1⟩, t0⟩ := hW; go_simp; all_goals with_reducible rfl
        change wpAnyH _ _ _ _ _ _ _ (Act.put _ (some 81) _) _
        simp only [Act.put, List.setIfInBounds_toArray, List.set_cons_zero, List.set_cons_succ]
        refine' wpAnyH_take (i := 3) (v := _) rfl (by kernel_rfl) (by kernel_rfl) (by kernel_rfl) (fun _ _ _ h => h) (Or.inl ⟨by kernel_rfl, ?hfbt4⟩) (by assumption) ?rfbt4
        case hfbt4 => intro W hW; obtain ⟨⟨c0, c1⟩, ⟨d0, d1⟩, ⟨y0, y1⟩, t0⟩ := hW; go_simp; all_goals with_reducible rfl
        change wpAnyH _ _ _ _ _ _ _ (Act.put _ (some 82) _) _
        simp only [Act.put, List.setIfInBounds_toArray, List.set_cons_zero, List.set_cons_succ]
        refine' wpAnyH_take (i := 4) (v := _) rfl (by kernel_rfl) (by kernel_rfl) (by kernel_rfl) (fun _ _ _ h => h) (Or.inl ⟨by kernel_rfl, ?hfbt5⟩) (by assumption) ?rfbt5
        case hfbt5 => intro W hW; obtain ⟨⟨c0, c1⟩, ⟨d0, d1⟩, ⟨y0, y1⟩, t0⟩ := hW; go_simp; all_goals with_reducible rfl
        change wpAnyH _ _ _ _ _ _ _ (Act.put _ (some 83) _) _
        simp only [Act.put, List.setIfInBounds_toArray, List.set_cons_zero, List.set_cons_succ]
        refine' wpAnyH_take (i := 5) (v := _) rfl (by kernel_rfl) (by kernel_rfl) (by kernel_rfl) (fun _ _ _ h => h) (Or.inl ⟨by kernel_rfl, ?hfbt6⟩) (by assumption) ?rfbt6
        case hfbt6 => intro W hW; obtain ⟨⟨c0, c1⟩, ⟨d0, d1⟩, ⟨y0, y1⟩, t0⟩ := hW; go_simp; all_goals with_reducible rfl
        change wpAnyH _ _ _ _ _ _ _ (Act.put _ (some 84) _) _
        simp only [Act.put, List.setIfInBounds_toArray, List.set_cons_zero, List.set_cons_succ]
        refine' wpAnyH_take (i := 6) (v := _) rfl (by kernel_rfl) (by kernel_rfl) (by kernel_rfl) (fun _ _ _ h => h) (Or.inl ⟨by kernel_rfl, ?hfbt7⟩) (by assumption) ?rfbt7
        case hfbt7 => intro W hW; obtain ⟨⟨c0, c1⟩, ⟨d0, d1⟩, ⟨y0, y1⟩, t0⟩ := hW; go_simp; all_goals with_reducible rfl
        change wpAnyH _ _ _ _ _ _ _ (Act.put _ (some 85) _) _
        simp only [Act.put, List.setIfInBounds_toArray, List.set_cons_zero, List.set_cons_succ]
        refine' wpAnyH_take (i := 7) (v := _) rfl (by kernel_rfl) (by kernel_rfl) (by kernel_rfl) (fun _ _ _ h => h) (Or.inl ⟨by kernel_rfl, ?hfbt8⟩) (by assumption) ?rfbt8
        case hfbt8 => intro W hW; obtain ⟨⟨c0, c1⟩, ⟨d0, d1⟩, ⟨y0, y1⟩, t0⟩ := hW; go_simp; all_goals with_reducible rfl
        change wpAnyH _ _ _ _ _ _ _ (Act.put _ (some 86) _) _
        simp only [Act.put, List.setIfInBounds_toArray, List.set_cons_zero, List.set_cons_succ]
        refine' wpAnyH_take (i := 8) (v := _) rfl (by kernel_rfl) (by kernel_rfl) (by kernel_rfl) (fun _ _ _ h => h) (Or.inl ⟨by kernel_rfl, ?hfbt9⟩) (by assumption) ?rfbt9
        case hfbt9 => intro W hW; obtain ⟨⟨c0, c1⟩, ⟨d0, d1⟩, ⟨y0, y1⟩, t0⟩ := hW; go_simp; all_goals with_reducible rfl
        change wpAnyH _ _ _ _ _ _ _ (Act.put _ (some 87) _) _
        simp only [Act.put, List.setIfInBounds_toArray, List.set_cons_zero, List.set_cons_succ]
        refine' wpAnyH_take (i := 9) (v := _) rfl (by kernel_rfl) (by kernel_rfl) (by kernel_rfl) (fun _ _ _ h => h) (Or.inl ⟨by kernel_rfl, ?hfbt10⟩) (by assumption) ?rfbt10
        case hfbt10 => intro W hW; obtain ⟨⟨c0, c1⟩, ⟨d0, d1⟩, ⟨y0, y1⟩, t0⟩ := hW; go_simp; all_goals with_reducible rfl
        change wpAnyH _ _ _ _ _ _ _ (Act.put _ (some 88) _) _
        simp only [Act.put, List.setIfInBounds_toArray, List.set_cons_zero, List.set_cons_succ]
        refine' wpAnyH_take (i := 10) (v := _) rfl (by kernel_rfl) (by kernel_rfl) (by kernel_rfl) (fun _ _ _ h => h) (Or.inl ⟨by kernel_rfl, ?hfbt11⟩) (by assumption) ?rfbt11
        case hfbt11 => intro W hW; obtain ⟨⟨c0, c1⟩, ⟨d0, d1⟩, ⟨y0, y1⟩, t0⟩ := hW; go_simp; all_goals with_reducible rfl
        change wpAnyH _ _ _ _ _ _ _ (Act.put _ (some 89) _) _
        simp only [Act.put, List.setIfInBounds_toArray, List.set_cons_zero, List.set_cons_succ]
        refine' wpAnyH_take (i := 11) (v := _) rfl (by kernel_rfl) (by kernel_rfl) (by kernel_rfl) (fun _ _ _ h => h) (Or.inl ⟨by kernel_rfl, ?hfbt12⟩) (by assumption) ?rfbt12
        case hfbt12 => intro W hW; obtain ⟨⟨c0, c1⟩, ⟨d0, d1⟩, ⟨y0, y1⟩, t0⟩ := hW; go_simp; all_goals with_reducible rfl
        change wpAnyH _ _ _ _ _ _ _ (Act.put _ (some 90) _) _
        simp only [Act.put, List.setIfInBounds_toArray, List.set_cons_zero, List.set_cons_succ]
        refine' wpAnyH_take (i := 12) (v := _) rfl (by kernel_rfl) (by kernel_rfl) (by kernel_rfl) (fun _ _ _ h => h) (Or.inl ⟨by kernel_rfl, ?hfbt13⟩) (by assumption) ?rfbt13
        case hfbt13 => intro W hW; obtain ⟨⟨c0, c1⟩, ⟨d0, d1⟩, ⟨y0, y1⟩, t0⟩ := hW; go_simp; all_goals with_reducible rfl
        change wpAnyH _ _ _ _ _ _ _ (Act.put _ (some 91) _) _
        simp only [Act.put, List.setIfInBounds_toArray, List.set_cons_zero, List.set_cons_succ]
        refine' wpAnyH_take (i := 13) (v := _) rfl (by kernel_rfl) (by kernel_rfl) (by kernel_rfl) (fun _ _ _ h => h) (Or.inl ⟨by kernel_rfl, ?hfbt14⟩) (by assumption) ?rfbt14
        case hfbt14 => intro W hW; obtain ⟨⟨c0, c1⟩, ⟨d0, d1⟩, ⟨y0, y1⟩, t0⟩ := hW; go_simp; all_goals with_reducible rfl
        change wpAnyH _ _ _ _ _ _ _ (Act.put _ (some 92) _) _
        simp only [Act.put, List.setIfInBounds_toArray, List.set_cons_zero, List.set_cons_succ]
        refine' wpAnyH_take (i := 14) (v := _) rfl (by kernel_rfl) (by kernel_rfl) (by kernel_rfl) (fun _ _ _ h => h) (Or.inl ⟨by kernel_rfl, ?hfbt15⟩) (by assumption) ?rfbt15
        case hfbt15 => intro W hW; obtain ⟨⟨c0, c1⟩, ⟨d0, d1⟩, ⟨y0, y1⟩, t0⟩ := hW; go_simp; all_goals with_reducible rfl
        change wpAnyH _ _ _ _ _ _ _ (Act.put _ (some 93) _) _
        simp only [Act.put, List.setIfInBounds_toArray, List.set_cons_zero, List.set_cons_succ]
        refine' wpAnyH_take (i := 15) (v := _) rfl (by kernel_rfl) (by kernel_rfl) (by kernel_rfl) (fun _ _ _ h => h) (Or.inl ⟨by kernel_rfl, ?hfbt16⟩) (by assumption) ?rfbt16
        case hfbt16 => intro W hW; obtain ⟨⟨c0, c1⟩, ⟨d0, d1⟩, ⟨y0, y1⟩, t0⟩ := hW; go_simp; all_goals with_reducible rfl
        change wpAnyH _ _ _ _ _ _ _ (Act.put _ (some 94) _) _
        simp only [Act.put, List.setIfInBounds_toArray, List.set_cons_zero, List.set_cons_succ]
        refine' wpAnyH_take (i := 16) (v := _) rfl (by kernel_rfl) (by kernel_rfl) (by kernel_rfl) (fun _ _ _ h => h) (Or.inl ⟨by kernel_rfl, ?hfbt17⟩) (by assumption) ?rfbt17
        case hfbt17 => intro W hW; obtain ⟨⟨c0, c1⟩, ⟨d0, d1⟩, ⟨y0, y1⟩, t0⟩ := hW; go_simp; all_goals with_reducible rfl
        change wpAnyH _ _ _ _ _ _ _ (Act.put _ (some 95) _) _
        simp only [Act.put, List.setIfInBounds_toArray, List.set_cons_zero, List.set_cons_succ]
        refine' wpAnyH_take (i := 17) (v := _) rfl (by kernel_rfl) (by kernel_rfl) (by kernel_rfl) (fun _ _ _ h => h) (Or.inl ⟨by kernel_rfl, ?hfbt18⟩) (by assumption) ?rfbt18
        case hfbt18 => intro W hW; obtain ⟨⟨c0, c1⟩, ⟨d0, d1⟩, ⟨y0, y1⟩, t0⟩ := hW; go_simp; all_goals with_reducible rfl
        change wpAnyH _ _ _ _ _ _ _ (Act.put _ (some 96) _) _
        simp only [Act.put, List.setIfInBounds_toArray, List.set_cons_zero, List.set_cons_succ]
        refine' wpAnyH_take (i := 18) (v := _) rfl (by kernel_rfl) (by kernel_rfl) (by kernel_rfl) (fun _ _ _ h => h) (Or.inl ⟨by kernel_rfl, ?hfbt19⟩) (by assumption) ?rfbt19
        case hfbt19 => intro W hW; obtain ⟨⟨c0, c1⟩, ⟨d0, d1⟩, ⟨y0, y1⟩, t0⟩ := hW; go_simp; all_goals with_reducible rfl
        change wpAnyH _ _ _ _ _ _ _ (Act.put _ (some 97) _) _
        simp only [Act.put, List.setIfInBounds_toArray, List.set_cons_zero, List.set_cons_succ]
        refine' wpAnyH_take (i := 19) (v := _) rfl (by kernel_rfl) (by kernel_rfl) (by kernel_rfl) (fun _ _ _ h => h) (Or.inl ⟨by kernel_rfl, ?hfbt20⟩) (by assumption) ?rfbt20
        case hfbt20 => intro W hW; obtain ⟨⟨c0, c1⟩, ⟨d0, d1⟩, ⟨y0, y1⟩, t0⟩ := hW; go_simp; all_goals with_reducible rfl
        change wpAnyH _ _ _ _ _ _ _ (Act.put _ (some 98) _) _
        simp only [Act.put, List.setIfInBounds_toArray, List.set_cons_zero, List.set_cons_succ]
        refine' wpAnyH_take (i := 20) (v := _) rfl (by kernel_rfl) (by kernel_rfl) (by kernel_rfl) (fun _ _ _ h => h) (Or.inl ⟨by kernel_rfl, ?hfbt21⟩) (by assumption) ?rfbt21
        case hfbt21 => intro W hW; obtain ⟨⟨c0, c1⟩, ⟨d0, d1⟩, ⟨y0, y1⟩, t0⟩ := hW; go_simp; all_goals with_reducible rfl
        change wpAnyH _ _ _ _ _ _ _ (Act.put _ (some 99) _) _
        simp only [Act.put, List.setIfInBounds_toArray, List.set_cons_zero, List.set_cons_succ]
        refine' wpAnyH_take (i := 21) (v := _) rfl (by kernel_rfl) (by kernel_rfl) (by kernel_rfl) (fun _ _ _ h => h) (Or.inl ⟨by kernel_rfl, ?hfbt22⟩) (by assumption) ?rfbt22
        case hfbt22 => intro W hW; obtain ⟨⟨c0, c1⟩, ⟨d0, d1⟩, ⟨y0, y1⟩, t0⟩ := hW; go_simp; all_goals with_reducible rfl
        change wpAnyH _ _ _ _ _ _ _ (Act.put _ (some 100) _) _
        simp only [Act.put, List.setIfInBounds_toArray, List.set_cons_zero, List.set_cons_succ]
        refine' wpAnyH_take (i := 22) (v := _) rfl (by kernel_rfl) (by kernel_rfl) (by kernel_rfl) (fun _ _ _ h => h) (Or.inl ⟨by kernel_rfl, ?hfbt23⟩) (by assumption) ?rfbt23
        case hfbt23 => intro W hW; obtain ⟨⟨c0, c1⟩, ⟨d0, d1⟩, ⟨y0, y1⟩, t0⟩ := hW; go_simp; all_goals with_reducible rfl
        change wpAnyH _ _ _ _ _ _ _ (Act.put _ (some 101) _) _
        simp only [Act.put, List.setIfInBounds_toArray, List.set_cons_zero, List.set_cons_succ]
        refine' wpAnyH_take (i := 23) (v := _) rfl (by kernel_rfl) (by kernel_rfl) (by kernel_rfl) (fun _ _ _ h => h) (Or.inl ⟨by kernel_rfl, ?hfbt24⟩) (by assumption) ?rfbt24
        case hfbt24 => intro W hW; obtain ⟨⟨c0, c1⟩, ⟨d0, d1⟩, ⟨y0, y1⟩, t0⟩ := hW; go_simp; all_goals with_reducible rfl
        change wpAnyH _ _ _ _ _ _ _ (Act.put _ (some 102) _) _
        simp only [Act.put, List.setIfInBounds_toArray, List.set_cons_zero, List.set_cons_succ]
        refine' wpAnyH_take (i := 24) (v := _) rfl (by kernel_rfl) (by kernel_rfl) (by kernel_rfl) (fun _ _ _ h => h) (Or.inl ⟨by kernel_rfl, ?hfbt25⟩) (by assumption) ?rfbt25
        case hfbt25 => intro W hW; obtain ⟨⟨c0, c1⟩, ⟨d0, d1⟩, ⟨y0, y1⟩, t0⟩ := hW; go_simp; all_goals with_reducible rfl
        change wpAnyH _ _ _ _ _ _ _ (Act.put _ (some 103) _) _
        simp only [Act.put, List.setIfInBounds_toArray, List.set_cons_zero, List.set_cons_succ]
        refine' wpAnyH_take (i := 25) (v := _) rfl (by kernel_rfl) (by kernel_rfl) (by kernel_rfl) (fun _ _ _ h => h) (Or.inl ⟨by kernel_rfl, ?hfbt26⟩) (by assumption) ?rfbt26
        case hfbt26 => intro W hW; obtain ⟨⟨c0, c1⟩, ⟨d0, d1⟩, ⟨y0, y1⟩, t0⟩ := hW; go_simp; all_goals with_reducible rfl
        change wpAnyH _ _ _ _ _ _ _ (Act.put _ (some 104) _) _
        simp only [Act.put, List.setIfInBounds_toArray, List.set_cons_zero, List.set_cons_succ]
        refine' wpAnyH_take (i := 26) (v := _) rfl (by kernel_rfl) (by kernel_rfl) (by kernel_rfl) (fun _ _ _ h => h) (Or.inl ⟨by kernel_rfl, ?hfbt27⟩) (by assumption) ?rfbt27
        case hfbt27 => intro W hW; obtain ⟨⟨c0, c1⟩, ⟨d0, d1⟩, ⟨y0, y1⟩, t0⟩ := hW; go_simp; all_goals with_reducible rfl
        change wpAnyH _ _ _ _ _ _ _ (Act.put _ (some 105) _) _
        simp only [Act.put, List.setIfInBounds_toArray, List.set_cons_zero, List.set_cons_succ]
        refine' wpAnyH_take (i := 27) (v := _) rfl (by kernel_rfl) (by kernel_rfl) (by kernel_rfl) (fun _ _ _ h => h) (Or.inl ⟨by kernel_rfl, ?hfbt28⟩) (by assumption) ?rfbt28
        case hfbt28 => intro W hW; obtain ⟨⟨c0, c1⟩, ⟨d0, d1⟩, ⟨y0, y1⟩, t0⟩ := hW; go_simp; all_goals with_reducible rfl
        change wpAnyH _ _ _ _ _ _ _ (Act.put _ (some 106) _) _
        simp only [Act.put, List.setIfInBounds_toArray, List.set_cons_zero, List.set_cons_succ]
        refine' wpAnyH_take (i := 28) (v := _) rfl (by kernel_rfl) (by kernel_rfl) (by kernel_rfl) (fun _ _ _ h => h) (Or.inl ⟨by kernel_rfl, ?hfbt29⟩) (by assumption) ?rfbt29
        case hfbt29 => intro W hW; obtain ⟨⟨c0, c1⟩, ⟨d0, d1⟩, ⟨y0, y1⟩, t0⟩ := hW; go_simp; all_goals with_reducible rfl
        change wpAnyH _ _ _ _ _ _ _ (Act.put _ (some 107) _) _
        simp only [Act.put, List.setIfInBounds_toArray, List.set_cons_zero, List.set_cons_succ]
        refine' wpAnyH_take (i := 29) (v := _) rfl (by kernel_rfl) (by kernel_rfl) (by kernel_rfl) (fun _ _ _ h => h) (Or.inl ⟨by kernel_rfl, ?hfbt30⟩) (by assumption) ?rfbt30
        case hfbt30 => intro W hW; obtain ⟨⟨c0, c1⟩, ⟨d0, d1⟩, ⟨y0, y1⟩, t0⟩ := hW; go_simp; all_goals with_reducible rfl
        change wpAnyH _ _ _ _ _ _ _ (Act.put _ (some 108) _) _
        simp only [Act.put, List.setIfInBounds_toArray, List.set_cons_zero, List.set_cons_succ]
        refine' wpAnyH_take (i := 30) (v := _) rfl (by kernel_rfl) (by kernel_rfl) (by kernel_rfl) (fun _ _ _ h => h) (Or.inl ⟨by kernel_rfl, ?hfbt31⟩) (by assumption) ?rfbt31
        case hfbt31 => intro W hW; obtain ⟨⟨c0, c1⟩, ⟨d0, d1⟩, ⟨y0, y1⟩, t0⟩ := hW; go_simp; all_goals with_reducible rfl
        change wpAnyH _ _ _ _ _ _ _ (Act.put _ (some 109) _) _
        simp only [Act.put, List.setIfInBounds_toArray, List.set_cons_zero, List.set_cons_succ]
        refine' wpAnyH_take (i := 31) (v := _) rfl (by kernel_rfl) (by kernel_rfl) (by kernel_rfl) (fun _ _ _ h => h) (Or.inl ⟨by kernel_rfl, ?hfbt32⟩) (by assumption) ?rfbt32
        case hfbt32 => intro W hW; obtain ⟨⟨c0, c1⟩, ⟨d0, d1⟩, ⟨y0, y1⟩, t0⟩ := hW; go_simp; all_goals with_reducible rfl
        change wpAnyH _ _ _ _ _ _ _ (Act.put _ (some 110) _) _
        simp only [Act.put, List.setIfInBounds_toArray, List.set_cons_zero, List.set_cons_succ]
        refine wpAnyH_ready (rs := [32]) (by kernel_rfl) (by simp) ?_
        refine AllReadyH.cons rfl (fun KK hK => ?_) AllReadyH.nil
        go_simp
        have hCC := specFormat_any z va vc l wd hfv (by omega)
        rw [hFe.out] at hCC
        refine hCC.mono ?_
        rintro e wz ⟨vz, rfl, hOz, hbz⟩
        obtain ⟨zsa, zsc, zca, zcc, zfa, zfc, rfl, -, -, -⟩ := hOz.view.is
        have hBz := hB.trans (hbz.mono hB.size)
        have hl0 : M < wd.heap.size ∧ Y < wd.heap.size ∧ Z < wd.heap.size ∧ X13 < wd.heap.size := by rw [← hwd.out]; exact ⟨hM.lt, hW.lt, hZ.lt, hX13.lt⟩
        have hHz : (wz.cell? ⟨M, 0, none⟩ = some (.int .i64 g) ∧ wz.cell? ⟨M, 1, none⟩ = some (.int .i64 r)) ∧ (wz.cell? ⟨Y, 0, none⟩ = some (.int .i64 g) ∧ wz.cell? ⟨Y, 1, none⟩ = some (.int .i64 r)) ∧ (wz.cell? ⟨Z, 0, none⟩ = some (.int .i64 0) ∧ wz.cell? ⟨Z, 1, none⟩ = some (.int .i64 0)) ∧ wz.cell? ⟨X13, 0, none⟩ = some (.slice fsa F.secs.length fsc) := by
          rw [hwd.out] at hM hW hZ hX13
          exact ⟨⟨(hM.below hbz).cell 0, (hM.below hbz).cell 1⟩, ⟨(hW.below hbz).cell 0, (hW.below hbz).cell 1⟩, ⟨(hZ.below hbz).cell 0, (hZ.below hbz).cell 1⟩, (hX13.below hbz).cell 0⟩
        clear hOz hbz hCC hHeld hfv hB hl0 hM hW hZ hX13
        go_wp2_with fail
        refine hK.out _ _ hHz (fun hHeld => ?_)
        clear hK KK
        try simp only [Act.put, List.setIfInBounds_toArray, List.set_cons_zero, List.set_cons_succ]
        refine' wpAnyH_take (i := 33) (v := _) rfl (by kernel_rfl) (by kernel_rfl) (by kernel_rfl) (fun _ _ _ h => h) (Or.inl ⟨by kernel_rfl, ?hfbt33⟩) (by assumption) ?rfbt33
        case hfbt33 => intro W hW; obtain ⟨⟨c0, c1⟩, ⟨d0, d1⟩, ⟨y0, y1⟩, t0⟩ := hW; go_simp; all_goals with_reducible rfl
        change wpAnyH _ _ _ _ _ _ _ (Act.put _ (some 112) _) _
        simp only [Act.put, List.setIfInBounds_toArray, List.set_cons_zero, List.set_cons_succ]
        refine' wpAnyH_take (i := 34) (v := _) rfl (by kernel_rfl) (by kernel_rfl) (by kernel_rfl) (fun _ _ _ h => h) (Or.inl ⟨by kernel_rfl, ?hfbt34⟩) (by assumption) ?rfbt34
        case hfbt34 => intro W hW; obtain ⟨⟨c0, c1⟩, ⟨d0, d1⟩, ⟨y0, y1⟩, t0⟩ := hW; go_simp; all_goals with_reducible rfl
        change wpAnyH _ _ _ _ _ _ _ (Act.put _ (some 113) _) _
        simp only [Act.put, List.setIfInBounds_toArray, List.set_cons_zero, List.set_cons_succ]
        refine' wpAnyH_take (i := 35) (v := _) rfl (by kernel_rfl) (by kernel_rfl) (by kernel_rfl) (fun _ _ _ h => h) (Or.inl ⟨by kernel_rfl, ?hfbt35⟩) (by assumption) ?rfbt35
        case hfbt35 => intro W hW; obtain ⟨⟨c0, c1⟩, ⟨d0, d1⟩, ⟨y0, y1⟩, t0⟩ := hW; go_simp; all_goals with_reducible rfl
        change wpAnyH _ _ _ _ _ _ _ (Act.put _ (some 114) _) _
        simp only [Act.put, List.setIfInBounds_toArray, List.set_cons_zero, List.set_cons_succ]
        refine' wpAnyH_take (i := 36) (v := _) rfl (by kernel_rfl) (by kernel_rfl) (by kernel_rfl) (fun _ _ _ h => h) (Or.inl ⟨by kernel_rfl, ?hfbt36⟩) (by assumption) ?rfbt36
        case hfbt36 => intro W hW; obtain ⟨⟨c0, c1⟩, ⟨d0, d1⟩, ⟨y0, y1⟩, t0⟩ := hW; go_simp; all_goals with_reducible rfl
        change wpAnyH _ _ _ _ _ _ _ (Act.put _ (some 115) _) _
        simp only [Act.put, List.setIfInBounds_toArray, List.set_cons_zero, List.set_cons_succ]
        refine' wpAnyH_take (i := 37) (v := _) rfl (by kernel_rfl) (by kernel_rfl) (by kernel_rfl) (fun _ _ _ h => h) (Or.inl ⟨by kernel_rfl, ?hfbt37⟩) (by assumption) ?rfbt37
        case hfbt37 => intro W hW; obtain ⟨⟨c0, c1⟩, ⟨d0, d1⟩, ⟨y0, y1⟩, t0⟩ := hW; go_simp; all_goals with_reducible rfl
        change wpAnyH _ _ _ _ _ _ _ (Act.put _ (some 2) _) _
        simp only [Act.put, List.setIfInBounds_toArray, List.set_cons_zero, List.set_cons_succ]
        refine wpAnyH_done (by kernel_rfl) ?_ _
        have HB : Hid _ := hBz
        clear hBz hHz hHeld
        go_wp2
        go_ret
        exact ⟨rfl, HB.out⟩
      · have hfv2 : fi = false := by rw [← hfi.out]; simp [hpos]
        clear hfi
        subst hfv2
        have hpz : ¬ (0 : Int) < (F.secs.length : Int) := by omega
        have HPS : Hid (F.secs = []) := List.eq_nil_of_length_eq_zero (by omega)
        have hdz : decide (0 < F.secs.length) = false := by simp [hpos]
        clear hpos
        refine wp_region_held_drew (S := fun W => (W.cell? ⟨M, 0, none⟩ = some (.int .i64 g) ∧ W.cell? ⟨M, 1, none⟩ = some (.int .i64 r)) ∧ (W.cell? ⟨Y, 0, none⟩ = some (.int .i64 g) ∧ W.cell? ⟨Y, 1, none⟩ = some (.int .i64 r)) ∧ (W.cell? ⟨Z, 0, none⟩ = some (.int .i64 0) ∧ W.cell? ⟨Z, 1, none⟩ = some (.int .i64 0)) ∧ W.cell? ⟨X13, 0, none⟩ = some (.slice fsa F.secs.length fsc)) (by kernel_rfl) ⟨⟨hM.cell 0, hM.cell 1⟩, ⟨hW.cell 0, hW.cell 1⟩, ⟨hZ.cell 0, hZ.cell 1⟩, hX13.cell 0⟩ (fun hHeld => ?_)
        obtain ⟨wd, hwd⟩ := hidEx W8.drew
        rw [hwd.out] at hHeld hB hfv ⊢
        refine' wpAnyH_take (i := 0) (v := _) rfl (by kernel_rfl) (by kernel_rfl) (by kernel_rfl) (fun _ _ _ h => h) (Or.inl ⟨by kernel_rfl, ?hfbf1⟩) (by assumption) ?rfbf1
        case hfbf1 => intro W hW; obtain ⟨⟨c0, c1⟩, ⟨d0, d1⟩, ⟨y0, y1⟩, t0⟩ := hW; go_simp; all_goals with_reducible rfl
        change wpAnyH _ _ _ _ _ _ _ (Act.put _ (some 79) _) _
        simp only [Act.put, List.setIfInBounds_toArray, List.set_cons_zero, List.set_cons_succ]
        refine' wpAnyH_take (i := 1) (v := _) rfl (by kernel_rfl) (by kernel_rfl) (by kernel_rfl) (fun _ _ _ h => h) (Or.inl ⟨by kernel_rfl, ?hfbf2⟩) (by assumption) ?rfbf2
        case hfbf2 => intro W hW; obtain ⟨⟨c0, c1⟩, ⟨d0, d1⟩, ⟨y0, y1⟩, t0⟩ := hW; go_simp; all_goals with_reducible rfl
        change wpAnyH _ _ _ _ _ _ _ (Act.put _ (some 80) _) _
        simp only [Act.put, List.setIfInBounds_toArray, List.set_cons_zero, List.set_cons_succ]
        refine' wpAnyH_take (i := 2) (v := _) rfl (by kernel_rfl) (by kernel_rfl) (by kernel_rfl) (fun _ _ _ h => h) (Or.inl ⟨by kernel_rfl, ?hfbf3⟩) (by assumption) ?rfbf3
        case hfbf3 => intro W hW; obtain ⟨⟨c0, c1⟩, ⟨d0, d1⟩, ⟨y0, y1⟩, t0⟩ := hW; go_simp; all_goals with_reducible rfl
        change wpAnyH _ _ _ _ _ _ _ (Act.put _ (some 81) _) _
        simp only [Act.put, List.setIfInBounds_toArray, List.set_cons_zero, List.set_cons_succ]
        refine' wpAnyH_take (i := 3) (v := _) rfl (by kernel_rfl) (by kernel_rfl) (by kernel_rfl) (fun _ _ _ h => h) (Or.inl ⟨by kernel_rfl, ?hfbf4⟩) (by assumption) ?rfbf4
        case hfbf4 => intro W hW; obtain ⟨⟨c0, c1⟩, ⟨d0, d1⟩, ⟨y0, y1⟩, t0⟩ := hW; go_simp; all_goals with_reducible rfl
        change wpAnyH _ _ _ _ _ _ _ (Act.put _ (some 82) _) _
        simp only [Act.put, List.setIfInBounds_toArray, List.set_cons_zero, List.set_cons_succ]
        refine' wpAnyH_take (i := 4) (v := _) rfl (by kernel_rfl) (by kernel_rfl) (by kernel_rfl) (fun _ _ _ h => h) (Or.inl ⟨by kernel_rfl, ?hfbf5⟩) (by assumption) ?rfbf5
        case hfbf5 => intro W hW; obtain ⟨⟨c0, c1⟩, ⟨d0, d1⟩, ⟨y0, y1⟩, t0⟩ := hW; go_simp; all_goals with_reducible rfl
        change wpAnyH _ _ _ _ _ _ _ (Act.put _ (some 83) _) _
        simp only [Act.put, List.setIfInBounds_toArray, List.set_cons_zero, List.set_cons_succ]
        refine' wpAnyH_take (i := 5) (v := _) rfl (by kernel_rfl) (by kernel_rfl) (by kernel_rfl) (fun _ _ _ h => h) (Or.inl ⟨by kernel_rfl, ?hfbf6⟩) (by assumption) ?rfbf6
        case hfbf6 => intro W hW; obtain ⟨⟨c0, c1⟩, ⟨d0, d1⟩, ⟨y0, y1⟩, t0⟩ := hW; go_simp; all_goals with_reducible rfl
        change wpAnyH _ _ _ _ _ _ _ (Act.put _ (some 84) _) _
        simp only [Act.put, List.setIfInBounds_toArray, List.set_cons_zero, List.set_cons_succ]
        refine' wpAnyH_take (i := 6) (v := _) rfl (by kernel_rfl) (by kernel_rfl) (by kernel_rfl) (fun _ _ _ h => h) (Or.inl ⟨by kernel_rfl, ?hfbf7⟩) (by assumption) ?rfbf7
        case hfbf7 => intro W hW; obtain ⟨⟨c0, c1⟩, ⟨d0, d1⟩, ⟨y0, y1⟩, t0⟩ := hW; go_simp; all_goals with_reducible rfl
        change wpAnyH _ _ _ _ _ _ _ (Act.put _ (some 85) _) _
        simp only [Act.put, List.setIfInBounds_toArray, List.set_cons_zero, List.set_cons_succ]
        refine' wpAnyH_take (i := 7) (v := _) rfl (by kernel_rfl) (by kernel_rfl) (by kernel_rfl) (fun _ _ _ h => h) (Or.inl ⟨by kernel_rfl, ?hfbf8⟩) (by assumption) ?rfbf8
        case hfbf8 => intro W hW; obtain ⟨⟨c0, c1⟩, ⟨d0, d1⟩, ⟨y0, y1⟩, t0⟩ := hW; go_simp; all_goals with_reducible rfl
        change wpAnyH _ _ _ _ _ _ _ (Act.put _ (some 86) _) _
        simp only [Act.put, List.setIfInBounds_toArray, List.set_cons_zero, List.set_cons_succ]
        refine' wpAnyH_take (i := 8) (v := _) rfl (by kernel_rfl) (by kernel_rfl) (by kernel_rfl) (fun _ _ _ h => h) (Or.inl ⟨by kernel_rfl, ?hfbf9⟩) (by assumption) ?rfbf9
        case hfbf9 => intro W hW; obtain ⟨⟨c0, c1⟩, ⟨d0, d1⟩, ⟨y0, y1⟩, t0⟩ := hW; go_simp; all_goals with_reducible rfl
        change wpAnyH _ _ _ _ _ _ _ (Act.put _ (some 87) _) _
        simp only [Act.put, List.setIfInBounds_toArray, List.set_cons_zero, List.set_cons_succ]
        refine' wpAnyH_take (i := 9) (v := _) rfl (by kernel_rfl) (by kernel_rfl) (by kernel_rfl) (fun _ _ _ h => h) (Or.inl ⟨by kernel_rfl, ?hfbf10⟩) (by assumption) ?rfbf10
        case hfbf10 => intro W hW; obtain ⟨⟨c0, c1⟩, ⟨d0, d1⟩, ⟨y0, y1⟩, t0⟩ := hW; go_simp; all_goals with_reducible rfl
        change wpAnyH _ _ _ _ _ _ _ (Act.put _ (some 88) _) _
        simp only [Act.put, List.setIfInBounds_toArray, List.set_cons_zero, List.set_cons_succ]
        refine' wpAnyH_take (i := 10) (v := _) rfl (by kernel_rfl) (by kernel_rfl) (by kernel_rfl) (fun _ _ _ h => h) (Or.inl ⟨by kernel_rfl, ?hfbf11⟩) (by assumption) ?rfbf11
        case hfbf11 => intro W hW; obtain ⟨⟨c0, c1⟩, ⟨d0, d1⟩, ⟨y0, y1⟩, t0⟩ := hW; go_simp; all_goals with_reducible rfl
        change wpAnyH _ _ _ _ _ _ _ (Act.put _ (some 89) _) _
        simp only [Act.put, List.setIfInBounds_toArray, List.set_cons_zero, List.set_cons_succ]
        refine' wpAnyH_take (i := 11) (v := _) rfl (by kernel_rfl) (by kernel_rfl) (by kernel_rfl) (fun _ _ _ h => h) (Or.inl ⟨by kernel_rfl, ?hfbf12⟩) (by assumption) ?rfbf12
        case hfbf12 => intro W hW; obtain ⟨⟨c0, c1⟩, ⟨d0, d1⟩, ⟨y0, y1⟩, t0⟩ := hW; go_simp; all_goals with_reducible rfl
        change wpAnyH _ _ _ _ _ _ _ (Act.put _ (some 90) _) _
        simp only [Act.put, List.setIfInBounds_toArray, List.set_cons_zero, List.set_cons_succ]
        refine' wpAnyH_take (i := 12) (v := _) rfl (by kernel_rfl) (by kernel_rfl) (by kernel_rfl) (fun _ _ _ h => h) (Or.inl ⟨by kernel_rfl, ?hfbf13⟩) (by assumption) ?rfbf13
        case hfbf13 => intro W hW; obtain ⟨⟨c0, c1⟩, ⟨d0, d1⟩, ⟨y0, y1⟩, t0⟩ := hW; go_simp; all_goals with_reducible rfl
        change wpAnyH _ _ _ _ _ _ _ (Act.put _ (some 91) _) _
        simp only [Act.put, List.setIfInBounds_toArray, List.set_cons_zero, List.set_cons_succ]
        refine' wpAnyH_take (i := 13) (v := _) rfl (by kernel_rfl) (by kernel_rfl) (by kernel_rfl) (fun _ _ _ h => h) (Or.inl ⟨by kernel_rfl, ?hfbf14⟩) (by assumption) ?rfbf14
        case hfbf14 => intro W hW; obtain ⟨⟨c0, c1⟩, ⟨d0, d1⟩, ⟨y0, y1⟩, t0⟩ := hW; go_simp; all_goals with_reducible rfl
        change wpAnyH _ _ _ _ _ _ _ (Act.put _ (some 92) _) _
        simp only [Act.put, List.setIfInBounds_toArray, List.set_cons_zero, List.set_cons_succ]
        refine' wpAnyH_take (i := 14) (v := _) rfl (by kernel_rfl) (by kernel_rfl) (by kernel_rfl) (fun _ _ _ h => h) (Or.inl ⟨by kernel_rfl, ?hfbf15⟩) (by assumption) ?rfbf15
        case hfbf15 => intro W hW; obtain ⟨⟨c0, c1⟩, ⟨d0, d1⟩, ⟨y0, y1⟩, t0⟩ := hW; go_simp; all_goals with_reducible rfl
        change wpAnyH _ _ _ _ _ _ _ (Act.put _ (some 93) _) _
        simp only [Act.put, List.setIfInBounds_toArray, List.set_cons_zero, List.set_cons_succ]
        refine' wpAnyH_take (i := 15) (v := _) rfl (by kernel_rfl) (by kernel_rfl) (by kernel_rfl) (fun _ _ _ h => h) (Or.inl ⟨by kernel_rfl, ?hfbf16⟩) (by assumption) ?rfbf16
        case hfbf16 => intro W hW; obtain ⟨⟨c0, c1⟩, ⟨d0, d1⟩, ⟨y0, y1⟩, t0⟩ := hW; go_simp; all_goals with_reducible rfl
        change wpAnyH _ _ _ _ _ _ _ (Act.put _ (some 94) _) _
        simp only [Act.put, List.setIfInBounds_toArray, List.set_cons_zero, List.set_cons_succ]
        refine' wpAnyH_take (i := 16) (v := _) rfl (by kernel_rfl) (by kernel_rfl) (by kernel_rfl) (fun _ _ _ h => h) (Or.inl ⟨by kernel_rfl, ?hfbf17⟩) (by assumption) ?rfbf17
        case hfbf17 => intro W hW; obtain ⟨⟨c0, c1⟩, ⟨d0, d1⟩, ⟨y0, y1⟩, t0⟩ := hW; go_simp; all_goals with_reducible rfl
        change wpAnyH _ _ _ _ _ _ _ (Act.put _ (some 95) _) _
        simp only [Act.put, List.setIfInBounds_toArray, List.set_cons_zero, List.set_cons_succ]
        refine' wpAnyH_take (i := 17) (v := _) rfl (by kernel_rfl) (by kernel_rfl) (by kernel_rfl) (fun _ _ _ h => h) (Or.inl ⟨by kernel_rfl, ?hfbf18⟩) (by assumption) ?rfbf18
        case hfbf18 => intro W hW; obtain ⟨⟨c0, c1⟩, ⟨d0, d1⟩, ⟨y0, y1⟩, t0⟩ := hW; go_simp; all_goals with_reducible rfl
        change wpAnyH _ _ _ _ _ _ _ (Act.put _ (some 96) _) _
        simp only [Act.put, List.setIfInBounds_toArray, List.set_cons_zero, List.set_cons_succ]
        refine' wpAnyH_take (i := 18) (v := _) rfl (by kernel_rfl) (by kernel_rfl) (by kernel_rfl) (fun _ _ _ h => h) (Or.inl ⟨by kernel_rfl, ?hfbf19⟩) (by assumption) ?rfbf19
        case hfbf19 => intro W hW; obtain ⟨⟨c0, c1⟩, ⟨d0, d1⟩, ⟨y0, y1⟩, t0⟩ := hW; go_simp; all_goals with_reducible rfl
        change wpAnyH _ _ _ _ _ _ _ (Act.put _ (some 97) _) _
        simp only [Act.put, List.setIfInBounds_toArray, List.set_cons_zero, List.set_cons_succ]
        refine' wpAnyH_take (i := 19) (v := _) rfl (by kernel_rfl) (by kernel_rfl) (by kernel_rfl) (fun _ _ _ h => h) (Or.inl ⟨by kernel_rfl, ?hfbf20⟩) (by assumption) ?rfbf20
        case hfbf20 => intro W hW; obtain ⟨⟨c0, c1⟩, ⟨d0, d1⟩, ⟨y0, y1⟩, t0⟩ := hW; go_simp; all_goals with_reducible rfl
        change wpAnyH _ _ _ _ _ _ _ (Act.put _ (some 98) _) _
        simp only [Act.put, List.setIfInBounds_toArray, List.set_cons_zero, List.set_cons_succ]
        refine' wpAnyH_take (i := 20) (v := _) rfl (by kernel_rfl) (by kernel_rfl) (by kernel_rfl) (fun _ _ _ h => h) (Or.inl ⟨by kernel_rfl, ?hfbf21⟩) (by assumption) ?rfbf21
        case hfbf21 => intro W hW; obtain ⟨⟨c0, c1⟩, ⟨d0, d1⟩, ⟨y0, y1⟩, t0⟩ := hW; go_simp; all_goals with_reducible rfl
        change wpAnyH _ _ _ _ _ _ _ (Act.put _ (some 99) _) _
        simp only [Act.put, List.setIfInBounds_toArray, List.set_cons_zero, List.set_cons_succ]
        refine' wpAnyH_take (i := 21) (v := _) rfl (by kernel_rfl) (by kernel_rfl) (by kernel_rfl) (fun _ _ _ h => h) (Or.inl ⟨by kernel_rfl, ?hfbf22⟩) (by assumption) ?rfbf22
        case hfbf22 => intro W hW; obtain ⟨⟨c0, c1⟩, ⟨d0, d1⟩, ⟨y0, y1⟩, t0⟩ := hW; go_simp; all_goals with_reducible rfl
        change wpAnyH _ _ _ _ _ _ _ (Act.put _ (some 100) _) _
        simp only [Act.put, List.setIfInBounds_toArray, List.set_cons_zero, List.set_cons_succ]
        refine' wpAnyH_take (i := 22) (v := _) rfl (by kernel_rfl) (by kernel_rfl) (by kernel_rfl) (fun _ _ _ h => h) (Or.inl ⟨by kernel_rfl, ?hfbf23⟩) (by assumption) ?rfbf23
        case hfbf23 => intro W hW; obtain ⟨⟨c0, c1⟩, ⟨d0, d1⟩, ⟨y0, y1⟩, t0⟩ := hW; go_simp; all_goals with_reducible rfl
        change wpAnyH _ _ _ _ _ _ _ (Act.put _ (some 101) _) _
        simp only [Act.put, List.setIfInBounds_toArray, List.set_cons_zero, List.set_cons_succ]
        refine' wpAnyH_take (i := 23) (v := _) rfl (by kernel_rfl) (by kernel_rfl) (by kernel_rfl) (fun _ _ _ h => h) (Or.inl ⟨by kernel_rfl, ?hfbf24⟩) (by assumption) ?rfbf24
        case hfbf24 => intro W hW; obtain ⟨⟨c0, c1⟩, ⟨d0, d1⟩, ⟨y0, y1⟩, t0⟩ := hW; go_simp; all_goals with_reducible rfl
        change wpAnyH _ _ _ _ _ _ _ (Act.put _ (some 102) _) _
        simp only [Act.put, List.setIfInBounds_toArray, List.set_cons_zero, List.set_cons_succ]
        refine' wpAnyH_take (i := 24) (v := _) rfl (by kernel_rfl) (by kernel_rfl) (by kernel_rfl) (fun _ _ _ h => h) (Or.inl ⟨by kernel_rfl, ?hfbf25⟩) (by assumption) ?rfbf25
        case hfbf25 => intro W hW; obtain ⟨⟨c0, c1⟩, ⟨d0, d1⟩, ⟨y0, y1⟩, t0⟩ := hW; go_simp; all_goals with_reducible rfl
        change wpAnyH _ _ _ _ _ _ _ (Act.put _ (some 103) _) _
        simp only [Act.put, List.setIfInBounds_toArray, List.set_cons_zero, List.set_cons_succ]
        refine' wpAnyH_take (i := 25) (v := _) rfl (by kernel_rfl) (by kernel_rfl) (by kernel_rfl) (fun _ _ _ h => h) (Or.inl ⟨by kernel_rfl, ?hfbf26⟩) (by assumption) ?rfbf26
        case hfbf26 => intro W hW; obtain ⟨⟨c0, c1⟩, ⟨d0, d1⟩, ⟨y0, y1⟩, t0⟩ := hW; go_simp; all_goals with_reducible rfl
        change wpAnyH _ _ _ _ _ _ _ (Act.put _ (some 104) _) _
        simp only [Act.put, List.setIfInBounds_toArray, List.set_cons_zero, List.set_cons_succ]
        refine' wpAnyH_take (i := 26) (v := _) rfl (by kernel_rfl) (by kernel_rfl) (by kernel_rfl) (fun _ _ _ h => h) (Or.inl ⟨by kernel_rfl, ?hfbf27⟩) (by assumption) ?rfbf27
        case hfbf27 => intro W hW; obtain ⟨⟨c0, c1⟩, ⟨d0, d1⟩, ⟨y0, y1⟩, t0⟩ := hW; go_simp; all_goals with_reducible rfl
        change wpAnyH _ _ _ _ _ _ _ (Act.put _ (some 105) _) _
        simp only [Act.put, List.setIfInBounds_toArray, List.set_cons_zero, List.set_cons_succ]
        refine' wpAnyH_take (i := 27) (v := _) rfl (by kernel_rfl) (by kernel_rfl) (by kernel_rfl) (fun _ _ _ h => h) (Or.inl ⟨by kernel_rfl, ?hfbf28⟩) (by assumption) ?rfbf28
        case hfbf28 => intro W hW; obtain ⟨⟨c0, c1⟩, ⟨d0, d1⟩, ⟨y0, y1⟩, t0⟩ := hW; go_simp; all_goals with_reducible rfl
        change wpAnyH _ _ _ _ _ _ _ (Act.put _ (some 106) _) _
        simp only [Act.put, List.setIfInBounds_toArray, List.set_cons_zero, List.set_cons_succ]
        refine' wpAnyH_take (i := 28) (v := _) rfl (by kernel_rfl) (by kernel_rfl) (by kernel_rfl) (fun _ _ _ h => h) (Or.inl ⟨by kernel_rfl, ?hfbf29⟩) (by assumption) ?rfbf29
        case hfbf29 => intro W hW; obtain ⟨⟨c0, c1⟩, ⟨d0, d1⟩, ⟨y0, y1⟩, t0⟩ := hW; go_simp; all_goals with_reducible rfl
        change wpAnyH _ _ _ _ _ _ _ (Act.put _ (some 107) _) _
        simp only [Act.put, List.setIfInBounds_toArray, List.set_cons_zero, List.set_cons_succ]
        refine' wpAnyH_take (i := 29) (v := _) rfl (by kernel_rfl) (by kernel_rfl) (by kernel_rfl) (fun _ _ _ h => h) (Or.inl ⟨by kernel_rfl, ?hfbf30⟩) (by assumption) ?rfbf30
        case hfbf30 => intro W hW; obtain ⟨⟨c0, c1⟩, ⟨d0, d1⟩, ⟨y0, y1⟩, t0⟩ := hW; go_simp; all_goals with_reducible rfl
        change wpAnyH _ _ _ _ _ _ _ (Act.put _ (some 108) _) _
        simp only [Act.put, List.setIfInBounds_toArray, List.set_cons_zero, List.set_cons_succ]
        refine' wpAnyH_take (i := 30) (v := _) rfl (by kernel_rfl) (by kernel_rfl) (by kernel_rfl) (fun _ _ _ h => h) (Or.inl ⟨by kernel_rfl, ?hfbf31⟩) (by assumption) ?rfbf31
        case hfbf31 => intro W hW; obtain ⟨⟨c0, c1⟩, ⟨d0, d1⟩, ⟨y0, y1⟩, t0⟩ := hW; go_simp; all_goals with_reducible rfl
        change wpAnyH _ _ _ _ _ _ _ (Act.put _ (some 109) _) _
        simp only [Act.put, List.setIfInBounds_toArray, List.set_cons_zero, List.set_cons_succ]
        refine' wpAnyH_take (i := 31) (v := _) rfl (by kernel_rfl) (by kernel_rfl) (by kernel_rfl) (fun _ _ _ h => h) (Or.inl ⟨by kernel_rfl, ?hfbf32⟩) (by assumption) ?rfbf32
        case hfbf32 => intro W hW; obtain ⟨⟨c0, c1⟩, ⟨d0, d1⟩, ⟨y0, y1⟩, t0⟩ := hW; go_simp; all_goals with_reducible rfl
        change wpAnyH _ _ _ _ _ _ _ (Act.put _ (some 110) _) _
        simp only [Act.put, List.setIfInBounds_toArray, List.set_cons_zero, List.set_cons_succ]
        refine wpAnyH_ready (rs := [32]) (by kernel_rfl) (by simp) ?_
        refine AllReadyH.cons rfl (fun KK hK => ?_) AllReadyH.nil
        go_simp
        have hCC := specFormat_any z va vc l wd hfv (by omega)
        rw [hFe.out] at hCC
        refine hCC.mono ?_
        rintro e wz ⟨vz, rfl, hOz, hbz⟩
        obtain ⟨zsa, zsc, zca, zcc, zfa, zfc, rfl, -, -, -⟩ := hOz.view.is
        have hBz := hB.trans (hbz.mono hB.size)
        have hl0 : M < wd.heap.size ∧ Y < wd.heap.size ∧ Z < wd.heap.size ∧ X13 < wd.heap.size := by rw [← hwd.out]; exact ⟨hM.lt, hW.lt, hZ.lt, hX13.lt⟩
        have hHz : (wz.cell? ⟨M, 0, none⟩ = some (.int .i64 g) ∧ wz.cell? ⟨M, 1, none⟩ = some (.int .i64 r)) ∧ (wz.cell? ⟨Y, 0, none⟩ = some (.int .i64 g) ∧ wz.cell? ⟨Y, 1, none⟩ = some (.int .i64 r)) ∧ (wz.cell? ⟨Z, 0, none⟩ = some (.int .i64 0) ∧ wz.cell? ⟨Z, 1, none⟩ = some (.int .i64 0)) ∧ wz.cell? ⟨X13, 0, none⟩ = some (.slice fsa F.secs.length fsc) := by
          rw [hwd.out] at hM hW hZ hX13
          exact ⟨⟨(hM.below hbz).cell 0, (hM.below hbz).cell 1⟩, ⟨(hW.below hbz).cell 0, (hW.below hbz).cell 1⟩, ⟨(hZ.below hbz).cell 0, (hZ.below hbz).cell 1⟩, (hX13.below hbz).cell 0⟩
        clear hOz hbz hCC hHeld hfv hB hl0 hM hW hZ hX13
        go_wp2_with fail
        refine hK.out _ _ hHz (fun hHeld => ?_)
        clear hK KK
        try simp only [Act.put, List.setIfInBounds_toArray, List.set_cons_zero, List.set_cons_succ]
        refine' wpAnyH_take (i := 33) (v := _) rfl (by kernel_rfl) (by kernel_rfl) (by kernel_rfl) (fun _ _ _ h => h) (Or.inl ⟨by kernel_rfl, ?hfbf33⟩) (by assumption) ?rfbf33
        case hfbf33 => intro W hW; obtain ⟨⟨c0, c1⟩, ⟨d0, d1⟩, ⟨y0, y1⟩, t0⟩ := hW; go_simp; all_goals with_reducible rfl
        change wpAnyH _ _ _ _ _ _ _ (Act.put _ (some 112) _) _
        simp only [Act.put, List.setIfInBounds_toArray, List.set_cons_zero, List.set_cons_succ]
        refine' wpAnyH_take (i := 34) (v := _) rfl (by kernel_rfl) (by kernel_rfl) (by kernel_rfl) (fun _ _ _ h => h) (Or.inl ⟨by kernel_rfl, ?hfbf34⟩) (by assumption) ?rfbf34
        case hfbf34 => intro W hW; obtain ⟨⟨c0, c1⟩, ⟨d0, d1⟩, ⟨y0, y1⟩, t0⟩ := hW; go_simp; all_goals with_reducible rfl
        change wpAnyH _ _ _ _ _ _ _ (Act.put _ (some 113) _) _
        simp only [Act.put, List.setIfInBounds_toArray, List.set_cons_zero, List.set_cons_succ]
        refine' wpAnyH_take (i := 35) (v := _) rfl (by kernel_rfl) (by kernel_rfl) (by kernel_rfl) (fun _ _ _ h => h) (Or.inl ⟨by kernel_rfl, ?hfbf35⟩) (by assumption) ?rfbf35
        case hfbf35 => intro W hW; obtain ⟨⟨c0, c1⟩, ⟨d0, d1⟩, ⟨y0, y1⟩, t0⟩ := hW; go_simp; all_goals with_reducible rfl
        change wpAnyH _ _ _ _ _ _ _ (Act.put _ (some 114) _) _
        simp only [Act.put, List.setIfInBounds_toArray, List.set_cons_zero, List.set_cons_succ]
        refine' wpAnyH_take (i := 36) (v := _) rfl (by kernel_rfl) (by kernel_rfl) (by kernel_rfl) (fun _ _ _ h => h) (Or.inl ⟨by kernel_rfl, ?hfbf36⟩) (by assumption) ?rfbf36
        case hfbf36 => intro W hW; obtain ⟨⟨c0, c1⟩, ⟨d0, d1⟩, ⟨y0, y1⟩, t0⟩ := hW; go_simp; all_goals with_reducible rfl
        change wpAnyH _ _ _ _ _ _ _ (Act.put _ (some 115) _) _
        simp only [Act.put, List.setIfInBounds_toArray, List.set_cons_zero, List.set_cons_succ]
        refine' wpAnyH_take (i := 37) (v := _) rfl (by kernel_rfl) (by kernel_rfl) (by kernel_rfl) (fun _ _ _ h => h) (Or.inl ⟨by kernel_rfl, ?hfbf37⟩) (by assumption) ?rfbf37
        case hfbf37 => intro W hW; obtain ⟨⟨c0, c1⟩, ⟨d0, d1⟩, ⟨y0, y1⟩, t0⟩ := hW; go_simp; all_goals with_reducible rfl
        change wpAnyH _ _ _ _ _ _ _ (Act.put _ (some 2) _) _
        simp only [Act.put, List.setIfInBounds_toArray, List.set_cons_zero, List.set_cons_succ]
        refine wpAnyH_done (by kernel_rfl) ?_ _
        have HB : Hid _ := hBz
        clear hBz hHz hHeld
        go_wp2
        go_ret
        exact ⟨rfl, HB.out⟩
end Go.Proofs.Ytdhfbblameiloaa

