/-
  LawLessKeys
-/
import Derived.Test.YtclegljalndaeacPack5
import Derived.Test.YtclegljalndaeacPack9
import Derived.Test.YtclegljalndaeacPack14
import Derived.Test.YtclegljalndaeacKeyLessImpl
import Derived.Test.YtclegljalndaeacPack15
import Derived.Test.YtclegljalndaeacPack16
/-
  The walk over the law FnLessKeys: it answers true and writes nothing that was there, at every code that reads.
-/
namespace Go.Proofs.Ytclegljalndaeac
open Go.RowKit
set_option maxRecDepth 4000

set_option linter.unusedSimpArgs false in
set_option maxHeartbeats 2000000 in
theorem lawLessKeys (ao : Option Addr) (N cap : Nat) (f : Nat → Int) (w : World) (hv0 : View w ao N cap f) (hlen : N ≤ 9223372036854775807) :
    Calls Try.prog 7 #[.slice ao N cap] w fun e w' => e = .returned (.bool true) ∧ Below w.heap.size w w' := by
  by_cases hbig : (1048576 : Int) < (N : Int)
  · go_enter Try.func7, Try.ntmps7
    go_wp2_with fail
    refine (big_any ao N cap w hlen).mono ?_
    rw [decide_eq_true hbig]
    rintro e _ ⟨rfl, rfl⟩
    go_wp2
    go_ret
    exact ⟨rfl, Below.refl _ _⟩
  go_enter Try.func7, Try.ntmps7
  go_wp2_with fail
  refine (big_any ao N cap w hlen).mono ?_
  rw [decide_eq_false (by omega : ¬ (1048576 : Int) < (N : Int))]
  rintro e _ ⟨rfl, rfl⟩
  go_wp2_with fail
  refine (drawLessKey_any ao N cap f w (by omega) hv0).mono ?_
  rintro e w2 ⟨⟨a, a1, a2, m, cp, M, c1, M', c2, gc, gt, gu, gd, fk, fn, fs, fk', fn', fs', rfl, hD⟩, hB⟩
  have hfew := hD.few
  have hp := hD.plan
  have hv := hD.vals
  have hv' := hD.vals'
  have hsh : Hid (∀ i, i < M → (fs i).size ≤ 1048576) := fun i hi => by have := hD.short i hi; omega
  obtain ⟨x, hx⟩ : ∃ x, lessK m gd M fk fn fs M' fk' fn' fs' = x := ⟨_, rfl⟩
  obtain ⟨y, hy⟩ : ∃ y, lessK m gd M' fk' fn' fs' M fk fn fs = y := ⟨_, rfl⟩
  have hxy : (x && y) = false := by rw [← hx, ← hy]; exact lessK_both
  have HX : Hid (lessK m gd M fk fn fs M' fk' fn' fs' = x) := hx
  have HY : Hid (lessK m gd M' fk' fn' fs' M fk fn fs = y) := hy
  obtain ⟨L1, hL1⟩ : ∃ L, keyL m gc gt gu gd M fk fn fs = L := ⟨_, rfl⟩
  have H1 : Hid (keyL m gc gt gu gd M fk fn fs = L1) := hL1
  have hn1 : L1.length ≤ 414 := by rw [← hL1]; exact keyL_len m gc gt gu gd M fk fn fs
  have hby1 : ∀ i, i < L1.length → 0 ≤ L1.getD i 0 ∧ L1.getD i 0 ≤ 255 := fun i hi => by
    have e : L1.getD i 0 = L1[i] := by simp [List.getD, List.getElem?_eq_getElem hi]
    rw [e]; exact (by rw [← hL1]; exact keyL_byte m gc gt gu gd M fk fn fs : ∀ y ∈ L1, 0 ≤ y ∧ y ≤ 255) _ (List.getElem_mem hi)
  have hq1 : (x == x) = true := by cases x <;> rfl
  clear hD hx hy hL1 hv0
  go_wp2_with fail
  refine (implLessKey_any a m cp gc gt gu gd a1 M c1 fk fn fs a2 M' c2 fk' fn' fs' _ hp hv hv' (by omega) (by omega) (by omega)).mono ?_
  rw [HX.out]
  rintro e w3 ⟨rfl, hb⟩
  replace hp := hp.below hb
  replace hv := hv.below hb
  replace hv' := hv'.below hb
  replace hB := hB.trans (hb.mono hB.size)
  clear hb
  go_wp2_with fail
  refine (implLessKey_any a m cp gc gt gu gd a2 M' c2 fk' fn' fs' a1 M c1 fk fn fs _ hp hv' hv (by omega) (by omega) (by omega)).mono ?_
  rw [HY.out]
  rintro e w4 ⟨rfl, hb⟩
  replace hp := hp.below hb
  replace hv := hv.below hb
  replace hv' := hv'.below hb
  replace hB := hB.trans (hb.mono hB.size)
  clear hb
  go_wp2_with fail
  refine (specLessKey_any a m cp gc gt gu gd a1 M c1 fk fn fs a2 M' c2 fk' fn' fs' _ hp hv hv' (by omega) (by omega) (by omega)).mono ?_
  rw [HX.out]
  rintro e w5 ⟨rfl, hb⟩
  replace hp := hp.below hb
  replace hv := hv.below hb
  replace hv' := hv'.below hb
  replace hB := hB.trans (hb.mono hB.size)
  clear hb
  cases x with
  | false =>
    go_wp2_with fail
    refine (implLessKey_any a m cp gc gt gu gd a1 M c1 fk fn fs a1 M c1 fk fn fs _ hp hv hv (by omega) (by omega) (by omega)).mono ?_
    rw [lessK_irr]
    rintro e w6 ⟨rfl, hb⟩
    replace hp := hp.below hb
    replace hv := hv.below hb
    replace hv' := hv'.below hb
    replace hB := hB.trans (hb.mono hB.size)
    clear hb
    go_wp2_with fail
    refine (implEncodeKey_any a m cp gc gt gu gd a1 M c1 fk fn fs _ hp hv (by omega) (by omega)).mono ?_
    rw [H1.out]
    rintro e w7 ⟨g1, k1, rfl, hE⟩
    have hr1 := hE.row
    have chr1 := hE.le
    have hb := hE.below
    clear hE
    replace hp := hp.below hb
    replace hv := hv.below hb
    replace hv' := hv'.below hb
    replace hB := hB.trans (hb.mono hB.size)
    clear hb
    go_wp2_with fail
    refine (specEncodeKey_any a m cp gc gt gu gd a1 M c1 fk fn fs _ hp hv (by omega) (by omega) hsh.out).mono ?_
    rw [H1.out]
    rintro e w8 ⟨g2, k2, rfl, hE⟩
    have hr2 := hE.row
    have chr2 := hE.le
    have hb := hE.below
    clear hE
    replace hp := hp.below hb
    replace hv := hv.below hb
    replace hv' := hv'.below hb
    replace hr1 := hr1.belowAll hb
    replace hB := hB.trans (hb.mono hB.size)
    clear hb
    have hV1 := hr1.view chr1 hby1
    have hV2 := hr2.view chr2 hby1
    go_wp2_with fail
    refine (sameBytes_any _ _ L1.length L1.length k1 k2 _ _ _ hV1 hV2 (by omega) (by omega)).mono ?_
    rw [decide_eq_true (rfl : lof L1.length (fun i => L1.getD i 0) = lof L1.length (fun i => L1.getD i 0))]
    rintro e w9 ⟨rfl, hb⟩
    replace hp := hp.below hb
    replace hv := hv.below hb
    replace hv' := hv'.below hb
    replace hr1 := hr1.belowAll hb
    replace hr2 := hr2.belowAll hb
    replace hB := hB.trans (hb.mono hB.size)
    clear hb
    clear hV1 hV2
    go_wp2
    go_ret
    exact ⟨rfl, hB⟩
  | true =>
    obtain rfl : y = false := by simpa using hxy
    go_wp2_with fail
    refine (implLessKey_any a m cp gc gt gu gd a1 M c1 fk fn fs a1 M c1 fk fn fs _ hp hv hv (by omega) (by omega) (by omega)).mono ?_
    rw [lessK_irr]
    rintro e w6 ⟨rfl, hb⟩
    replace hp := hp.below hb
    replace hv := hv.below hb
    replace hv' := hv'.below hb
    replace hB := hB.trans (hb.mono hB.size)
    clear hb
    go_wp2_with fail
    refine (implEncodeKey_any a m cp gc gt gu gd a1 M c1 fk fn fs _ hp hv (by omega) (by omega)).mono ?_
    rw [H1.out]
    rintro e w7 ⟨g1, k1, rfl, hE⟩
    have hr1 := hE.row
    have chr1 := hE.le
    have hb := hE.below
    clear hE
    replace hp := hp.below hb
    replace hv := hv.below hb
    replace hv' := hv'.below hb
    replace hB := hB.trans (hb.mono hB.size)
    clear hb
    go_wp2_with fail
    refine (specEncodeKey_any a m cp gc gt gu gd a1 M c1 fk fn fs _ hp hv (by omega) (by omega) hsh.out).mono ?_
    rw [H1.out]
    rintro e w8 ⟨g2, k2, rfl, hE⟩
    have hr2 := hE.row
    have chr2 := hE.le
    have hb := hE.below
    clear hE
    replace hp := hp.below hb
    replace hv := hv.below hb
    replace hv' := hv'.below hb
    replace hr1 := hr1.belowAll hb
    replace hB := hB.trans (hb.mono hB.size)
    clear hb
    have hV1 := hr1.view chr1 hby1
    have hV2 := hr2.view chr2 hby1
    go_wp2_with fail
    refine (sameBytes_any _ _ L1.length L1.length k1 k2 _ _ _ hV1 hV2 (by omega) (by omega)).mono ?_
    rw [decide_eq_true (rfl : lof L1.length (fun i => L1.getD i 0) = lof L1.length (fun i => L1.getD i 0))]
    rintro e w9 ⟨rfl, hb⟩
    replace hp := hp.below hb
    replace hv := hv.below hb
    replace hv' := hv'.below hb
    replace hr1 := hr1.belowAll hb
    replace hr2 := hr2.belowAll hb
    replace hB := hB.trans (hb.mono hB.size)
    clear hb
    clear hV1 hV2
    go_wp2
    go_ret
    exact ⟨rfl, hB⟩
end Go.Proofs.Ytclegljalndaeac

