/-
  The law FnExactSameRow, walked.
-/
import Derived.Test.YtamfibkgnbjiiaoRowWalks
import Derived.Test.YtamfibkgnbjiiaoRowSize
import Derived.Test.YtamfibkgnbjiiaoRowCopy
namespace Go.Proofs.Ytamfibkgnbjiiao
open Go.RowKit

set_option maxHeartbeats 4000000 in
theorem lawSameRow (a1 a2 : Option Addr) (n m c1 c2 : Nat) (fk fn : Nat → Int) (fs : Nat → ByteArray) (gk gn : Nat → Int) (gs : Nat → ByteArray) (w : World) (h1 : VView w a1 n c1 fk fn fs) (h2 : VView w a2 m c2 gk gn gs)
    (z1 : ∀ i, i < n → (fs i).size ≤ maxLen) (z2 : ∀ i, i < m → (gs i).size ≤ maxLen) (hn : n ≤ maxLen) (hm : m ≤ maxLen) :
    Calls Try.prog 5 #[.slice a1 n c1, .slice a2 m c2] w fun e w' => e = .returned (.bool true) ∧ Below w.heap.size w w' := by
  go_enter Try.func5, Try.ntmps5
  go_wp2_with fail
  refine (szValS_any a1 n c1 fk fn fs 1048576 _ h1 hn z1 (by omega) (by omega)).mono ?_
  rintro e w1 ⟨L, rfl, hB1, hL⟩
  rcases hL with rfl | ⟨hL0, hL1⟩
  · go_wp2
    go_ret
    exact ⟨rfl, hB1⟩
  have hLn : ¬ L < 0 := by omega
  have hn20 : n ≤ 1048576 := by omega
  go_wp2_with fail
  refine (szValS_any a2 m c2 gk gn gs L _ (h2.below hB1) hm z2 hL0 (by omega)).mono ?_
  rintro e w2 ⟨M, rfl, hB2, hM⟩
  have hD2 : Below w.heap.size w w2 := hB1.trans (hB2.mono hB1.size)
  clear hB1 hB2
  rcases hM with rfl | ⟨hM0, hM1⟩
  · go_wp2
    go_ret
    exact ⟨rfl, hD2⟩
  have hMn : ¬ M < 0 := by omega
  have hm20 : m ≤ 1048576 := by omega
  clear hL0 hL1 hM1 hM0 z1 z2 hn hm
  go_wp2_with fail
  refine (toValS_any a1 n c1 fk fn fs _ (h1.below hD2) hn20).mono ?_
  rintro e w3 ⟨rfl, v3, hB3⟩
  have hD3 := hD2.trans (hB3.mono hD2.size)
  clear hB3
  go_wp2_with fail
  refine (toValS_any a2 m c2 gk gn gs _ (h2.below hD3) hm20).mono ?_
  rintro e w4 ⟨rfl, v4, hB4⟩
  have hD4 := hD3.trans (hB4.mono hD3.size)
  have v34 := v3.below hB4
  clear hB4 v3
  go_wp2_with fail
  refine (sameRow_spec _ _ n m n m fk fn fs gk gn gs _ v34 v4 (by omega) (by omega)).mono ?_
  rintro e w5 ⟨rfl, hB5⟩
  have hD5 := hD4.trans (hB5.mono hD4.size)
  clear hB5 v34 v4 hD4 hD3 hD2
  generalize hR : rowEq n m fk fn fs gk gn gs = R
  go_wp2_with fail
  refine (toValS_any a1 n c1 fk fn fs _ (h1.below hD5) hn20).mono ?_
  rintro e w6 ⟨rfl, v6, hB6⟩
  have hD6 := hD5.trans (hB6.mono hD5.size)
  clear hB6
  go_wp2_with fail
  refine (toValS_any a2 m c2 gk gn gs _ (h2.below hD6) hm20).mono ?_
  rintro e w7 ⟨rfl, v7, hB7⟩
  have hD7 := hD6.trans (hB7.mono hD6.size)
  have v67 := v6.below hB7
  clear hB7 v6
  go_wp2_with fail
  refine (sameRow_impl _ _ n m n m fk fn fs gk gn gs _ v67 v7 (by omega) (by omega)).mono ?_
  rintro e w8 ⟨rfl, hB8⟩
  have hD8 := hD7.trans (hB8.mono hD7.size)
  have v68 := v67.below hB8
  have v78 := v7.below hB8
  rw [hR]
  clear hB8 v67 v7 hD7 hR
  go_wp2_with fail
  refine (toValS_any a1 n c1 fk fn fs _ (h1.below hD8) hn20).mono ?_
  rintro e w9 ⟨rfl, v9, hB9⟩
  have hD9 := hD8.trans (hB9.mono hD8.size)
  have v69 := v68.below hB9
  have v79 := v78.below hB9
  clear hB9 v68 v78 hD8
  go_wp2_with fail
  refine (eqValS_same _ _ n n n fk fn fs _ v69 v9 (by omega)).mono ?_
  rintro e wa ⟨rfl, hBa⟩
  have hDa := hD9.trans (hBa.mono hD9.size)
  have v7a := v79.below hBa
  clear hBa v69 v9 v79 hD9
  go_wp2_with fail
  refine (toValS_any a2 m c2 gk gn gs _ (h2.below hDa) hm20).mono ?_
  rintro e wb ⟨rfl, vb, hBb⟩
  have hDb := hDa.trans (hBb.mono hDa.size)
  have v7b := v7a.below hBb
  clear hBb v7a hDa
  go_wp2_with fail
  refine (eqValS_same _ _ m m m gk gn gs _ v7b vb (by omega)).mono ?_
  rintro e wc ⟨rfl, hBc⟩
  have hDc : Hid (Below w.heap.size w wc) := hDb.trans (hBc.mono hDb.size)
  clear hBc v7b vb hDb
  go_wp2
  go_ret
  exact ⟨rfl, hDc.out⟩
end Go.Proofs.Ytamfibkgnbjiiao
