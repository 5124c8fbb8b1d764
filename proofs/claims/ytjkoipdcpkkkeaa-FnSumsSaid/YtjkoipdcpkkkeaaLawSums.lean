/-
  The walk over the law FnSums: it answers true and writes nothing that was there, at every code that reads.
-/
import Derived.Test.YtjkoipdcpkkkeaaDrawSome
import Derived.Test.YtjkoipdcpkkkeaaSumsPlain
import Derived.Test.YtjkoipdcpkkkeaaBig
namespace Go.Proofs.Ytjkoipdcpkkkeaa
open Go.RowKit

/-- The code's byte at a small place, or a number in its stead. -/
def atN (n : Nat) (f : Nat → Int) (i : Nat) : Nat := if i < n then (f i).toNat else (i * 31 + n * 7) % 256
theorem atN_le (n : Nat) (f : Nat → Int) (i : Nat) (hf : ∀ i, i < n → 0 ≤ f i ∧ f i ≤ 255) : atN n f i ≤ 255 := by
  unfold atN
  split
  · have := hf i (by assumption); omega
  · omega
theorem at_val (ao : Option Addr) (n cap : Nat) (f : Nat → Int) (i : Nat) (z : Int) (x : Nat) (w : World) (hx : Hid (atN n f i = x)) (hv : View w ao n cap f) (hn : n ≤ 1048576) (hi : i ≤ 64) (hz : z = (i : Int)) :
    Calls Try.prog 15 #[.slice ao n cap, .int .i64 z] w fun e w' => e = .returned (.int .i64 (x : Int)) ∧ w = w' := by
  subst hz
  by_cases hlt : i < n
  · have hx' : (f i).toNat = x := by have := hx.out; unfold atN at this; rw [if_pos hlt] at this; exact this
    clear hx
    obtain ⟨b, off, rfl, hb, hc⟩ := hv.cells (by omega)
    have hz : (i : Int) < (n : Int) := by omega
    have hc1 := hc i hlt
    have hbi := hv.byte i hlt
    rw [show f i = (x : Int) by omega] at hc1
    have hxb : x ≤ 255 := by omega
    clear hc hx' hbi
    go_enter Try.func15, Try.ntmps15
    go_wp2
    go_ret
    exact ⟨rfl, rfl⟩
  · have hx' : (i * 31 + n * 7) % 256 = x := by have := hx.out; unfold atN at this; rw [if_neg hlt] at this; exact this
    have HX : Hid ((i * 31 + n * 7) % 256 = x) := hx'
    clear hx hx'
    have hz : (n : Int) ≤ (i : Int) := by omega
    go_enter Try.func15, Try.ntmps15
    go_wp2
    go_ret
    have hE : ((i : Int) * 31 + (n : Int) * 7) % 256 = (x : Int) := by have := HX.out; omega
    rw [hE]
    exact ⟨rfl, rfl⟩

theorem sameBytes_same (a1 a2 : Option Addr) (n c1 c2 : Nat) (f g : Nat → Int) (w : World) (h1 : View w a1 n c1 f) (h2 : View w a2 n c2 g) (hn : n ≤ 281474976710656) (he : ∀ i, i < n → f i = g i) :
    Calls Try.prog 17 #[.slice a1 n c1, .slice a2 n c2] w fun e w' => e = .returned (.bool true) ∧ Below w.heap.size w w' := by
  go_enter Try.func17, Try.ntmps17
  go_wp2
  go_loopg [5] n (fun q i wr => ∃ k : Nat, k ≤ n ∧ q = n - k ∧ i = .int .i64 k ∧ Below w.heap.size w wr)
  case atStart => exact ⟨0, Nat.zero_le _, rfl, rfl, Below.refl _ _⟩
  case round =>
    obtain ⟨k, hk, rfl, rfl, hB⟩ := hrel
    by_cases hlt : k < n
    · obtain ⟨b1, o1, rfl, hb1, hc1⟩ := h1.cells (by omega)
      obtain ⟨b2, o2, rfl, hb2, hc2⟩ := h2.cells (by omega)
      have hkz : (k : Int) < (n : Int) := by omega
      have e1 : wr.cell? ⟨b1, o1 + k, none⟩ = some (.int .u8 (f k)) := by rw [hB.cell (p := ⟨b1, o1 + k, none⟩) hb1]; exact hc1 k hlt
      have e2 : wr.cell? ⟨b2, o2 + k, none⟩ = some (.int .u8 (f k)) := by rw [hB.cell (p := ⟨b2, o2 + k, none⟩) hb2, he k hlt]; exact hc2 k hlt
      clear hc1 hc2 he
      go_wp2
      go_region
      all_goals go_wp2
      all_goals
        go_roundg (n - (k + 1))
        case measure => omega
        case rel => exact ⟨k + 1, by omega, rfl, by go_num, by first | exact hB.drew | exact hB⟩
    · go_wp2
      go_ret
      exact ⟨rfl, hB⟩

set_option maxHeartbeats 2000000 in
theorem lawSums (ao : Option Addr) (n cap : Nat) (f : Nat → Int) (w : World) (hv : View w ao n cap f) (hn63 : n ≤ 9223372036854775807) :
    Calls Try.prog 4 #[.slice ao n cap] w fun e w' => e = .returned (.bool true) ∧ Below w.heap.size w w' := by
  by_cases hbig : 1048576 < n
  · have hd : decide ((1048576 : Int) < (n : Int)) = true := by simp; omega
    go_enter Try.func4, Try.ntmps4
    go_wp2_with fail
    refine (big_any ao n cap w hn63).mono ?_
    rw [hd]
    rintro e _ ⟨rfl, rfl⟩
    go_wp2
    go_ret
    exact ⟨rfl, Below.refl _ _⟩
  have hd : decide ((1048576 : Int) < (n : Int)) = false := by simp; omega
  have hn : n ≤ 1048576 := by omega
  clear hbig
  go_enter Try.func4, Try.ntmps4
  go_wp2_with fail
  refine (big_any ao n cap w hn63).mono ?_
  rw [hd]
  rintro e _ ⟨rfl, rfl⟩
  clear hd
  go_wp2_with fail
  refine (drawPutSum_any ao n cap f w hn hv).mono ?_
  rintro e w1 ⟨⟨b, c, m, l, rfl, hO1⟩, hb1⟩
  have hm9 := hO1.few
  have hlb := hO1.row.lt
  go_wp2_with fail
  refine (putSum_impl b 0 m c _ w1 hO1.view (by omega)).mono ?_
  rintro e w2 ⟨g, cg, rfl, hg, hgc, hrow, hb2⟩
  have hlg := hrow.lt
  have HB : Hid (∀ i, i < m + 4 → 0 ≤ (lof m (fun i => l.getD i 0) ++ sumL (crc m (fun i => l.getD i 0))).getD i 0 ∧ (lof m (fun i => l.getD i 0) ++ sumL (crc m (fun i => l.getD i 0))).getD i 0 ≤ 255) := put_byte m _ _ hO1.bytes (sumL_byte _)
  have HG : Hid _ := sum_put m (fun i => l.getD i 0) hO1.bytes
  have HE : Hid (∀ i, i < m → (lof m (fun i => l.getD i 0) ++ sumL (crc m (fun i => l.getD i 0))).getD i 0 = l.getD i 0) := by
    intro i hi
    rw [← lof_get m (fun i => l.getD i 0) i hi, List.getD_eq_getElem?_getD, List.getD_eq_getElem?_getD, List.getElem?_append_left (by rw [lof_len]; exact hi)]
  obtain ⟨F, hF⟩ : ∃ F : Nat → Int, F = fun i => (lof m (fun i => l.getD i 0) ++ sumL (crc m (fun i => l.getD i 0))).getD i 0 := ⟨_, rfl⟩
  replace HB : Hid (∀ i, i < m + 4 → 0 ≤ F i ∧ F i ≤ 255) := by rw [hF]; exact HB
  replace HG : Hid (last4 m F = (crc m F : Int)) := by rw [hF]; exact HG
  replace HE : Hid (∀ i, i < m → F i = l.getD i 0) := by rw [hF]; exact HE
  rw [← hF] at hrow
  clear hF
  have hw1 := hO1.row.belowAll hb2
  have HO1 : Hid (∀ i, i < m → 0 ≤ l.getD i 0 ∧ l.getD i 0 ≤ 255) := hO1.bytes
  have hle1 := hO1.le
  have hnew := hO1.new
  have hs1 := hb1.size
  replace hb2 := hb1.trans (hb2.mono hb1.size)
  clear hO1 hb1
  go_wp2_with fail
  refine (getSum_impl_yes m F (by omega) HB.out HG.out g cg w2 (hrow.view hgc HB.out)).mono ?_
  rintro e w3 ⟨gx, cx, rfl, hgx, hcx, hrx, hb3⟩
  have hs2 := hb2.size
  have hr3 := hrow.belowAll hb3
  have hw3 := hw1.belowAll hb3
  have hlx := hrx.lt
  replace hb3 := hb2.trans (hb3.mono hb2.size)
  clear hrow hw1 hb2
  have hq : (((m + 4 : Nat) : Int) != (m : Int) + 4) = false := by simp
  go_wp2
  clear hq
  obtain ⟨x2, hx2⟩ : ∃ x, Hid (atN n f 2 = x) := ⟨_, rfl⟩
  obtain ⟨x3, hx3⟩ : ∃ x, Hid (atN n f 3 = x) := ⟨_, rfl⟩
  have hx2b : x2 ≤ 255 := by rw [← hx2.out]; exact atN_le n f 2 hv.byte
  have hx3b : x3 ≤ 255 := by rw [← hx3.out]; exact atN_le n f 3 hv.byte
  have hv3 : View w3.drew ao n cap f := (hv.below hb3).drew
  obtain ⟨j, hj, hjm⟩ : ∃ j : Nat, j < m + 4 ∧ (x2 : Int) % ((m : Int) + 4) = (j : Int) := ⟨x2 % (m + 4), Nat.mod_lt _ (by omega), by push_cast; rfl⟩
  have hjz : (j : Int) < (m : Int) + 4 := by omega
  have hcj : w3.drew.cell? ⟨g, j, none⟩ = some (.int .u8 (F j)) := hr3.cell hj
  have hfj : w3.drew.frozen? ⟨g, j, none⟩ = false := hr3.frozen _
  have hcj' : w3.cell? ⟨g, j, none⟩ = some (.int .u8 (F j)) := hr3.cell hj
  have hfj' : w3.frozen? ⟨g, j, none⟩ = false := hr3.frozen _
  go_region_with (first | (go_at_call_of 15 (Value.int IntKind.i64 2); refine (at_val ao n cap f 2 _ x2 _ hx2 ?_ hn (by omega) rfl).mono ?_; exact hv3; rintro e _ ⟨rfl, rfl⟩) | (go_at_call_of 15 (Value.int IntKind.i64 3); refine (at_val ao n cap f 3 _ x3 _ hx3 ?_ hn (by omega) rfl).mono ?_; exact hv3; rintro e _ ⟨rfl, rfl⟩))
  all_goals
    clear hjm hcj hfj hcj' hfj' hx2 hx2b hx3 hv3
    go_wp2_with fail
    have hbit := bit_turned (F j) (x3 % 8) (HB.out j hj) (Nat.mod_lt _ (by decide))
    rw [small_pow x3]
    generalize bits .xor .u8 (F j) (2 ^ (x3 % 8)) = v at *
    have hr4 : Row 5 (w3.setCell ⟨g, j, none⟩ (.int .u8 v)).drew g (m + 4) (fun i => if i = j then v else F i) := hr3.set j v
    have hO4 : Only g w3 (w3.setCell ⟨g, j, none⟩ (.int .u8 v)).drew := ((Only.refl _ _).setCell _).drew
    have hx4 := hO4.row hrx (by omega)
    have hw4 := hO4.row hw3 (by omega)
    have hb4 : Below w.heap.size w (w3.setCell ⟨g, j, none⟩ (.int .u8 v)).drew := hb3.trans (hO4.below (by omega))
    have HF : Hid (∀ i, i < m + 4 → 0 ≤ (if i = j then v else F i) ∧ (if i = j then v else F i) ≤ 255) := by
      intro i hi
      by_cases e : i = j
      · rw [if_pos e]; exact hbit.1
      · rw [if_neg e]; exact HB.out i hi
    have HT : Hid _ := sum_turned HB.out HG.out hj hbit.1 hbit.2
    clear hr3 hO4 hrx hw3 hb3 hbit
    refine (getSum_impl_no m _ (by omega) HF.out HT.out g cg _ (hr4.view hgc HF.out)).mono ?_
    generalize (w3.setCell ⟨g, j, none⟩ (.int .u8 v)).drew = w4 at *
    rintro e w5 ⟨gy, cy, rfl, hgy, hcy, -, hb5⟩
    have hx5 := hx4.belowAll hb5
    have hw5 := hw4.belowAll hb5
    replace hb5 := hb4.trans (hb5.mono hb4.size)
    clear hx4 hw4 hb4 hr4 HT HF
    obtain ⟨cc, hcc⟩ : ∃ cc, Hid (crc m (fun i => l.getD i 0) = cc) := ⟨_, rfl⟩
    have hccl : (cc : Int) ≤ 4294967295 := by have := crc_lt HO1.out; rw [hcc.out] at this; omega
    go_wp2_with fail
    refine (crc_impl' _ m c _ w5 hcc (hw5.view hle1 HO1.out) (by omega)).mono ?_
    rintro e _ ⟨rfl, rfl⟩
    go_wp2_with fail
    refine (sameBytes_same _ _ m cx c F (fun i => l.getD i 0) w5 (hx5.view hcx (fun i hi => HB.out i (by omega))) (hw5.view hle1 HO1.out) (by omega) HE.out).mono ?_
    rintro e w6 ⟨rfl, hb6⟩
    replace hb6 := hb5.trans (hb6.mono hb5.size)
    clear hb5 hx5 hw5
    go_wp2
    go_ret
    exact ⟨rfl, hb6⟩
end Go.Proofs.Ytjkoipdcpkkkeaa
