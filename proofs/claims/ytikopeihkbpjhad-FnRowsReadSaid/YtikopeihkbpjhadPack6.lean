/-
  Together: RowEncLen, DrawDecRow, RowDecs, GetWalks, GetSpec, GetTextSpec, RowValSpec, GetSumSpec, RowDecSpec, GetBit, RowReadI, GetVarImpl, GetTextImpl
-/
import Derived.Test.YtikopeihkbpjhadPack5
import Derived.Test.YtikopeihkbpjhadPack4
import Derived.Test.YtikopeihkbpjhadPack3
import Derived.Test.YtikopeihkbpjhadPack1
import Derived.Test.YtikopeihkbpjhadPack2
/-
  The bytes of a row: bytes, and few of them.
-/
namespace Go.Proofs.Ytikopeihkbpjhad
open Go.RowKit
set_option maxRecDepth 4000

theorem encB_byte (n : Nat) (fc ft : Nat → Int) (fu : Nat → Bool) (m : Nat) (fk fn : Nat → Int) (fs : Nat → ByteArray) : ∀ y ∈ encB n fc ft fu m fk fn fs, 0 ≤ y ∧ y ≤ 255 := by
  unfold encB
  cases rowOk n fc ft fu m fk fn fs with
  | false => intro y hy; cases hy
  | true => exact sumB_byte (rowB_byte m fk fn fs)
theorem encB_few (n : Nat) (fc ft : Nat → Int) (fu : Nat → Bool) (m : Nat) (fk fn : Nat → Int) (fs : Nat → ByteArray) : (encB n fc ft fu m fk fn fs).length ≤ 1004 := by
  unfold encB
  cases hok : rowOk n fc ft fu m fk fn fs with
  | false => exact Nat.zero_le _
  | true =>
    have hrk := hok
    unfold rowOk at hrk
    simp only [Bool.and_eq_true, decide_eq_true_eq] at hrk
    obtain ⟨hpk, hmn, hfa⟩ := hrk
    obtain ⟨-, hfit⟩ := fitsAll_iff.1 hfa
    have hm6 : m ≤ 6 := by have := (planOk_iff.1 hpk).2; omega
    have hOK : ∀ i, i < m → okF (fk i) (fn i) (fs i) = true := fun i hi => by have := hfit i hi; unfold fitsP at this; simp only [Bool.and_eq_true] at this; exact this.1
    show (sumB (rowB m fk fn fs)).length ≤ 1004
    rw [sumB_len]
    have h1 : (keyT (fun i => valB (fk i) (fn i) (fs i)) m).length ≤ m * 69 := keyT_len (fun i hi => by
      have h3 := valB_len (fk i) (fn i) (fs i)
      have h4 := okF_few (hOK i hi)
      show (valB (fk i) (fn i) (fs i)).length ≤ 69
      omega)
    have h2 := (groups_len (clampN (m : Int))).2
    have h3 : (rowB m fk fn fs).length = (groups (clampN (m : Int))).length + (keyT (fun i => valB (fk i) (fn i) (fs i)) m).length := by
      show (groups (clampN (m : Int)) ++ _).length = _
      rw [List.length_append]
    omega
end Go.Proofs.Ytikopeihkbpjhad

/-
  The draw of a plan and of bytes that may be a row's.
-/
namespace Go.Proofs.Ytikopeihkbpjhad
open Go.RowKit
set_option maxRecDepth 4000

/-- A plan and bytes. -/
structure DrewRowB (w' : World) (a : Option Addr) (b m cp N c1 : Nat) (gc gt : Nat → Int) (gu gd : Nat → Bool) (F : Nat → Int) : Prop where
  few : m ≤ 7 ∧ N ≤ 2000
  plan : PView w' a m cp gc gt gu gd
  bytes : View w' (some ⟨b, 0, none⟩) N c1 F

theorem PView.kept {B g : Nat} {w w' : World} {b m cp : Nat} {gc gt : Nat → Int} {gu gd : Nat → Bool} (h : PView w (some ⟨b, 0, none⟩) m cp gc gt gu gd) (hk : Kept B g w w') (hb : b < B) (hg : b ≠ g) : PView w' (some ⟨b, 0, none⟩) m cp gc gt gu gd := by
  refine ⟨h.le, fun hm => ?_⟩
  obtain ⟨b', off, e, hlt, hc⟩ := h.cells hm
  cases e
  refine ⟨b, 0, rfl, Nat.lt_of_lt_of_le hlt hk.size, fun i hi => ?_⟩
  have ec : ∀ j, w'.cell? ⟨b, j, none⟩ = w.cell? ⟨b, j, none⟩ := fun j => World.cell?_of_block (hk.block b hb hg)
  rw [ec, ec, ec, ec]
  exact hc i hi

set_option maxHeartbeats 4000000 in
theorem drawDecodeRow_any (ao : Option Addr) (n cap : Nat) (f : Nat → Int) (w : World) (hn : n ≤ 1048576) (hv : View w ao n cap f) :
    Calls Try.prog 5 #[.slice ao n cap] w fun e w' => (∃ a m cp b N c1 gc gt gu gd F, e = .returned (.tuple #[.slice a m cp, .slice (some ⟨b, 0, none⟩) N c1]) ∧ DrewRowB w' a b m cp N c1 gc gt gu gd F) ∧ Below w.heap.size w w' := by
  obtain ⟨A, hA⟩ : ∃ A, A = w.heap.size := ⟨_, rfl⟩
  have HA : Hid (A = w.heap.size) := hA
  go_enter Try.func5, Try.ntmps5
  go_wp2_with fail
  refine (l1New_at A ao n cap f w hA hn hv).mono ?_
  rintro e w1 ⟨rfl, hC1, hb1⟩
  have hAl := hC1.lt
  clear hA hv
  go_wp2_with fail
  refine (l6Any_any A ao n cap f w1 hn hC1).mono ?_
  rintro e w2 ⟨b, m, cp, gc, gt, gu, gd, rfl, hP⟩
  have hbA : b ≠ A := by have := hP.new; omega
  have hm1 := hP.pos
  have hm7 := hP.few
  have hpv := hP.view
  have hC2 := hP.cur
  have hB2 := hP.but
  have hs2 : A < w2.heap.size := Nat.lt_of_lt_of_le hAl hB2.size
  clear hP hC1
  go_wp2_with fail
  refine (l7Row_any A ao n cap f b m cp gc gt gu gd w2 hn hC2 hpv hbA hm1 hm7).mono ?_
  rintro e w3 ⟨b1, M, c1, fk, fn, fs, rfl, hV⟩
  have hpv3 := hpv.but hV.but (fun X e => by cases e; exact hbA)
  have hvv := hV.view
  have hM := hV.few
  have Hsh : Hid (∀ i, i < M → (fs i).size ≤ 40) := hV.short
  have hC3 := hV.cur
  have hB3 := hB2.trans hV.but
  clear hV hC2 hB2 hpv
  go_wp2_with fail
  refine (specEncodeRow_any _ m cp gc gt gu gd _ M c1 fk fn fs w3 hpv3 hvv (by omega) (by omega) (fun i hi => by have := Hsh.out i hi; omega)).mono ?_
  rintro e w4 ⟨g, cg, rfl, hE, hO⟩
  have HY : Hid (∀ y ∈ encB m gc gt gu M fk fn fs, 0 ≤ y ∧ y ≤ 255) := encB_byte m gc gt gu M fk fn fs
  have hLn := encB_few m gc gt gu M fk fn fs
  generalize encB m gc gt gu M fk fn fs = L at *
  have hB := hE.below
  have hpv4 := hpv3.below hB
  have hC4 := hC3.below hB
  have hB4 := hB3.trans (But.ofBelow (g := A) hB)
  have hbl : b < w3.heap.size := by obtain ⟨b', off, e, hlt, -⟩ := hpv3.cells (by omega); cases e; exact hlt
  have hcl : ∀ a, ao = some a → 0 < n → a.block < w3.heap.size := hC3.code
  have HCL : Hid (∀ a, ao = some a → 0 < n → a.block < w3.heap.size) := hcl
  have hA3 := hC3.lt
  have hs34 := hB.size
  have HO : Hid (OwnB w3 w4 g cg L) := hO
  clear hE hO hpv3 hC3 hB3 hvv hB hcl
  by_cases hlt : 4 < L.length
  · have hlz : (4 : Int) < (L.length : Int) := by omega
    go_wp2_with fail
    refine (l1Once_any A ao n cap f 3 w4 hn (by omega) (by omega) hC4).mono ?_
    rintro e w5 ⟨o, rfl, hC5, hO5⟩
    have hB5 := hB4.trans (But.ofOnly hO5)
    have hpv5 := hpv4.but (But.ofOnly hO5) (fun X e => by cases e; exact hbA)
    have hs45 := hO5.size
    have hown5 : w5.ownsRow w3.heap.size 5 1 (.slice (some ⟨g, 0, none⟩) L.length cg) L.length (bl L) := World.ownsRow.kept HO.out hO5.grown (Or.inr (fun e => by have := (World.ownsRow.lt HO.out A e).1; omega))
    clear HO hC4 hB4 hpv4 hO5
    cases o with
    | true =>
      obtain ⟨b', c', e', hb', hrc⟩ := RowC.ofOwn hown5 (by simp)
      cases e'
      obtain ⟨N, hN⟩ : ∃ N, L.length = N + 4 := ⟨L.length - 4, by omega⟩
      have hcN : L.length ≤ cg := by obtain ⟨cur, h1, h2, h3, h4⟩ := hrc; exact h3
      have hcut : RowC 5 w5 g N cg (fun i => L.getD i 0) := by
        obtain ⟨cur, h1, h2, h3, h4, h5⟩ := hrc
        exact ⟨cur, h1, h2, by omega, h4, fun i hi => h5 i (by omega)⟩
      have HOwn : Hid _ := hcut.own hb'
      have HYN : Hid (∀ y ∈ lof N (fun i => L.getD i 0), 0 ≤ y ∧ y ≤ 255) := fun y hy => by
        simp only [lof, List.mem_map, List.mem_range] at hy
        obtain ⟨i, hi, rfl⟩ := hy
        have h1 : i < L.length := by omega
        have e : L.getD i 0 = L[i] := by simp [List.getD, List.getElem?_eq_getElem h1]
        rw [e]; exact HY.out _ (List.getElem_mem h1)
      have h4z : (L.length : Int) - 4 = N := by omega
      clear hown5 hrc hcut
      go_wp2_with fail
      refine (l1Bend_all A ao n cap f w3.heap.size _ N (lof N (fun i => L.getD i 0)) w5 hn (by omega) hC5 HOwn.out (lof_len _ _) HYN.out (by simp) hA3 HCL.out (by omega)).mono ?_
      rintro e w8 ⟨⟨b', cc, N', F, hD⟩, hC8, hK8⟩
      obtain ⟨rfl, hm, hbn, hF⟩ := hD
      have hpv8 := hpv5.kept hK8 hbl hbA
      have hB8 : Below A w1 w8 := (hB5.below (Nat.le_refl _) (Nat.le_of_lt hAl)).trans (hK8.below (Nat.le_refl _) (by omega))
      clear hpv5 hK8 hC8 hC5 HOwn hB5
      go_wp2_with fail
      refine (putSum_spec b' 0 N' cc F w8 hF (by omega)).mono ?_
      rintro e w9 ⟨g9, c9, rfl, hg9, hc9, hr9, hb9⟩
      have HD : Hid (DrewRowB w9 (some ⟨b, 0, none⟩) g9 m cp (N' + 4) c9 gc gt gu gd (fun i => (lof N' F ++ sumL (crc N' F)).getD i 0)) := ⟨⟨hm7, by omega⟩, hpv8.below hb9, hr9.view hc9 (put_byte N' F _ hF.byte (sumL_byte _))⟩
      have HB : Hid (Below w.heap.size w w9) := hb1.trans ((hB8.trans (hb9.mono (by have := hB8.size; omega))).mono (by rw [HA.out]; exact Nat.le_refl _))
      clear hF hpv8 hB8 hr9 hb9
      go_wp2
      exact bodyPost_ret (v := .tuple #[_, _]) (by simp [results, Try.results5, go_sem]) rfl ⟨⟨_, m, cp, g9, N' + 4, c9, gc, gt, gu, gd, _, rfl, HD.out⟩, HB.out⟩
    | false =>
      go_wp2_with fail
      refine (l1Bend_all A ao n cap f w3.heap.size _ L.length L w5 hn (by omega) hC5 hown5 rfl HY.out (by simp) hA3 HCL.out (by omega)).mono ?_
      rintro e w8 ⟨⟨b', cc, N', F, hD⟩, hC8, hK8⟩
      obtain ⟨rfl, hm, hbn, hF⟩ := hD
      have HD : Hid (DrewRowB w8 (some ⟨b, 0, none⟩) b' m cp N' cc gc gt gu gd F) := ⟨⟨hm7, by omega⟩, hpv5.kept hK8 hbl hbA, hF⟩
      have HB : Hid (Below w.heap.size w w8) := hb1.trans ((hB5.below (by rw [HA.out]; exact Nat.le_refl _) hb1.size).trans (hK8.below (by rw [HA.out]; exact Nat.le_refl _) (by have := HA.out; omega)))
      clear hF hpv5 hK8 hC8 hC5 hown5 hB5
      go_wp2
      exact bodyPost_ret (v := .tuple #[_, _]) (by simp [results, Try.results5, go_sem]) rfl ⟨⟨_, m, cp, b', N', cc, gc, gt, gu, gd, F, rfl, HD.out⟩, HB.out⟩
  · have hlz : ¬ (4 : Int) < (L.length : Int) := by omega
    have hown5 := HO.out
    go_wp2_with fail
    refine (l1Bend_all A ao n cap f w3.heap.size _ L.length L w4 hn (by omega) hC4 hown5 rfl HY.out (by simp) hA3 HCL.out (by omega)).mono ?_
    rintro e w8 ⟨⟨b', cc, N', F, hD⟩, hC8, hK8⟩
    obtain ⟨rfl, hm, hbn, hF⟩ := hD
    have HD : Hid (DrewRowB w8 (some ⟨b, 0, none⟩) b' m cp N' cc gc gt gu gd F) := ⟨⟨hm7, by omega⟩, hpv4.kept hK8 hbl hbA, hF⟩
    have HB : Hid (Below w.heap.size w w8) := hb1.trans ((hB4.below (by rw [HA.out]; exact Nat.le_refl _) hb1.size).trans (hK8.below (by rw [HA.out]; exact Nat.le_refl _) (by have := HA.out; omega)))
    clear hF hpv4 hK8 hC8 hC4 hown5 hB4
    go_wp2
    exact bodyPost_ret (v := .tuple #[_, _]) (by simp [results, Try.results5, go_sem]) rfl ⟨⟨_, m, cp, b', N', cc, gc, gt, gu, gd, F, rfl, HD.out⟩, HB.out⟩
end Go.Proofs.Ytikopeihkbpjhad

/-
  What DecodeRow comes to.
-/
namespace Go.Proofs.Ytikopeihkbpjhad
open Go.RowKit
set_option maxRecDepth 4000

/-- How many bytes are before the sum, where it is right. -/
def sumN (N : Nat) (F : Nat → Int) : Nat := if sumGood N F then N - 4 else 0
/-- Whether bytes are a row of the plan, with its sum. -/
def decROk (N : Nat) (F : Nat → Int) (n : Nat) (fc ft : Nat → Int) (fu : Nat → Bool) : Bool := sumGood N F && rowRd (N - 4) F n fc ft fu
/-- What DecodeRow comes to. -/
def DecsR (w : World) (n N : Nat) (F : Nat → Int) (fc ft : Nat → Int) (fu : Nat → Bool) (e : Ending) (w' : World) : Prop :=
  ∃ v M, e = .returned (.tuple #[v, .bool (decROk N F n fc ft fu)]) ∧ v ≠ .slice none 0 0 ∧ M = (if decROk N F n fc ft fu then rCnt (N - 4) F else 0) ∧ w'.ownsRow w.heap.size 47 3 v M (rowC (rK (N - 4) F) (rN (N - 4) F) (rS (N - 4) F) M) ∧ Below w.heap.size w w'

/-- A row of bytes is no row of values. -/
theorem Row.not_own {w : World} {g n : Nat} {f : Nat → Int} {base size k : Nat} {v : Value} {xs : List Value} {t e : TypeId} (h : Row t w g n f) (hte : t ≠ e) (hr : w.ownsRow base e size v k xs) : some g ≠ v.ownBlock := by
  obtain ⟨c, hb, _⟩ := h
  rcases hr.2 with ⟨rfl, _⟩ | ⟨g', cap, cur, rfl, _, hgb, _⟩
  · simp [Value.ownBlock]
  · intro e'
    obtain rfl : g = g' := by simpa [Value.ownBlock] using e'
    rw [hb] at hgb
    simp at hgb
    exact hte hgb.2
end Go.Proofs.Ytikopeihkbpjhad

/-
  The program's GetU and the model's come to the same plain function, at every slice of bytes that reads and at every place.
-/
namespace Go.Proofs.Ytikopeihkbpjhad
open Go.RowKit
set_option maxRecDepth 4000

theorem ret3 {a b a' b' : Int} {c c' : Bool} (h1 : a = a') (h2 : b = b') (h3 : c = c') :
    Ending.returned (.tuple #[.int .i64 a, .int .i64 b, .bool c]) = .returned (.tuple #[.int .i64 a', .int .i64 b', .bool c']) := by rw [h1, h2, h3]

def getRet (r : Int × Int × Bool) : Ending := .returned (.tuple #[.int .i64 r.1, .int .i64 r.2.1, .bool r.2.2])

set_option maxHeartbeats 1000000 in
theorem getU_impl (ao : Option Addr) (n cap : Nat) (f : Nat → Int) (p : Int) (w : World) (hv : View w ao n cap f) (hn : n ≤ 281474976710656) (hp1 : p ≤ 9223372036854775807) :
    Calls Try.prog 19 #[.slice ao n cap, .int .i64 p] w fun e w' => e = getRet (getU n f p) ∧ w' = w := by
  by_cases hp : p < 0
  · rw [getU_neg n f p hp]
    go_enter Try.func19, Try.ntmps19
    go_wp2
    go_ret3
    exact ⟨rfl, rfl⟩
  obtain ⟨i, rfl⟩ := Int.eq_ofNat_of_zero_le (Int.not_lt.1 hp)
  by_cases h0 : i < n
  case neg =>
    rw [getU_past n f i (by omega)]
    have hge : (n : Int) ≤ (i : Int) := by omega
    go_enter Try.func19, Try.ntmps19
    go_wp2
    refine wp_loop_rounds 1 ?_
    rw [rounds_succ]
    go_wp2
    go_ret3
    exact ⟨rfl, rfl⟩
  obtain ⟨b, off, rfl, hb, hc⟩ := hv.cells (by omega)
  have hb0 := hv.byte i h0
  have hc0 := hc i h0
  have hz0 : (i : Int) < (n : Int) := by omega
  by_cases h1 : f i < 128
  · rw [getU_1 n f i h0 h1]
    clear hc hv
    go_enter Try.func19, Try.ntmps19
    go_wp2
    refine wp_loop_rounds 1 ?_
    rw [rounds_succ]
    go_wp2
    all_goals
      go_ret3
      exact ⟨ret3 (by first | rfl | (dsimp only; omega)) (by first | rfl | (dsimp only; omega)) rfl, rfl⟩
  by_cases h2 : i + 1 < n
  case neg =>
    rw [getU_2end n f i h0 (by omega) (by omega)]
    clear hc hv
    go_enter Try.func19, Try.ntmps19
    go_wp2
    refine wp_loop_rounds 2 ?_
    rw [rounds_succ]
    go_wp2
    all_goals
      rw [rounds_succ]
      go_wp2
    all_goals
      go_ret3
      exact ⟨ret3 (by first | rfl | (dsimp only; omega)) (by first | rfl | (dsimp only; omega)) rfl, rfl⟩
  have hb1 := hv.byte (i + 1) h2
  have hc1 := hc (i + 1) h2
  have hz1 : (i : Int) + 1 < (n : Int) := by omega
  by_cases h3 : f (i + 1) < 128
  case pos =>
    by_cases h4 : f (i + 1) = 0
    case pos =>
      rw [getU_2zero n f i h2 (by omega) h4]
      clear hc hv
      go_enter Try.func19, Try.ntmps19
      go_wp2
      refine wp_loop_rounds 2 ?_
      rw [rounds_succ]
      go_wp2
      all_goals
        rw [rounds_succ]
        go_wp2
      all_goals
        go_ret3
        exact ⟨ret3 (by first | rfl | (dsimp only; omega)) (by first | rfl | (dsimp only; omega)) rfl, rfl⟩
    case neg =>
      rw [getU_2 n f i h2 (by omega) h3 h4]
      clear hc hv
      go_enter Try.func19, Try.ntmps19
      go_wp2
      refine wp_loop_rounds 2 ?_
      rw [rounds_succ]
      go_wp2
      all_goals
        rw [rounds_succ]
        go_wp2
      all_goals
        go_ret3
        exact ⟨ret3 (by first | rfl | (dsimp only; omega)) (by first | rfl | (dsimp only; omega)) rfl, rfl⟩
  by_cases h5 : i + 2 < n
  case neg =>
    rw [getU_3end n f i h2 (by omega) (by omega) (by omega)]
    clear hc hv
    go_enter Try.func19, Try.ntmps19
    go_wp2
    refine wp_loop_rounds 3 ?_
    rw [rounds_succ]
    go_wp2
    all_goals
      rw [rounds_succ]
      go_wp2
    all_goals
      rw [rounds_succ]
      go_wp2
    all_goals
      go_ret3
      exact ⟨ret3 (by first | rfl | (dsimp only; omega)) (by first | rfl | (dsimp only; omega)) rfl, rfl⟩
  have hb2 := hv.byte (i + 2) h5
  have hc2 := hc (i + 2) h5
  have hz2 : (i : Int) + 2 < (n : Int) := by omega
  by_cases h6 : f (i + 2) < 128
  case neg =>
    rw [getU_long n f i h5 (by omega) (by omega) (by omega)]
    clear hc hv
    go_enter Try.func19, Try.ntmps19
    go_wp2
    refine wp_loop_rounds 4 ?_
    rw [rounds_succ]
    go_wp2
    all_goals
      rw [rounds_succ]
      go_wp2
    all_goals
      rw [rounds_succ]
      go_wp2
    all_goals
      rw [rounds_succ]
      go_wp2
    all_goals
      go_ret3
      exact ⟨ret3 (by first | rfl | (dsimp only; omega)) (by first | rfl | (dsimp only; omega)) rfl, rfl⟩
  by_cases h7 : f (i + 2) = 0 ∨ 1000000 < f i - 128 + (f (i + 1) - 128) * 128 + f (i + 2) * 16384
  case pos =>
    rw [getU_3no n f i h5 (by omega) (by omega) h6 h7]
    clear hc hv
    go_enter Try.func19, Try.ntmps19
    go_wp2
    refine wp_loop_rounds 3 ?_
    rw [rounds_succ]
    go_wp2
    all_goals
      rw [rounds_succ]
      go_wp2
    all_goals
      rw [rounds_succ]
      go_wp2
    all_goals
      go_ret3
      exact ⟨ret3 (by first | rfl | (dsimp only; omega)) (by first | rfl | (dsimp only; omega)) rfl, rfl⟩
  case neg =>
    rw [getU_3 n f i h5 (by omega) (by omega) h6 h7]
    clear hc hv
    go_enter Try.func19, Try.ntmps19
    go_wp2
    refine wp_loop_rounds 3 ?_
    rw [rounds_succ]
    go_wp2
    all_goals
      rw [rounds_succ]
      go_wp2
    all_goals
      rw [rounds_succ]
      go_wp2
    all_goals
      go_ret3
      exact ⟨ret3 (by first | rfl | (dsimp only; omega)) (by first | rfl | (dsimp only; omega)) rfl, rfl⟩
end Go.Proofs.Ytikopeihkbpjhad

/-
  The model's GetU comes to the same plain function as the program, at every slice of bytes that reads and at every place.
-/
namespace Go.Proofs.Ytikopeihkbpjhad
open Go.RowKit
set_option maxRecDepth 4000

set_option maxHeartbeats 1000000 in
theorem getU_spec (ao : Option Addr) (n cap : Nat) (f : Nat → Int) (p : Int) (w : World) (hv : View w ao n cap f) (hn : n ≤ 281474976710656) (hp1 : p ≤ 9223372036854775807) :
    Calls Try.prog 23 #[.slice ao n cap, .int .i64 p] w fun e w' => e = getRet (getU n f p) ∧ w' = w := by
  by_cases hp : p < 0
  · rw [getU_neg n f p hp]
    go_enter Try.func23, Try.ntmps23
    go_wp2
    refine wp_loop_rounds 1 ?_
    rw [rounds_succ]
    go_wp2
    go_ret3
    exact ⟨rfl, rfl⟩
  obtain ⟨i, rfl⟩ := Int.eq_ofNat_of_zero_le (Int.not_lt.1 hp)
  by_cases h0 : i < n
  case neg =>
    rw [getU_past n f i (by omega)]
    have hge : (n : Int) ≤ (i : Int) := by omega
    go_enter Try.func23, Try.ntmps23
    go_wp2
    refine wp_loop_rounds 1 ?_
    rw [rounds_succ]
    go_wp2
    go_ret3
    exact ⟨rfl, rfl⟩
  obtain ⟨b, off, rfl, hb, hc⟩ := hv.cells (by omega)
  have hb0 := hv.byte i h0
  have hc0 := hc i h0
  have hz0 : (i : Int) < (n : Int) := by omega
  have hA : ∀ x : Int, bits .and .i64 x 127 = x % 128 := i64_and127
  have q0 : bits .or .i64 0 (f i % 128) = f i % 128 := by
    rw [i64_or_add 0 0 (f i % 128) (by omega) (by decide) (by omega) (by simp [Int.emod_one]) (by omega) (by decide)]; omega
  by_cases h1 : f i < 128
  · rw [getU_1 n f i h0 h1]
    clear hc hv
    go_enter Try.func23, Try.ntmps23
    go_wp2
    refine wp_loop_rounds 1 ?_
    rw [rounds_succ]
    go_wp2
    all_goals
      go_ret3
      exact ⟨ret3 (by first | rfl | (dsimp only; omega)) (by first | rfl | (dsimp only; omega)) rfl, rfl⟩
  by_cases h2 : i + 1 < n
  case neg =>
    rw [getU_2end n f i h0 (by omega) (by omega)]
    clear hc hv
    go_enter Try.func23, Try.ntmps23
    go_wp2
    refine wp_loop_rounds 2 ?_
    rw [rounds_succ]
    go_wp2
    all_goals
      rw [rounds_succ]
      go_wp2
    all_goals
      go_ret3
      exact ⟨ret3 (by first | rfl | (dsimp only; omega)) (by first | rfl | (dsimp only; omega)) rfl, rfl⟩
  have hb1 := hv.byte (i + 1) h2
  have hc1 := hc (i + 1) h2
  have hz1 : (i : Int) + 1 < (n : Int) := by omega
  have q1 : bits .or .i64 (f i % 128) (f (i + 1) % 128 * 128) = f i % 128 + f (i + 1) % 128 * 128 :=
    i64_or_add 7 _ _ (by omega) (by show _ < (128 : Int); omega) (by omega) (by show _ % (128 : Int) = 0; omega) (by omega) (by decide)
  by_cases h3 : f (i + 1) < 128
  case pos =>
    by_cases h4 : f (i + 1) = 0
    case pos =>
      rw [getU_2zero n f i h2 (by omega) h4]
      clear hc hv
      go_enter Try.func23, Try.ntmps23
      go_wp2
      refine wp_loop_rounds 2 ?_
      rw [rounds_succ]
      go_wp2
      all_goals
        rw [rounds_succ]
        go_wp2
      all_goals
        go_ret3
        exact ⟨ret3 (by first | rfl | (dsimp only; omega)) (by first | rfl | (dsimp only; omega)) rfl, rfl⟩
    case neg =>
      rw [getU_2 n f i h2 (by omega) h3 h4]
      clear hc hv
      have hq1 : (f (i + 1) == 0) = false := beq_eq_false_iff_ne.2 h4
      go_enter Try.func23, Try.ntmps23
      go_wp2
      refine wp_loop_rounds 2 ?_
      rw [rounds_succ]
      go_wp2
      all_goals
        rw [rounds_succ]
        go_wp2
      all_goals
        go_ret3
        exact ⟨ret3 (by first | rfl | (dsimp only; omega)) (by first | rfl | (dsimp only; omega)) rfl, rfl⟩
  by_cases h5 : i + 2 < n
  case neg =>
    rw [getU_3end n f i h2 (by omega) (by omega) (by omega)]
    clear hc hv
    go_enter Try.func23, Try.ntmps23
    go_wp2
    refine wp_loop_rounds 3 ?_
    rw [rounds_succ]
    go_wp2
    all_goals
      rw [rounds_succ]
      go_wp2
    all_goals
      rw [rounds_succ]
      go_wp2
    all_goals
      go_ret3
      exact ⟨ret3 (by first | rfl | (dsimp only; omega)) (by first | rfl | (dsimp only; omega)) rfl, rfl⟩
  have hb2 := hv.byte (i + 2) h5
  have hc2 := hc (i + 2) h5
  have hz2 : (i : Int) + 2 < (n : Int) := by omega
  have q2 : bits .or .i64 (f i % 128 + f (i + 1) % 128 * 128) (f (i + 2) % 128 * 16384) = f i % 128 + f (i + 1) % 128 * 128 + f (i + 2) % 128 * 16384 :=
    i64_or_add 14 _ _ (by omega) (by show _ < (16384 : Int); omega) (by omega) (by show _ % (16384 : Int) = 0; omega) (by omega) (by decide)
  by_cases h6 : f (i + 2) < 128
  case neg =>
    rw [getU_long n f i h5 (by omega) (by omega) (by omega)]
    clear hc hv
    go_enter Try.func23, Try.ntmps23
    go_wp2
    refine wp_loop_rounds 4 ?_
    rw [rounds_succ]
    go_wp2
    all_goals
      rw [rounds_succ]
      go_wp2
    all_goals
      rw [rounds_succ]
      go_wp2
    all_goals
      rw [rounds_succ]
      go_wp2
    all_goals
      go_ret3
      exact ⟨ret3 (by first | rfl | (dsimp only; omega)) (by first | rfl | (dsimp only; omega)) rfl, rfl⟩
  by_cases h7 : f (i + 2) = 0 ∨ 1000000 < f i - 128 + (f (i + 1) - 128) * 128 + f (i + 2) * 16384
  case pos =>
    rw [getU_3no n f i h5 (by omega) (by omega) h6 h7]
    clear hc hv
    go_enter Try.func23, Try.ntmps23
    go_wp2
    refine wp_loop_rounds 3 ?_
    rw [rounds_succ]
    go_wp2
    all_goals
      rw [rounds_succ]
      go_wp2
    all_goals
      rw [rounds_succ]
      go_wp2
    all_goals
      go_ret3
      exact ⟨ret3 (by first | rfl | (dsimp only; omega)) (by first | rfl | (dsimp only; omega)) rfl, rfl⟩
  case neg =>
    rw [getU_3 n f i h5 (by omega) (by omega) h6 h7]
    clear hc hv
    have hq2 : (f (i + 2) == 0) = false := beq_eq_false_iff_ne.2 (fun e => h7 (Or.inl e))
    go_enter Try.func23, Try.ntmps23
    go_wp2
    refine wp_loop_rounds 3 ?_
    rw [rounds_succ]
    go_wp2
    all_goals
      rw [rounds_succ]
      go_wp2
    all_goals
      rw [rounds_succ]
      go_wp2
    all_goals
      go_ret3
      exact ⟨ret3 (by first | rfl | (dsimp only; omega)) (by first | rfl | (dsimp only; omega)) rfl, rfl⟩
end Go.Proofs.Ytikopeihkbpjhad

/-
  The model's GetText: the bytes behind a number that says how many they are, as a text.
-/
namespace Go.Proofs.Ytikopeihkbpjhad
open Go.RowKit
set_option maxRecDepth 4000

theorem getU_spec' {a b : Int} {c : Bool} (ao : Option Addr) (n cap : Nat) (f : Nat → Int) (p : Int) (w : World) (hg : Hid (getU n f p = (a, b, c))) (hv : View w ao n cap f) (hn : n ≤ 281474976710656) (hp1 : p ≤ 9223372036854775807) :
    Calls Try.prog 23 #[.slice ao n cap, .int .i64 p] w fun e w' => e = .returned (.tuple #[.int .i64 a, .int .i64 b, .bool c]) ∧ w = w' := by
  refine (getU_spec ao n cap f p w hv hn hp1).mono ?_
  rintro e w' ⟨he, hw⟩
  rw [hg.out] at he
  exact ⟨he, hw.symm⟩
set_option maxHeartbeats 1000000 in
theorem getText_spec (b off n cap : Nat) (f : Nat → Int) (p : Int) (w : World) (s : ByteArray) (q : Int) (ok : Bool) (hg : Hid (getText n f p = (s, q, ok))) (hv : View w (some ⟨b, off, none⟩) n cap f) (hn : n ≤ 281474976710656) (hp1 : p ≤ 9223372036854775807) :
    Calls Try.prog 49 #[.slice (some ⟨b, off, none⟩) n cap, .int .i64 p] w fun e w' => e = .returned (.tuple #[.string s, .int .i64 q, .bool ok]) ∧ w = w' := by
  obtain ⟨a, r, c, hu⟩ : ∃ a r c, Hid (getU n f p = (a, r, c)) := ⟨_, _, _, rfl⟩
  have hbd : c = true → 0 ≤ a ∧ a ≤ 1000000 ∧ 0 ≤ r ∧ r ≤ n := by rintro rfl; exact getU_bd hv.byte hu.out
  have hT : getText n f p = if c = true ∧ a ≤ n - r then (strOfNums (lof a.toNat (fun i => f (r.toNat + i))), r + a, true) else (strOfNums [], 0, false) := by unfold getText; rw [hu.out]
  rw [hg.out] at hT
  cases c with
  | false =>
    rw [if_neg (by simp)] at hT
    cases hT
    clear hbd
    go_enter Try.func49, Try.ntmps49
    go_wp2_with fail
    refine (getU_spec' _ n cap f p w hu hv hn hp1).mono ?_
    rintro e _ ⟨rfl, rfl⟩
    go_wp2
    go_ret3
    exact ⟨rfl, rfl⟩
  | true =>
    obtain ⟨h0, h1, h2, h3⟩ := hbd rfl
    obtain ⟨a, rfl⟩ := Int.eq_ofNat_of_zero_le h0
    obtain ⟨r, rfl⟩ := Int.eq_ofNat_of_zero_le h2
    clear hbd
    by_cases hl : (a : Int) ≤ n - r
    · rw [if_pos ⟨rfl, hl⟩, Int.toNat_natCast, Int.toNat_natCast] at hT
      simp only [Prod.mk.injEq] at hT
      obtain ⟨rfl, rfl, rfl⟩ := hT
      have hle := hv.le
      have hcap : (r : Int) + a ≤ cap := by omega
      by_cases hrc : r < cap
      · have hrz : (r : Int) < cap := by omega
        have q1 : (convert 22 9 (.slice (some ⟨b, off + r, none⟩) a (cap - r))).run Try.prog w = .ok (.string (strOfNums (lof a (fun i => f (r + i))))) w := conv_view (hv.cut (by omega))
        go_enter Try.func49, Try.ntmps49
        go_wp2_with fail
        refine (getU_spec' _ n cap f p w hu hv hn hp1).mono ?_
        rintro e _ ⟨rfl, rfl⟩
        go_wp2
        go_ret3
        exact ⟨rfl, rfl⟩
      · obtain rfl : r = cap := by omega
        obtain rfl : a = 0 := by omega
        have hrz : ¬ (r : Int) < r := by omega
        have q2 : (convert 22 9 (.slice (some ⟨b, off, none⟩) 0 0)).run Try.prog w = .ok (.string (strOfNums (lof 0 f))) w := conv_view ⟨Nat.le_refl _, fun _ h => absurd h (Nat.not_lt_zero _), fun h => absurd h (Nat.lt_irrefl _)⟩
        go_enter Try.func49, Try.ntmps49
        go_wp2_with fail
        refine (getU_spec' _ n r f p w hu hv hn hp1).mono ?_
        rintro e _ ⟨rfl, rfl⟩
        go_wp2
        go_ret3
        exact ⟨retT rfl (by omega) rfl, rfl⟩
    · rw [if_neg (by simp [hl])] at hT
      cases hT
      have hl2 : (n : Int) - r < a := by omega
      go_enter Try.func49, Try.ntmps49
      go_wp2_with fail
      refine (getU_spec' _ n cap f p w hu hv hn hp1).mono ?_
      rintro e _ ⟨rfl, rfl⟩
      go_wp2
      go_ret3
      exact ⟨rfl, rfl⟩
end Go.Proofs.Ytikopeihkbpjhad

/-
  The model's l7Val comes to the plain one.
-/
namespace Go.Proofs.Ytikopeihkbpjhad
open Go.RowKit
set_option maxRecDepth 4000

set_option linter.unusedSimpArgs false in
set_option maxHeartbeats 2000000 in
theorem specL7Val_any (b off N cb : Nat) (F : Nat → Int) (p : Int) (w : World) (hv : View w (some ⟨b, off, none⟩) N cb F) (hN : N ≤ 10000000) (hp1 : p ≤ 9223372036854775807) :
    Calls Try.prog 24 #[.slice (some ⟨b, off, none⟩) N cb, .int .i64 p] w fun e w' => e = gotRet (getR N F p) ∧ Below w.heap.size w w' := by
  obtain ⟨a, q1, ok, hu⟩ : ∃ a q1 ok, Hid (getU N F p = (a, q1, ok)) := ⟨_, _, _, rfl⟩
  have hb1 : Below w.heap.size w (w.alloc (.cells #[.int .i64 0, .int .i64 0, .string ⟨#[]⟩] 47)) := (Below.refl _ _).alloc (Nat.le_refl _) _
  have hbd : ok = true → 0 ≤ a ∧ a ≤ 1000000 ∧ 0 ≤ q1 ∧ q1 ≤ N := by rintro rfl; exact getU_bd hv.byte hu.out
  have hno : ok = false → a = 0 ∧ q1 = 0 := by rintro rfl; exact getU_none hu.out
  have hq1 : q1 ≤ 9223372036854775807 := by cases ok with
    | true => have := hbd rfl; omega
    | false => have := hno rfl; omega
  have hR := Box.new w 0 0 ⟨#[]⟩
  have hv1 := hv.below hb1
  obtain ⟨W1, hW1⟩ : ∃ W1, Hid (w.alloc (.cells #[.int .i64 0, .int .i64 0, .string ⟨#[]⟩] 47) = W1) := ⟨_, rfl⟩
  have hb2 : Below W1.heap.size W1 (W1.alloc (.cells #[.int .i64 a, .int .i64 0, .string ⟨#[]⟩] 47)) := (Below.refl _ _).alloc (Nat.le_refl _) _
  have hV := Box.new W1 a 0 ⟨#[]⟩
  rw [hW1.out] at hR hv1 hb1
  have hR2 := hR.below hb2
  have hv2 := hv1.below hb2
  have hB2 := hb1.trans (hb2.mono hb1.size)
  have hl1 : w.heap.size < W1.heap.size := hR.lt
  obtain ⟨W2, hW2⟩ : ∃ W2, Hid (W1.alloc (.cells #[.int .i64 a, .int .i64 0, .string ⟨#[]⟩] 47) = W2) := ⟨_, rfl⟩
  obtain ⟨A, hA⟩ : ∃ A, Hid (W1.heap.size = A) := ⟨_, rfl⟩
  rw [hW2.out] at hV hR2 hv2 hB2
  rw [hA.out] at hV
  have hAw : w.heap.size < A := by rw [← hA.out]; exact hl1
  go_enter Try.func24, Try.ntmps24
  go_wp2_with (rw [hW1.out])
  refine (getU_spec' _ N cb F p W1 hu hv1 (by omega) hp1).mono ?_
  rintro e _ ⟨rfl, rfl⟩
  clear hR hv1 hb2 hv
  have hG : Hid (getR N F p = (if a = 1 ∨ a = 2 then ⟨a, (getV N F q1).1, noBytes, (getV N F q1).2.1, ok && (getV N F q1).2.2⟩
    else if a = 3 then ⟨3, 0, (getText N F q1).1, (getText N F q1).2.1, ok && (getText N F q1).2.2⟩
    else if a = 4 then (if q1 < N then ⟨4, F q1.toNat, noBytes, q1 + 1, ok⟩ else ⟨4, 0, noBytes, q1, false⟩)
    else ⟨a, 0, noBytes, q1, ok⟩)) := by show _ = _; unfold getR; rw [hu.out]
  have hne : A ≠ w.heap.size := by omega
  clear hu
  obtain ⟨z0, z1, z2⟩ := hV.cells
  obtain ⟨y0, y1, y2⟩ := hV.frozen
  obtain ⟨r0, r1, r2⟩ := hR2.cells
  obtain ⟨s0, s1, s2⟩ := hR2.frozen
  by_cases c1 : a = 1 ∨ a = 2
  · obtain rfl : ok = true := by cases ok with
      | true => rfl
      | false => have := hno rfl; omega
    obtain ⟨v, q2, o2, hgv⟩ : ∃ v q2 o2, Hid (getV N F q1 = (v, q2, o2)) := ⟨_, _, _, rfl⟩
    have HG : Hid (getR N F p = ⟨a, v, noBytes, q2, o2⟩) := by show _ = _; rw [hG.out, if_pos c1, hgv.out]; rfl
    have hC := getVar_spec b off N cb F q1 W2 hgv hv2 (by omega) hq1
    clear hG hgv hno hbd
    rcases c1 with rfl | rfl
    · go_wp2_with (rw [hW2.out, hA.out])
      refine hC.mono ?_
      rintro e w3 ⟨rfl, hb3⟩
      have hV3 := hV.below hb3
      have hR3 := hR2.below hb3
      have hB3 := hB2.trans (hb3.mono hB2.size)
      clear hC z0 z1 z2 y0 y1 y2 r0 r1 r2 s0 s1 s2
      obtain ⟨z0, z1, z2⟩ := hV3.cells
      obtain ⟨y0, y1, y2⟩ := hV3.frozen
      obtain ⟨r0, r1, r2⟩ := hR3.cells
      obtain ⟨s0, s1, s2⟩ := hR3.frozen
      have hR4 : Box (w3.setCell ⟨A, 1, none⟩ (.int .i64 v)) w.heap.size 0 0 ⟨#[]⟩ := hR3.other (D := A) (i := 1) (Ne.symm hne) (.int .i64 v)
      obtain ⟨g0, g1, g2⟩ := hR4.cells
      have hgs := stored3 (.int .i64 1) (.int .i64 v) (.string ⟨#[]⟩) g0 g1 g2
      have HBf : Hid (Below w.heap.size w ((((w3.setCell ⟨A, 1, none⟩ (.int .i64 v)).setCell ⟨w.heap.size, 0, none⟩ (.int .i64 1)).setCell ⟨w.heap.size, 1, none⟩ (.int .i64 v)).setCell ⟨w.heap.size, 2, none⟩ (.string ⟨#[]⟩))) := (((hB3.setCell (p := ⟨A, 1, none⟩) (Nat.le_of_lt hAw) (.int .i64 v)).setCell (p := ⟨w.heap.size, 0, none⟩) (Nat.le_refl _) _).setCell (p := ⟨w.heap.size, 1, none⟩) (Nat.le_refl _) _).setCell (p := ⟨w.heap.size, 2, none⟩) (Nat.le_refl _) _
      clear hb3 hV3 hV hR2 hv2 hB2 hR3 hR4 hB3
      go_wp2
      exact bodyPost_ret (v := .tuple #[.agg #[.int .i64 1, .int .i64 v, .string ⟨#[]⟩], .int .i64 q2, .bool o2]) (by simp [results, Try.results24, go_sem, hgs]) rfl ⟨by rw [HG.out]; rfl, HBf.out⟩
    · go_wp2_with (rw [hW2.out, hA.out])
      refine hC.mono ?_
      rintro e w3 ⟨rfl, hb3⟩
      have hV3 := hV.below hb3
      have hR3 := hR2.below hb3
      have hB3 := hB2.trans (hb3.mono hB2.size)
      clear hC z0 z1 z2 y0 y1 y2 r0 r1 r2 s0 s1 s2
      obtain ⟨z0, z1, z2⟩ := hV3.cells
      obtain ⟨y0, y1, y2⟩ := hV3.frozen
      obtain ⟨r0, r1, r2⟩ := hR3.cells
      obtain ⟨s0, s1, s2⟩ := hR3.frozen
      have hR4 : Box (w3.setCell ⟨A, 1, none⟩ (.int .i64 v)) w.heap.size 0 0 ⟨#[]⟩ := hR3.other (D := A) (i := 1) (Ne.symm hne) (.int .i64 v)
      obtain ⟨g0, g1, g2⟩ := hR4.cells
      have hgs := stored3 (.int .i64 2) (.int .i64 v) (.string ⟨#[]⟩) g0 g1 g2
      have HBf : Hid (Below w.heap.size w ((((w3.setCell ⟨A, 1, none⟩ (.int .i64 v)).setCell ⟨w.heap.size, 0, none⟩ (.int .i64 2)).setCell ⟨w.heap.size, 1, none⟩ (.int .i64 v)).setCell ⟨w.heap.size, 2, none⟩ (.string ⟨#[]⟩))) := (((hB3.setCell (p := ⟨A, 1, none⟩) (Nat.le_of_lt hAw) (.int .i64 v)).setCell (p := ⟨w.heap.size, 0, none⟩) (Nat.le_refl _) _).setCell (p := ⟨w.heap.size, 1, none⟩) (Nat.le_refl _) _).setCell (p := ⟨w.heap.size, 2, none⟩) (Nat.le_refl _) _
      clear hb3 hV3 hV hR2 hv2 hB2 hR3 hR4 hB3
      go_wp2
      exact bodyPost_ret (v := .tuple #[.agg #[.int .i64 2, .int .i64 v, .string ⟨#[]⟩], .int .i64 q2, .bool o2]) (by simp [results, Try.results24, go_sem, hgs]) rfl ⟨by rw [HG.out]; rfl, HBf.out⟩
  by_cases c2 : a = 3
  · obtain rfl : ok = true := by cases ok with
      | true => rfl
      | false => have := hno rfl; omega
    obtain ⟨v, q2, o2, hgv⟩ : ∃ v q2 o2, Hid (getText N F q1 = (v, q2, o2)) := ⟨_, _, _, rfl⟩
    have HG : Hid (getR N F p = ⟨3, 0, v, q2, o2⟩) := by show _ = _; rw [hG.out, if_neg c1, if_pos c2, hgv.out]; rfl
    have hC : Calls Try.prog 49 #[.slice (some ⟨b, off, none⟩) N cb, .int .i64 q1] W2 fun e w' => e = .returned (.tuple #[.string v, .int .i64 q2, .bool o2]) ∧ Below W2.heap.size W2 w' := (getText_spec b off N cb F q1 W2 v q2 o2 hgv hv2 (by omega) hq1).mono (fun e w' h => ⟨h.1, by rw [← h.2]; exact Below.refl _ _⟩)
    clear hG hgv hno hbd c1
    subst c2
    go_wp2_with (rw [hW2.out, hA.out])
    refine hC.mono ?_
    rintro e w3 ⟨rfl, hb3⟩
    have hV3 := hV.below hb3
    have hR3 := hR2.below hb3
    have hB3 := hB2.trans (hb3.mono hB2.size)
    clear hC z0 z1 z2 y0 y1 y2 r0 r1 r2 s0 s1 s2
    obtain ⟨z0, z1, z2⟩ := hV3.cells
    obtain ⟨y0, y1, y2⟩ := hV3.frozen
    obtain ⟨r0, r1, r2⟩ := hR3.cells
    obtain ⟨s0, s1, s2⟩ := hR3.frozen
    have hR4 : Box (w3.setCell ⟨A, 2, none⟩ (.string v)) w.heap.size 0 0 ⟨#[]⟩ := hR3.other (D := A) (i := 2) (Ne.symm hne) (.string v)
    obtain ⟨g0, g1, g2⟩ := hR4.cells
    have hgs := stored3 (.int .i64 3) (.int .i64 0) (.string v) g0 g1 g2
    have HBf : Hid (Below w.heap.size w ((((w3.setCell ⟨A, 2, none⟩ (.string v)).setCell ⟨w.heap.size, 0, none⟩ (.int .i64 3)).setCell ⟨w.heap.size, 1, none⟩ (.int .i64 0)).setCell ⟨w.heap.size, 2, none⟩ (.string v))) := (((hB3.setCell (p := ⟨A, 2, none⟩) (Nat.le_of_lt hAw) (.string v)).setCell (p := ⟨w.heap.size, 0, none⟩) (Nat.le_refl _) _).setCell (p := ⟨w.heap.size, 1, none⟩) (Nat.le_refl _) _).setCell (p := ⟨w.heap.size, 2, none⟩) (Nat.le_refl _) _
    clear hb3 hV3 hV hR2 hv2 hB2 hR3 hR4 hB3
    go_wp2
    exact bodyPost_ret (v := .tuple #[.agg #[.int .i64 3, .int .i64 0, .string v], .int .i64 q2, .bool o2]) (by simp [results, Try.results24, go_sem, hgs]) rfl ⟨by rw [HG.out]; rfl, HBf.out⟩
  by_cases c3 : a = 4
  · obtain rfl : ok = true := by cases ok with
      | true => rfl
      | false => have := hno rfl; omega
    have hbq := hbd rfl
    obtain ⟨j, rfl⟩ : ∃ j : Nat, q1 = j := ⟨q1.toNat, by omega⟩
    have hR3 := hR2
    have hB3 := hB2
    by_cases c4 : (j : Int) < (N : Int)
    · obtain ⟨b', o', e', hlt', hcc⟩ := hv2.cells (by omega)
      cases e'
      have hcj := hcc j (by omega)
      obtain ⟨v, hvj⟩ : ∃ v, F j = v := ⟨_, rfl⟩
      rw [hvj] at hcj
      have hvb := hv2.byte j (by omega)
      rw [hvj] at hvb
      have hwv : wrap64 v = v := by unfold wrap64; omega
      have HG : Hid (getR N F p = ⟨4, v, noBytes, (j : Int) + 1, true⟩) := by show _ = _; rw [hG.out, if_neg c1, if_neg c2, if_pos c3, if_pos c4, Int.toNat_natCast, hvj]
      clear hG hno hbd c1 c2 hcc hvj
      subst c3
      have hR4 : Box (W2.setCell ⟨A, 1, none⟩ (.int .i64 v)) w.heap.size 0 0 ⟨#[]⟩ := hR3.other (D := A) (i := 1) (Ne.symm hne) (.int .i64 v)
      obtain ⟨g0, g1, g2⟩ := hR4.cells
      have hgs := stored3 (.int .i64 4) (.int .i64 v) (.string ⟨#[]⟩) g0 g1 g2
      have HBf : Hid (Below w.heap.size w ((((W2.setCell ⟨A, 1, none⟩ (.int .i64 v)).setCell ⟨w.heap.size, 0, none⟩ (.int .i64 4)).setCell ⟨w.heap.size, 1, none⟩ (.int .i64 v)).setCell ⟨w.heap.size, 2, none⟩ (.string ⟨#[]⟩))) := (((hB3.setCell (p := ⟨A, 1, none⟩) (Nat.le_of_lt hAw) (.int .i64 v)).setCell (p := ⟨w.heap.size, 0, none⟩) (Nat.le_refl _) _).setCell (p := ⟨w.heap.size, 1, none⟩) (Nat.le_refl _) _).setCell (p := ⟨w.heap.size, 2, none⟩) (Nat.le_refl _) _
      clear hV hR2 hv2 hB2 hR3 hR4 hB3
      go_wp2_with (rw [hW2.out, hA.out])
      exact bodyPost_ret (v := .tuple #[.agg #[.int .i64 4, .int .i64 v, .string ⟨#[]⟩], .int .i64 ((j : Int) + 1), .bool true]) (by simp [results, Try.results24, go_sem, hgs]) rfl ⟨by rw [HG.out]; rfl, HBf.out⟩
    · have HG : Hid (getR N F p = ⟨4, 0, noBytes, (j : Int), false⟩) := by show _ = _; rw [hG.out, if_neg c1, if_neg c2, if_pos c3, if_neg c4]
      clear hG hno hbd c1 c2
      subst c3
      have hR4 : Box W2 w.heap.size 0 0 ⟨#[]⟩ := hR3
      obtain ⟨g0, g1, g2⟩ := hR4.cells
      have hgs := stored3 (.int .i64 4) (.int .i64 0) (.string ⟨#[]⟩) g0 g1 g2
      have HBf : Hid (Below w.heap.size w (((W2.setCell ⟨w.heap.size, 0, none⟩ (.int .i64 4)).setCell ⟨w.heap.size, 1, none⟩ (.int .i64 0)).setCell ⟨w.heap.size, 2, none⟩ (.string ⟨#[]⟩))) := ((hB3.setCell (p := ⟨w.heap.size, 0, none⟩) (Nat.le_refl _) _).setCell (p := ⟨w.heap.size, 1, none⟩) (Nat.le_refl _) _).setCell (p := ⟨w.heap.size, 2, none⟩) (Nat.le_refl _) _
      clear hV hR2 hv2 hB2 hR3 hR4 hB3
      go_wp2_with (rw [hW2.out, hA.out])
      exact bodyPost_ret (v := .tuple #[.agg #[.int .i64 4, .int .i64 0, .string ⟨#[]⟩], .int .i64 (j : Int), .bool false]) (by simp [results, Try.results24, go_sem, hgs]) rfl ⟨by rw [HG.out]; rfl, HBf.out⟩
  have HG : Hid (getR N F p = ⟨a, 0, noBytes, q1, ok⟩) := by show _ = _; rw [hG.out, if_neg c1, if_neg c2, if_neg c3]
  have c11 : ¬ a = 1 := fun e => c1 (.inl e)
  have c12 : ¬ a = 2 := fun e => c1 (.inr e)
  have hR3 := hR2
  have hB3 := hB2
  clear hG hno hbd c1
  have hR4 : Box W2 w.heap.size 0 0 ⟨#[]⟩ := hR3
  obtain ⟨g0, g1, g2⟩ := hR4.cells
  have hgs := stored3 (.int .i64 a) (.int .i64 0) (.string ⟨#[]⟩) g0 g1 g2
  have HBf : Hid (Below w.heap.size w (((W2.setCell ⟨w.heap.size, 0, none⟩ (.int .i64 a)).setCell ⟨w.heap.size, 1, none⟩ (.int .i64 0)).setCell ⟨w.heap.size, 2, none⟩ (.string ⟨#[]⟩))) := ((hB3.setCell (p := ⟨w.heap.size, 0, none⟩) (Nat.le_refl _) _).setCell (p := ⟨w.heap.size, 1, none⟩) (Nat.le_refl _) _).setCell (p := ⟨w.heap.size, 2, none⟩) (Nat.le_refl _) _
  clear hV hR2 hv2 hB2 hR3 hR4 hB3
  cases ok
  all_goals
    go_wp2_with (rw [hW2.out, hA.out])
    first | exact bodyPost_ret (v := .tuple #[.agg #[.int .i64 a, .int .i64 0, .string ⟨#[]⟩], .int .i64 q1, .bool true]) (by simp [results, Try.results24, go_sem, hgs]) rfl ⟨by rw [HG.out]; rfl, HBf.out⟩ | exact bodyPost_ret (v := .tuple #[.agg #[.int .i64 a, .int .i64 0, .string ⟨#[]⟩], .int .i64 q1, .bool false]) (by simp [results, Try.results24, go_sem, hgs]) rfl ⟨by rw [HG.out]; rfl, HBf.out⟩
end Go.Proofs.Ytikopeihkbpjhad

/-
  The model's GetSum: it answers as the program's.
-/
namespace Go.Proofs.Ytikopeihkbpjhad
open Go.RowKit
set_option maxRecDepth 4000

theorem i64_add_or (x y : Int) (h0 : 0 ≤ x) (h1 : x ≤ 16777215) (h2 : 0 ≤ y) (h3 : y ≤ 255) : bits .or .i64 (x * 256) y = x * 256 + y := by
  have e : bits .or .i64 (x * 256) y = bits .or .i64 y (x * 256) := by simp only [bits, BitVec.or_comm]
  rw [e, i64_or_add 8 y (x * 256) h2 (by show _ < (256 : Int); omega) (by omega) (by show _ % (256 : Int) = 0; omega) (by omega) (by decide)]
  omega

set_option maxHeartbeats 1000000 in
theorem getSum_spec_few (n : Nat) (f : Nat → Int) (hn : n < 4) : Gives 22 n f 0 false := by
  intro b cap w hv
  have hz : (n : Int) - 4 < 0 := by omega
  go_enter Try.func22, Try.ntmps22
  go_wp2
  go_ret2
  exact ⟨_, _, rfl, Nat.le_refl _, Nat.le_refl _, noRow _ _ _, (Below.refl _ _).alloc (Nat.le_refl _) _⟩

set_option maxRecDepth 100000 in
set_option maxHeartbeats 2000000 in
theorem getSum_spec_all (m : Nat) (f : Nat → Int) (hn : m + 4 ≤ 1048576) (hf : ∀ i, i < m + 4 → 0 ≤ f i ∧ f i ≤ 255) (N : Nat) (B : Bool) (hs : (last4 m f = (crc m f : Int) ∧ N = m ∧ B = true) ∨ (last4 m f ≠ (crc m f : Int) ∧ N = 0 ∧ B = false)) : Gives 22 (m + 4) f N B := by
  intro b cap w hv
  obtain ⟨i0, hi, hz0, hz1, hz2⟩ := info_parts Try.info5
  have hz : (0 : Int) ≤ (m : Int) := by omega
  have hcl : (m : Int) ≤ (cap : Int) := by have := hv.le; omega
  obtain ⟨b', off', e, hb, hc⟩ := hv.cells (by omega)
  simp only [Option.some.injEq, Addr.mk.injEq, and_true] at e
  obtain ⟨rfl, rfl⟩ := e
  have hc0 := hc m (by omega)
  have hc1 := hc (m + 1) (by omega)
  have hc2 := hc (m + 2) (by omega)
  have hc3 := hc (m + 3) (by omega)
  rw [Nat.zero_add] at hc0 hc1 hc2 hc3
  obtain ⟨b00, b01⟩ := hf m (by omega)
  obtain ⟨b10, b11⟩ := hf (m + 1) (by omega)
  obtain ⟨b20, b21⟩ := hf (m + 2) (by omega)
  obtain ⟨b30, b31⟩ := hf (m + 3) (by omega)
  have q0 : bits .or .i64 0 (f m) = f m := by have := i64_add_or 0 (f m) (by omega) (by omega) b00 b01; simpa using this
  have q1 := i64_add_or (f m) (f (m + 1)) b00 (by omega) b10 b11
  have q2 := i64_add_or (f m * 256 + f (m + 1)) (f (m + 2)) (by omega) (by omega) b20 b21
  have q3 := i64_add_or ((f m * 256 + f (m + 1)) * 256 + f (m + 2)) (f (m + 3)) (by omega) (by omega) b30 b31
  obtain ⟨c, hcc⟩ : ∃ c, Hid (crc m f = c) := ⟨_, rfl⟩
  rw [hcc.out] at hs
  unfold last4 at hs
  have hown0 := World.ownsRow_lit (base := w.heap.size) (e := 5) (size := 1) w #[] 0 (Nat.le_refl _) (Nat.zero_le _) rfl
  have hb0 : Below w.heap.size w (w.alloc (.cells #[] 5)) := (Below.refl _ _).alloc (Nat.le_refl _) _
  have hclc := cells_of_view ((hv.take (m := m) (by omega)).below hb0)
  have hsz : (w.alloc (.cells #[] 5)).heap.size = w.heap.size + 1 := by simp
  clear hc hf
  rcases hs with ⟨hs, rfl, rfl⟩ | ⟨hs, rfl, rfl⟩
  · have hne : (((f N * 256 + f (N + 1)) * 256 + f (N + 2)) * 256 + f (N + 3) != (c : Int)) = false := by simp [hs]
    have HS : Hid (((f N * 256 + f (N + 1)) * 256 + f (N + 2)) * 256 + f (N + 3) = (c : Int)) := hs
    clear hs
    go_enter Try.func22, Try.ntmps22
    go_wp2
    refine wp_loop_rounds 5 ?_
    rw [rounds_succ]
    go_wp2
    rw [rounds_succ]
    go_wp2
    rw [rounds_succ]
    go_wp2
    rw [rounds_succ]
    go_wp2
    rw [rounds_succ]
    go_wp2_with fail
    refine (crc_spec' _ N cap f w hcc (hv.take (by omega)) (by omega)).mono ?_
    rintro e _ ⟨rfl, rfl⟩
    go_wp2_with (at_builtin; go_must (refine wpList_append_own _ rfl (.tmp 35) (.tmp 38) 22 rfl w.heap.size 5 i0 (.int .u8 0) 1 1 Try.underlying22 hi hz0 hz1 hz2 rfl (by decide) (.slice (some ⟨w.heap.size, 0, none⟩) 0 0) 0 [] rfl hown0 ⟨b, 0, none⟩ N cap (bl (lof N f)) rfl (by rw [bl_len, lof_len]; omega) hclc (bl_one _) (by unfold maxLen; omega) (by omega) (by rw [hsz]; omega) ?_); intro v1 w1 hown1 hgr1 hnil)
    have hb1 : Below w.heap.size w w1 := hb0.grown hgr1 (by simp) (fun k hk => by simp only [Value.ownBlock, Option.some.injEq] at hk; omega)
    rw [Nat.zero_add, List.nil_append] at hown1
    obtain ⟨g, c', hv1, hg, hgc, hrow⟩ := row_of_own' hown1 (fun h => by have := hnil.1 h; simp at this)
    go_ret2
    rw [hv1]
    exact ⟨g, c', rfl, hg, hgc, hrow.congr (fun i hi => lof_get N f i hi), hb1⟩
  · have hne : (((f m * 256 + f (m + 1)) * 256 + f (m + 2)) * 256 + f (m + 3) != (c : Int)) = true := by simp [hs]
    clear hs
    go_enter Try.func22, Try.ntmps22
    go_wp2
    refine wp_loop_rounds 5 ?_
    rw [rounds_succ]
    go_wp2
    rw [rounds_succ]
    go_wp2
    rw [rounds_succ]
    go_wp2
    rw [rounds_succ]
    go_wp2
    rw [rounds_succ]
    go_wp2_with fail
    refine (crc_spec' _ m cap f w hcc (hv.take (by omega)) (by omega)).mono ?_
    rintro e _ ⟨rfl, rfl⟩
    go_wp2
    go_ret2
    exact ⟨_, _, rfl, Nat.le_refl _, Nat.le_refl _, noRow _ _ _, (Below.refl _ _).alloc (Nat.le_refl _) _⟩
end Go.Proofs.Ytikopeihkbpjhad

/-
  The model's DecodeRow: the values of a row, in a row of its own.
-/
namespace Go.Proofs.Ytikopeihkbpjhad
open Go.RowKit
set_option maxRecDepth 4000

theorem getSum_spec_is (N : Nat) (F : Nat → Int) (hN : N ≤ 1048576) (hb : ∀ i, i < N → 0 ≤ F i ∧ F i ≤ 255) : Gives 22 N F (sumN N F) (sumGood N F) := by
  by_cases h4 : N < 4
  · have e : sumGood N F = false := by unfold sumGood; simp; omega
    have e2 : sumN N F = 0 := by unfold sumN; rw [e]; rfl
    rw [e, e2]
    exact getSum_spec_few N F h4
  · obtain ⟨m, rfl⟩ : ∃ m, N = m + 4 := ⟨N - 4, by omega⟩
    refine getSum_spec_all m F hN hb _ _ ?_
    by_cases hc : last4 m F = (crc m F : Int)
    · have e : sumGood (m + 4) F = true := by unfold sumGood; simp [hc]
      exact .inl ⟨hc, by unfold sumN; rw [e]; simp, e⟩
    · have e : sumGood (m + 4) F = false := by unfold sumGood; simp [hc]
      exact .inr ⟨hc, by unfold sumN; rw [e]; rfl, e⟩

set_option linter.unusedSimpArgs false in
set_option maxHeartbeats 2000000 in
theorem specDecodeRow_any (a : Option Addr) (n cap : Nat) (fc ft : Nat → Int) (fu fd : Nat → Bool) (b N cb : Nat) (F : Nat → Int) (w : World) (h : PView w a n cap fc ft fu fd) (hv : View w (some ⟨b, 0, none⟩) N cb F) (hn : n ≤ 1048576) (hN : N ≤ 1048576) :
    Calls Try.prog 7 #[.slice a n cap, .slice (some ⟨b, 0, none⟩) N cb] w (DecsR w n N F fc ft fu) := by
  obtain ⟨i0, hi, hz0, hz1, hz2⟩ := infoVal3
  have none_ : ∀ (W : World), Below w.heap.size w W → decROk N F n fc ft fu = false → DecsR w n N F fc ft fu (.returned (.tuple #[.slice (some ⟨W.heap.size, 0, none⟩) 0 0, .bool false])) (W.alloc (.cells #[] 47)) := fun W hB e =>
    ⟨_, 0, by rw [e], by simp, by rw [e]; rfl, World.ownsRow_lit (base := w.heap.size) (e := 47) (size := 3) W #[] 0 hB.size (Nat.zero_le _) rfl, hB.alloc hB.size _⟩
  have Hnone : Hid (∀ (W : World), Below w.heap.size w W → decROk N F n fc ft fu = false → DecsR w n N F fc ft fu (.returned (.tuple #[.slice (some ⟨W.heap.size, 0, none⟩) 0 0, .bool false])) (W.alloc (.cells #[] 47))) := none_
  clear none_
  have hS := getSum_spec_is N F hN hv.byte b cb w hv
  have hFb : Hid (∀ i, i < N → 0 ≤ F i ∧ F i ≤ 255) := hv.byte
  cases hg : sumGood N F with
  | false =>
    have e0 : sumN N F = 0 := by unfold sumN; rw [hg]; rfl
    have HD : Hid (decROk N F n fc ft fu = false) := by show _ = _; unfold decROk; rw [hg]; rfl
    rw [hg, e0] at hS
    clear hv
    go_enter Try.func7, Try.ntmps7
    go_wp2_with fail
    refine hS.mono ?_
    rintro e w1 ⟨gx, cx, rfl, -, hcx, hx, hB1⟩
    have hvx := hx.view hcx (fun i hi => absurd hi (Nat.not_lt_zero _))
    have hu : Hid (getU 0 F 0 = (0, 0, false)) := getU_past 0 F 0 (Nat.le_refl _)
    clear hS hx
    go_wp2_with fail
    refine (getU_spec' _ 0 cx F 0 w1 hu hvx (by omega) (by omega)).mono ?_
    rintro e _ ⟨rfl, rfl⟩
    clear hvx hu
    go_wp2
    have HB2 : Hid (Below w.heap.size w (w1.alloc (.cells #[] 47))) := hB1.alloc hB1.size _
    obtain ⟨W2, hW2⟩ : ∃ W2, Hid (w1.alloc (.cells #[] 47) = W2) := ⟨_, rfl⟩
    rw [hW2.out] at HB2 ⊢
    go_loopg [12] 0 (fun q i wr => q = 0 ∧ i = .int .i64 0 ∧ wr = W2)
    case atStart => exact ⟨rfl, rfl, rfl⟩
    case round =>
      obtain ⟨-, rfl, rfl⟩ := hrel
      have HN := Hnone.out wr HB2.out HD.out
      have HN' : Hid (DecsR w n N F fc ft fu (.returned (.tuple #[.slice (some ⟨wr.heap.size, 0, none⟩) 0 0, .bool false])) (wr.alloc (.cells #[] 47))) := HN
      clear HN Hnone HB2
      go_wp2
      exact bodyPost_ret (v := .tuple #[.slice (some ⟨wr.heap.size, 0, none⟩) 0 0, .bool false]) (by simp [results, Try.results7, go_sem]) rfl HN'.out
  | true =>
    have e0 : sumN N F = N - 4 := by unfold sumN; rw [hg]; rfl
    rw [hg, e0] at hS
    have hN4 : 4 ≤ N := by unfold sumGood at hg; simp at hg; exact hg.1
    obtain ⟨M, hM⟩ : ∃ M, Hid (N - 4 = M) := ⟨_, rfl⟩
    have hMN : M ≤ N := by rw [← hM.out]; omega
    rw [hM.out] at hS
    have HD0 : Hid (decROk N F n fc ft fu = rowRd M F n fc ft fu) := by show _ = _; unfold decROk; rw [hg, hM.out]; rfl
    have hbM : Hid (∀ i, i < M → 0 ≤ F i ∧ F i ≤ 255) := fun i hi => hFb.out i (by omega)
    clear hv hg e0
    obtain ⟨cnt0, p0, ok, hu⟩ : ∃ a q ok, Hid (getU M F 0 = (a, q, ok)) := ⟨_, _, _, rfl⟩
    go_enter Try.func7, Try.ntmps7
    go_wp2_with fail
    refine hS.mono ?_
    rintro e w1 ⟨gx, cx, rfl, hgx, hcx, hx, hB1⟩
    have hvx := hx.view hcx hbM.out
    clear hS
    go_wp2_with fail
    refine (getU_spec' _ M cx F 0 w1 hu hvx (by omega) (by omega)).mono ?_
    rintro e _ ⟨rfl, rfl⟩
    cases ok with
    | false =>
      have HD : Hid (decROk N F n fc ft fu = false) := by show _ = _; rw [HD0.out]; unfold rowRd; rw [hu.out]; rfl
      clear hvx hu
      go_wp2
      have HB2 : Hid (Below w.heap.size w (w1.alloc (.cells #[] 47))) := hB1.alloc hB1.size _
      obtain ⟨W2, hW2⟩ : ∃ W2, Hid (w1.alloc (.cells #[] 47) = W2) := ⟨_, rfl⟩
      rw [hW2.out] at HB2 ⊢
      go_loopg [12] 0 (fun q i wr => q = 0 ∧ i = .int .i64 0 ∧ wr = W2)
      case atStart => exact ⟨rfl, rfl, rfl⟩
      case round =>
        obtain ⟨-, rfl, rfl⟩ := hrel
        have HN := Hnone.out wr HB2.out HD.out
        have HN' : Hid (DecsR w n N F fc ft fu (.returned (.tuple #[.slice (some ⟨wr.heap.size, 0, none⟩) 0 0, .bool false])) (wr.alloc (.cells #[] 47))) := HN
        clear HN Hnone HB2
        go_wp2
        exact bodyPost_ret (v := .tuple #[.slice (some ⟨wr.heap.size, 0, none⟩) 0 0, .bool false]) (by simp [results, Try.results7, go_sem]) rfl HN'.out
    | true =>
      have hubd := getU_bd hbM.out hu.out
      obtain ⟨CN, rfl⟩ : ∃ CN : Nat, cnt0 = CN := ⟨cnt0.toNat, by omega⟩
      have HC : Hid (rCnt M F = CN) := by show _ = _; unfold rCnt; rw [hu.out]; rfl
      have Hu2 : Hid ((getU M F 0).2.2 = true) := by show _ = _; rw [hu.out]
      have HQ0 : Hid (rQ M F 0 = some p0) := by show _ = _; rw [rQ, hu.out]
      have hO0 := World.ownsRow_lit (base := w.heap.size) (e := 47) (size := 3) w1 #[] 0 hB1.size (Nat.zero_le _) rfl
      have hb2 : Below w1.heap.size w1 (w1.alloc (.cells #[] 47)) := (Below.refl _ _).alloc (Nat.le_refl _) _
      have hB2 := hB1.trans (hb2.mono hB1.size)
      have hx2 := hx.belowAll hb2
      clear hvx hB1 hb2 hx
      go_wp2
      obtain ⟨W2, hW2⟩ : ∃ W2, Hid (w1.alloc (.cells #[] 47) = W2) := ⟨_, rfl⟩
      rw [hW2.out] at hO0 hB2 hx2 ⊢
      go_loopg [9, 11, 12] 8 (fun q at' o i wr => ∃ (k : Nat) (v : Value) (p : Int), k ≤ 7 ∧ k ≤ CN ∧ q = 8 - k ∧ at' = .int .i64 p ∧ v = o ∧ i = .int .i64 k ∧ v ≠ .slice none 0 0 ∧ rQ M F k = some p ∧ wr.ownsRow w.heap.size 47 3 v k (rowC (rK M F) (rN M F) (rS M F) k) ∧ Row 5 wr gx M F ∧ Below w.heap.size w wr)
      case atStart => exact ⟨0, _, p0, by omega, by omega, rfl, rfl, rfl, rfl, by simp, HQ0.out, hO0, hx2, hB2⟩
      case round =>
        clear hO0 hx2 hB2
        obtain ⟨k, bv, p, hk7, hkC, rfl, rfl, hbv, rfl, hne, hq, hown, hxr, hB⟩ := hrel
        subst hbv
        have Hne : Hid (bv ≠ .slice none 0 0) := hne
        have HQ : Hid (rQ M F k = some p) := hq
        have hpb := rQ_bd hbM.out Hu2.out hq
        clear hne hq
        by_cases hlt : k < CN ∧ k < 7
        · have hkz : (k : Int) < (CN : Int) := by omega
          have hk7z : (k : Int) < 7 := by omega
          obtain ⟨kk, y, s, q, ok, hgr⟩ : ∃ kk y s q ok, getR M F p = ⟨kk, y, s, q, ok⟩ := ⟨_, _, _, _, _, rfl⟩
          have hC := specL7Val_any gx 0 M cx F p wr (hxr.view hcx hbM.out) (by omega) (by omega)
          rw [hgr] at hC
          unfold gotRet at hC
          simp only at hC
          have hgG : rG M F k = ⟨kk, y, s, q, ok⟩ := by unfold rG; rw [HQ.out]; exact hgr
          have HK : Hid (rK M F k = kk ∧ rN M F k = y ∧ rS M F k = s) := by show _ ∧ _ ∧ _; unfold rK rN rS; rw [hgG]; exact ⟨rfl, rfl, rfl⟩
          have HQ2 : Hid (rQ M F (k + 1) = if ok then some q else none) := by show _ = _; rw [rQ, HQ.out]; show (if (getR M F p).ok = true then _ else _) = _; rw [hgr]
          clear hgr hgG
          go_wp2_with fail
          refine hC.mono ?_
          cases ok with
          | false =>
            rintro e w3 ⟨rfl, hb3⟩
            have HD : Hid (decROk N F n fc ft fu = false) := by
              show _ = _
              rw [HD0.out]
              unfold rowRd
              rw [HC.out]
              have e1 := rQ_none (HQ2.out.trans (if_neg (by simp))) (CN - (k + 1))
              rw [show k + 1 + (CN - (k + 1)) = CN by omega] at e1
              rw [e1]; simp
            have hB3 : Below w.heap.size w (w3.alloc (.cells #[.int .i64 kk, .int .i64 y, .string s] 47)) := (hB.trans (hb3.mono hB.size)).alloc (hB.trans (hb3.mono hB.size)).size _
            have HN := Hnone.out _ hB3 HD.out
            have HN' : Hid (DecsR w n N F fc ft fu (.returned (.tuple #[.slice (some ⟨(w3.alloc (.cells #[.int .i64 kk, .int .i64 y, .string s] 47)).heap.size, 0, none⟩) 0 0, .bool false])) ((w3.alloc (.cells #[.int .i64 kk, .int .i64 y, .string s] 47)).alloc (.cells #[] 47))) := HN
            clear HN Hnone hC hown hB3 hb3 hxr
            go_wp2
            refine bodyPost_ret (v := .tuple #[.slice (some ⟨w3.heap.size + 1, 0, none⟩) 0 0, .bool false]) (by simp [results, Try.results7, go_sem]) rfl ?_
            have := HN'.out
            rw [World.size_alloc] at this
            exact this
          | true =>
            rintro e w3 ⟨rfl, hb3⟩
            have hB3 := hB.trans (hb3.mono hB.size)
            have hba : Below w3.heap.size w3 (w3.alloc (.cells #[.int .i64 kk, .int .i64 y, .string s] 47)) := (Below.refl _ _).alloc (Nat.le_refl _) _
            have hV3 := Box.new w3 kk y s
            have hown4 := own_below3 (own_below3 hown hb3) hba
            have hB4 := hB3.trans (hba.mono hB3.size)
            have hx4 := (hxr.belowAll hb3).belowAll hba
            obtain ⟨W4, hW4⟩ : ∃ W4, Hid (w3.alloc (.cells #[.int .i64 kk, .int .i64 y, .string s] 47) = W4) := ⟨_, rfl⟩
            obtain ⟨A3, hA3⟩ : ∃ A3, Hid (w3.heap.size = A3) := ⟨_, rfl⟩
            rw [hW4.out] at hV3 hown4 hB4 hx4
            rw [hA3.out] at hV3
            obtain ⟨z0, z1, z2⟩ := hV3.cells
            have hcl := cells_one W4 kk y s
            have hs4 := hB4.size
            clear hown hb3 hba hC hB3 hB hxr
            go_wp2_with (first | rw [hW4.out, hA3.out] | (at_builtin; refine wpList_append_own _ rfl (.tmp 53) (.tmp 55) 27 rfl w.heap.size 47 i0 (.agg #[.int .i64 0, .int .i64 0, .string ⟨#[]⟩]) 3 32 Try.underlying27 hi hz0 hz1 hz2 rfl (by decide) bv _ _ rfl (own_below3 hown4 ((Below.refl _ _).alloc (Nat.le_refl _) _)) ⟨W4.heap.size, 0, none⟩ 1 1 [.int .i64 kk, .int .i64 y, .string s] rfl rfl hcl (one_cells _ _ _) (by unfold maxLen; omega) (by omega) (by simp; omega) ?_; intro v5 w5 hown5 hgr5 hnil5))
            have HO5 : Hid (w5.ownsRow w.heap.size 47 3 v5 (k + 1) (rowC (rK M F) (rN M F) (rS M F) (k + 1))) := by
              rw [rowC, HK.out.1, HK.out.2.1, HK.out.2.2]; exact hown5
            have HNE : Hid (v5 ≠ .slice none 0 0) := fun e => Hne.out (hnil5.1 e).1
            have hb5 : Below W4.heap.size W4 (W4.alloc (.cells #[.int .i64 kk, .int .i64 y, .string s] 47)) := (Below.refl _ _).alloc (Nat.le_refl _) _
            have HB5 : Hid (Below w.heap.size w w5) := (hB4.trans (hb5.mono hs4)).grown hgr5 (by have := (hB4.trans (hb5.mono hs4)).size; exact this) (fun j e => ((own_below3 hown4 hb5).lt j e).1)
            have HX5 : Hid (Row 5 w5 gx M F) := (hx4.belowAll hb5).of_block (hgr5.block gx (hx4.belowAll hb5).lt (Row.not_own (hx4.belowAll hb5) (by decide) (own_below3 hown4 hb5)))
            clear hown4 hown5 hgr5 hnil5 hcl hB4 hx4 hb5 hV3 z0 z1 z2
            go_wp2
            go_roundg (8 - (k + 1))
            case measure => omega
            case rel => exact ⟨k + 1, v5, q, by omega, by omega, rfl, rfl, rfl, by go_num, HNE.out, HQ2.out.trans (if_pos trivial), HO5.out, HX5.out, HB5.out⟩
        · have hloop : ¬ ((k : Int) < (CN : Int) ∧ (k : Int) < 7) := by omega
          by_cases hpM : p = (M : Int)
          · by_cases hkN : k = CN
            · subst hkN
              subst hpM
              obtain ⟨a5, c5, rfl, hvv, -⟩ := vview_of_own hown
              have hC := specRowOk_any a n cap fc ft fu fd a5 k c5 (rK M F) (rN M F) (rS M F) wr (h.below hB) hvv hn (by omega) (fun i hi => by have := rS_short hbM.out HQ.out i hi; omega)
              obtain ⟨o, ho⟩ : ∃ o, Hid (rowOk n fc ft fu k (rK M F) (rN M F) (rS M F) = o) := ⟨_, rfl⟩
              have HD : Hid (decROk N F n fc ft fu = o) := by
                show _ = _
                rw [HD0.out]
                unfold rowRd
                rw [Hu2.out, HC.out, HQ.out, ho.out, decide_eq_true ⟨hk7, rfl⟩]; rfl
              rw [ho.out] at hC
              have hk1 : ¬ (k : Int) < (k : Int) := by omega
              have HO : Hid (wr.ownsRow w.heap.size 47 3 (.slice a5 k c5) k (rowC (rK M F) (rN M F) (rS M F) k)) := hown
              clear hvv hown hxr
              go_wp2_with fail
              refine hC.mono ?_
              rintro e w4 ⟨rfl, hb4⟩
              have hB4 := hB.trans (hb4.mono hB.size)
              have HB4 : Hid (Below w.heap.size w w4) := hB4
              have HO4 : Hid (w4.ownsRow w.heap.size 47 3 (.slice a5 k c5) k (rowC (rK M F) (rN M F) (rS M F) k)) := own_below3 HO.out hb4
              clear hC hb4 hB4
              cases o with
              | true =>
                clear Hnone
                go_wp2
                refine bodyPost_ret (v := .tuple #[.slice a5 k c5, .bool true]) (by simp [results, Try.results7, go_sem]) rfl ?_
                exact ⟨_, k, by rw [HD.out], Hne.out, by rw [HD.out, hM.out, HC.out]; rfl, by rw [hM.out]; exact HO4.out, HB4.out⟩
              | false =>
                have HN := Hnone.out w4 HB4.out HD.out
                have HN' : Hid (DecsR w n N F fc ft fu (.returned (.tuple #[.slice (some ⟨w4.heap.size, 0, none⟩) 0 0, .bool false])) (w4.alloc (.cells #[] 47))) := HN
                clear HN Hnone
                go_wp2
                exact bodyPost_ret (v := .tuple #[.slice (some ⟨w4.heap.size, 0, none⟩) 0 0, .bool false]) (by simp [results, Try.results7, go_sem]) rfl HN'.out
            · have hCN : 7 < CN := by omega
              have hk7e : k = 7 := by omega
              have HD : Hid (decROk N F n fc ft fu = false) := by
                show _ = _
                rw [HD0.out]
                unfold rowRd
                rw [HC.out]
                have e1 : decide (CN ≤ 7 ∧ rQ M F CN = some (M : Int)) = false := by
                  apply decide_eq_false
                  rintro ⟨h1, h2⟩
                  omega
                rw [e1]; simp
              subst hk7e
              obtain ⟨a5, c5, rfl, -, -⟩ := vview_of_own hown
              have hc1 : (7 : Int) < (CN : Int) := by omega
              have hc2 : ¬ (CN : Int) = 7 := by omega
              have HB : Hid (Below w.heap.size w wr) := hB
              have HN := Hnone.out wr HB.out HD.out
              have HN' : Hid (DecsR w n N F fc ft fu (.returned (.tuple #[.slice (some ⟨wr.heap.size, 0, none⟩) 0 0, .bool false])) (wr.alloc (.cells #[] 47))) := HN
              clear HN Hnone hown hxr hB
              go_wp2
              exact bodyPost_ret (v := .tuple #[.slice (some ⟨wr.heap.size, 0, none⟩) 0 0, .bool false]) (by simp [results, Try.results7, go_sem]) rfl HN'.out
          · have hpz : ¬ p = (M : Int) := hpM
            have HD : Hid (decROk N F n fc ft fu = false) := by
              show _ = _
              rw [HD0.out]
              unfold rowRd
              rw [HC.out]
              have e1 : decide (CN ≤ 7 ∧ rQ M F CN = some (M : Int)) = false := by
                apply decide_eq_false
                rintro ⟨h1, h2⟩
                by_cases e : k = CN
                · rw [← e, HQ.out] at h2; exact hpM (Option.some.inj h2)
                · omega
              rw [e1]; simp
            have HB : Hid (Below w.heap.size w wr) := hB
            by_cases hkC2 : k < CN
            · have hkc : (k : Int) < (CN : Int) := by omega
              have hk7e : k = 7 := by omega
              subst hk7e
              have HN := Hnone.out wr HB.out HD.out
              have HN' : Hid (DecsR w n N F fc ft fu (.returned (.tuple #[.slice (some ⟨wr.heap.size, 0, none⟩) 0 0, .bool false])) (wr.alloc (.cells #[] 47))) := HN
              clear HN Hnone hown hxr hB
              go_wp2
              exact bodyPost_ret (v := .tuple #[.slice (some ⟨wr.heap.size, 0, none⟩) 0 0, .bool false]) (by simp [results, Try.results7, go_sem]) rfl HN'.out
            · have hkc : ¬ (k : Int) < (CN : Int) := by omega
              have HN := Hnone.out wr HB.out HD.out
              have HN' : Hid (DecsR w n N F fc ft fu (.returned (.tuple #[.slice (some ⟨wr.heap.size, 0, none⟩) 0 0, .bool false])) (wr.alloc (.cells #[] 47))) := HN
              clear HN Hnone hown hxr hB
              go_wp2
              exact bodyPost_ret (v := .tuple #[.slice (some ⟨wr.heap.size, 0, none⟩) 0 0, .bool false]) (by simp [results, Try.results7, go_sem]) rfl HN'.out
end Go.Proofs.Ytikopeihkbpjhad

/-
  The program's getBit: a byte of 0 or 1 at a place.
-/
namespace Go.Proofs.Ytikopeihkbpjhad
open Go.RowKit
set_option maxRecDepth 4000

/-- A byte of 0 or 1 at a place. -/
def getB (n : Nat) (f : Nat → Int) (p : Int) : Int × Int × Bool := if p < 0 ∨ (n : Int) ≤ p ∨ 1 < f p.toNat then (0, 0, false) else (f p.toNat, p + 1, true)

set_option maxHeartbeats 1000000 in
theorem getBit_any {a q : Int} {ok : Bool} (b off n cap : Nat) (f : Nat → Int) (p : Int) (w : World) (hg : Hid (getB n f p = (a, q, ok))) (hv : View w (some ⟨b, off, none⟩) n cap f) (hn : n ≤ 70368744177664) (hp1 : p ≤ 9223372036854775807) :
    Calls Try.prog 47 #[.slice (some ⟨b, off, none⟩) n cap, .int .i64 p] w fun e w' => e = .returned (.tuple #[.int .i64 a, .int .i64 q, .bool ok]) ∧ Below w.heap.size w w' := by
  by_cases hp : p < 0
  · have e := hg.out
    unfold getB at e
    rw [if_pos (Or.inl hp)] at e
    obtain ⟨rfl, rfl, rfl⟩ : 0 = a ∧ 0 = q ∧ false = ok := by simpa using e
    clear hg e hv
    go_enter Try.func47, Try.ntmps47
    go_wp2
    exact bodyPost_ret (v := .tuple #[_, _, _]) (by simp [results, Try.results47, go_sem]) rfl ⟨rfl, Below.refl _ _⟩
  by_cases hq : (n : Int) ≤ p
  · have e := hg.out
    unfold getB at e
    rw [if_pos (Or.inr (Or.inl hq))] at e
    obtain ⟨rfl, rfl, rfl⟩ : 0 = a ∧ 0 = q ∧ false = ok := by simpa using e
    clear hg e hv
    go_enter Try.func47, Try.ntmps47
    go_wp2
    exact bodyPost_ret (v := .tuple #[_, _, _]) (by simp [results, Try.results47, go_sem]) rfl ⟨rfl, Below.refl _ _⟩
  obtain ⟨i, rfl⟩ : ∃ i : Nat, p = i := ⟨p.toNat, by omega⟩
  have hi : i < n := by omega
  obtain ⟨b', off', eb, -, hc⟩ := hv.cells (by omega)
  cases eb
  have hci := hc i hi
  have hby := hv.byte i hi
  obtain ⟨y, hy⟩ : ∃ y, y = f i := ⟨_, rfl⟩
  rw [← hy] at hci hby
  have e := hg.out
  unfold getB at e
  rw [Int.toNat_natCast, ← hy] at e
  clear hg hc hv hy
  by_cases h1 : 1 < y
  · rw [if_pos (Or.inr (Or.inr h1))] at e
    obtain ⟨rfl, rfl, rfl⟩ : 0 = a ∧ 0 = q ∧ false = ok := by simpa using e
    clear e
    go_enter Try.func47, Try.ntmps47
    go_wp2
    exact bodyPost_ret (v := .tuple #[_, _, _]) (by simp [results, Try.results47, go_sem]) rfl ⟨rfl, Below.refl _ _⟩
  · rw [if_neg (by omega)] at e
    obtain ⟨rfl, rfl, rfl⟩ : y = a ∧ (i : Int) + 1 = q ∧ true = ok := by simpa using e
    clear e
    go_enter Try.func47, Try.ntmps47
    go_wp2
    exact bodyPost_ret (v := .tuple #[_, _, _]) (by simp [results, Try.results47, go_sem]) rfl ⟨rfl, Below.refl _ _⟩

end Go.Proofs.Ytikopeihkbpjhad

/-
  A value of a row, as the program reads it: plainly.
-/
namespace Go.Proofs.Ytikopeihkbpjhad
open Go.RowKit
set_option maxRecDepth 4000

/-- What the program reads as a value of a row. -/
def getRI (N : Nat) (F : Nat → Int) (p : Int) : Got :=
  if (getU N F p).2.2 = false then ⟨0, 0, noBytes, p, false⟩
  else if (getU N F p).1 = 1 ∨ (getU N F p).1 = 2 then ⟨(getU N F p).1, (getV N F (getU N F p).2.1).1, noBytes, (getV N F (getU N F p).2.1).2.1, (getV N F (getU N F p).2.1).2.2⟩
  else if (getU N F p).1 = 3 then ⟨3, 0, (getText N F (getU N F p).2.1).1, (getText N F (getU N F p).2.1).2.1, (getText N F (getU N F p).2.1).2.2⟩
  else if (getU N F p).1 = 4 then ⟨4, (getB N F (getU N F p).2.1).1, noBytes, (getB N F (getU N F p).2.1).2.1, (getB N F (getU N F p).2.1).2.2⟩
  else ⟨(getU N F p).1, 0, noBytes, (getU N F p).2.1, true⟩

/-- What it reads is the value. -/
theorem getRI_yes {N : Nat} {F : Nat → Int} {p : Int} (h : (getRI N F p).ok = true) : getR N F p = getRI N F p := by
  unfold getRI getR at *
  by_cases c0 : (getU N F p).2.2 = false
  · rw [if_pos c0] at h; cases h
  rw [if_neg c0] at h ⊢
  have c0' : (getU N F p).2.2 = true := by simpa using c0
  by_cases c1 : (getU N F p).1 = 1 ∨ (getU N F p).1 = 2
  · rw [if_pos c1, if_pos c1, c0', Bool.true_and]
  rw [if_neg c1] at h ⊢
  rw [if_neg c1]
  by_cases c2 : (getU N F p).1 = 3
  · rw [if_pos c2, if_pos c2, c0', Bool.true_and]
  rw [if_neg c2] at h ⊢
  rw [if_neg c2]
  by_cases c3 : (getU N F p).1 = 4
  · rw [if_pos c3] at h ⊢
    rw [if_pos c3]
    simp only at h
    unfold getB at *
    by_cases c4 : (getU N F p).2.1 < 0 ∨ (N : Int) ≤ (getU N F p).2.1 ∨ 1 < F (getU N F p).2.1.toNat
    · rw [if_pos c4] at h; cases h
    · rw [if_neg c4, if_pos (by omega), c0']
  · rw [if_neg c3, if_neg c3, c0']
/-- What it does not read is no right value. -/
theorem getRI_no {N : Nat} {F : Nat → Int} {p : Int} (hb : ∀ i, i < N → 0 ≤ F i ∧ F i ≤ 255) (h : (getRI N F p).ok = false) : (getR N F p).ok = false ∨ okF (getR N F p).k (getR N F p).n (getR N F p).s = false := by
  unfold getRI at h
  by_cases c0 : (getU N F p).2.2 = false
  · left
    unfold getR
    rw [c0]
    by_cases c1 : (getU N F p).1 = 1 ∨ (getU N F p).1 = 2
    · rw [if_pos c1]; rfl
    rw [if_neg c1]
    by_cases c2 : (getU N F p).1 = 3
    · rw [if_pos c2]; rfl
    rw [if_neg c2]
    by_cases c3 : (getU N F p).1 = 4
    · rw [if_pos c3]; split <;> rfl
    rw [if_neg c3]
  rw [if_neg c0] at h
  have c0' : (getU N F p).2.2 = true := by simpa using c0
  obtain ⟨a, q, ok, hu⟩ : ∃ a q ok, getU N F p = (a, q, ok) := ⟨_, _, _, rfl⟩
  rw [hu] at c0' h
  simp only at c0' h
  subst c0'
  have hbd := getU_bd hb hu
  unfold getR
  rw [hu]
  simp only
  by_cases c1 : a = 1 ∨ a = 2
  · rw [if_pos c1] at h ⊢
    simp only at h ⊢
    left; rw [h]; rfl
  rw [if_neg c1] at h ⊢
  by_cases c2 : a = 3
  · rw [if_pos c2] at h ⊢
    simp only at h ⊢
    left; rw [h]; rfl
  rw [if_neg c2] at h ⊢
  by_cases c3 : a = 4
  · rw [if_pos c3] at h ⊢
    simp only at h
    unfold getB at h
    by_cases c4 : q < 0 ∨ (N : Int) ≤ q ∨ 1 < F q.toNat
    · by_cases c5 : q < N
      · rw [if_pos c5]
        right
        simp only
        have h1 : 1 < F q.toNat := by omega
        cases e : okF 4 (F q.toNat) noBytes with
        | false => rfl
        | true => have := okF_kinds e; omega
      · rw [if_neg c5]; left; rfl
    · rw [if_neg c4] at h; cases h
  · rw [if_neg c3] at h; cases h

/-- Where it reads no value there is no row. -/
theorem rowRd_no {M : Nat} {F : Nat → Int} {n : Nat} {fc ft : Nat → Int} {fu : Nat → Bool} {k : Nat} {p : Int} (hb : ∀ i, i < M → 0 ≤ F i ∧ F i ≤ 255) (hq : rQ M F k = some p) (hk : k < rCnt M F) (h : (getRI M F p).ok = false) : rowRd M F n fc ft fu = false := by
  cases e : rowRd M F n fc ft fu with
  | false => rfl
  | true =>
    exfalso
    unfold rowRd at e
    simp only [Bool.and_eq_true, decide_eq_true_eq] at e
    obtain ⟨-, ⟨-, e1⟩, e2⟩ := e
    rcases getRI_no hb h with h1 | h1
    · have h2 : rQ M F (k + 1) = none := by
        rw [rQ, hq]
        show (if (getR M F p).ok = true then _ else _) = _
        rw [h1]; rfl
      have h3 := rQ_none h2 (rCnt M F - (k + 1))
      rw [show k + 1 + (rCnt M F - (k + 1)) = rCnt M F by omega, e1] at h3
      cases h3
    · obtain ⟨-, -, h4⟩ := rowOk_iff.1 e2
      have h5 := (fitsAll_iff.1 h4).2 k hk
      unfold fitsP at h5
      simp only [Bool.and_eq_true] at h5
      have eg : rG M F k = getR M F p := by unfold rG; rw [hq]; rfl
      have h6 := h5.1
      unfold rK rN rS at h6
      rw [eg, h1] at h6
      cases h6

/-- A row is read just where it has these bytes. -/
theorem dec_eq {N : Nat} {F : Nat → Int} {n : Nat} {fc ft : Nat → Int} {fu : Nat → Bool} {p : Int} (hb : ∀ i, i < N → 0 ≤ F i ∧ F i ≤ 255) (hg : sumGood N F = true) (hu : (getU (N - 4) F 0).2.2 = true) (hc : rCnt (N - 4) F = n) (hq : rQ (N - 4) F n = some p) (hr : rowOk n fc ft fu n (rK (N - 4) F) (rN (N - 4) F) (rS (N - 4) F) = true) :
    (encB n fc ft fu n (rK (N - 4) F) (rN (N - 4) F) (rS (N - 4) F) = lof N F) ↔ rowRd (N - 4) F n fc ft fu = true := by
  have hn6 : n ≤ 6 := (planOk_iff.1 (rowOk_iff.1 hr).1).2
  constructor
  · intro h
    have h1 := congrArg List.length h
    unfold encB at h1
    rw [hr, lof_len] at h1
    simp only [if_true] at h1
    rw [sumB_len] at h1
    obtain ⟨hA, hp⟩ := rQ_read (fun i hi => hb i (by omega)) hu hq
    have ec : clampN (n : Int) = (getU (N - 4) F 0).1 := by
      obtain ⟨a, q, ok, hu2⟩ : ∃ a q ok, getU (N - 4) F 0 = (a, q, ok) := ⟨_, _, _, rfl⟩
      rw [← hc]
      unfold rCnt
      rw [hu2] at hu ⊢
      simp only at hu ⊢
      subst hu
      have := getU_bd (fun i hi => hb i (by omega)) hu2
      rw [Int.toNat_of_nonneg this.1]
      exact clampN_id this.1 this.2.1
    unfold rowB at h1
    rw [ec] at h1
    have hpM : p = ((N - 4 : Nat) : Int) := by omega
    unfold rowRd
    rw [hu, hc, hq, hr, hpM]
    simp; omega
  · intro h
    have := (row_read hb hg h).2
    rw [hc] at this
    exact this
end Go.Proofs.Ytikopeihkbpjhad

/-
  The program's GetVar: a number of the kept ones, at every slice of bytes that reads and at every place.
-/
namespace Go.Proofs.Ytikopeihkbpjhad
open Go.RowKit
set_option maxRecDepth 4000

set_option maxHeartbeats 1000000 in
theorem varCount_any (h : Int) (w : World) (h0 : 0 ≤ h) (h1 : h ≤ 255) :
    Calls Try.prog 63 #[.int .u8 h] w fun e w' => e = .returned (.int .i64 (hcnt h : Int)) ∧ w = w' := by
  by_cases hl : h < 128
  · have e : (hcnt h : Int) = 127 - h := by unfold hcnt; rw [if_pos hl]; omega
    rw [e]
    have hx : bits .xor .u8 IntKind.u8.max h = 255 - h := u8_not _ h0 h1
    obtain ⟨y, hy⟩ : ∃ y, 255 - h = y := ⟨_, rfl⟩
    have hy0 : 0 ≤ y := by omega
    have hy1 : y ≤ 255 := by omega
    rw [show 127 - h = y - 128 by omega]
    rw [hy] at hx
    clear hy e
    go_enter Try.func63, Try.ntmps63
    go_wp2
    go_ret
    refine ⟨?_, rfl⟩
    show Ending.returned (.int .i64 (wrap64 (wrap64 y - 128))) = _
    rw [show wrap64 (wrap64 y - 128) = y - 128 by unfold wrap64; omega]
  · have e : (hcnt h : Int) = h - 128 := by unfold hcnt; rw [if_neg hl]; omega
    rw [e]
    go_enter Try.func63, Try.ntmps63
    go_wp2
    go_ret
    exact ⟨rfl, rfl⟩

theorem view_first {w : World} {b off n cap : Nat} {f : Nat → Int} (h : View w (some ⟨b, off, none⟩) n cap f) (h0 : 0 < n) : w.cell? ⟨b, off, none⟩ = some (.int .u8 (f 0)) := by
  obtain ⟨b', off', e, _, hc⟩ := h.cells h0
  cases e
  exact hc 0 h0

set_option maxHeartbeats 1000000 in
theorem getVar_impl {a q : Int} {ok : Bool} (b off n cap : Nat) (f : Nat → Int) (p : Int) (w : World) (hg : Hid (getV n f p = (a, q, ok))) (hv : View w (some ⟨b, off, none⟩) n cap f) (hn : n ≤ 70368744177664) (hp1 : p ≤ 9223372036854775807) :
    Calls Try.prog 45 #[.slice (some ⟨b, off, none⟩) n cap, .int .i64 p] w fun e w' => e = .returned (.tuple #[.int .i64 a, .int .i64 q, .bool ok]) ∧ Below w.heap.size w w' := by
  by_cases hp : p < 0
  · have e := hg.out
    rw [getV_out n f p (Or.inl hp)] at e
    obtain ⟨rfl, rfl, rfl⟩ : 0 = a ∧ 0 = q ∧ false = ok := by simpa using e
    clear hg e
    go_enter Try.func45, Try.ntmps45
    go_wp2
    go_ret3
    exact ⟨rfl, Below.refl _ _⟩
  by_cases h4 : (n : Int) ≤ p
  · have e := hg.out
    rw [getV_out n f p (Or.inr h4)] at e
    obtain ⟨rfl, rfl, rfl⟩ : 0 = a ∧ 0 = q ∧ false = ok := by simpa using e
    clear hg e
    go_enter Try.func45, Try.ntmps45
    go_wp2
    go_ret3
    exact ⟨rfl, Below.refl _ _⟩
  obtain ⟨i, rfl⟩ := Int.eq_ofNat_of_zero_le (Int.not_lt.1 hp)
  have hin : i < n := by omega
  have hle := hv.le
  have hb0 := hv.byte i hin
  have hzi : (i : Int) < (n : Int) := by omega
  obtain ⟨b', off', e', hbl, hcs⟩ := hv.cells (by omega)
  cases e'
  have hci := hcs i hin
  clear hcs
  obtain ⟨c, hc⟩ : ∃ c, Hid (hcnt (f i) = c) := ⟨_, rfl⟩
  by_cases hf : 7 < c ∨ n < i + 1 + c
  · have e := hg.out
    rw [getV_few n f i hin (by rw [hc.out]; exact hf)] at e
    obtain ⟨rfl, rfl, rfl⟩ : 0 = a ∧ 0 = q ∧ false = ok := by simpa using e
    clear hg e
    go_enter Try.func45, Try.ntmps45
    go_wp2_with fail
    refine (varCount_any (f i) w hb0.1 hb0.2).mono ?_
    rw [hc.out]
    rintro e _ ⟨rfl, rfl⟩
    by_cases h7 : 7 < c
    · clear hf
      have hz : (7 : Int) < (c : Int) := by omega
      go_wp2
      go_ret3
      exact ⟨rfl, Below.refl _ _⟩
    · have hz : (c : Int) ≤ 7 := by omega
      have hz2 : (n : Int) - (i : Int) - 1 < (c : Int) := by omega
      clear hf
      go_wp2
      go_ret3
      exact ⟨rfl, Below.refl _ _⟩
  have hc7 : (c : Int) ≤ 7 := by omega
  have hzc : (c : Int) ≤ (n : Int) - (i : Int) - 1 := by omega
  have hzn : (i : Int) + 1 + (c : Int) ≤ (n : Int) := by omega
  have hzc2 : (i : Int) + 1 + (c : Int) ≤ (cap : Int) := by omega
  by_cases hlow : f i < 128
  · have HD : Hid (digF f i = turnF true (fun j => f (i + 1 + j))) := by show _ = _; unfold digF; rw [decide_eq_true hlow]
    go_enter Try.func45, Try.ntmps45
    go_wp2_with fail
    refine (varCount_any (f i) w hb0.1 hb0.2).mono ?_
    rw [hc.out]
    rintro e _ ⟨rfl, rfl⟩
    by_cases hc0 : c = 0
    · subst hc0
      have hV : View w (some ⟨b, off, none⟩) 0 0 (fun j => f (i + 1 + j)) := ⟨Nat.le_refl _, fun j hj => absurd hj (Nat.not_lt_zero _), fun h => absurd h (Nat.lt_irrefl _)⟩
      go_wp2_with fail
      refine (flip_impl b off 0 0 _ 0 w hV (by omega) (by omega)).mono ?_
      rintro e w1 ⟨g, cg, rfl, hgn, hgc, hr, hB⟩
      have hV1 := hr.view hgc (flipF_byte 0 hV.byte)
      replace hV1 : View w1 (some ⟨g, 0, none⟩) 0 cg (digF f i) := hV1.congr (fun j _ => by rw [HD.out]; unfold flipF; rw [if_pos (by omega)]; rfl)
      clear hr hV hgn
      go_wp2_with fail
      refine (numberOf_any _ 0 cg _ w1 hV1 (by omega)).mono ?_
      rintro e _ ⟨rfl, rfl⟩
      have hvb := valF7 0 (digF f i) (by omega) hV1.byte
      have hx : numV f i = -1 := by unfold numV; rw [if_pos hlow, hc.out]; rfl
      have hvz : valF 0 (digF f i) = 0 := rfl
      clear hV1 hvb
      have hbad : ¬ badV f i := by unfold badV; rw [hx, hc.out]; omega
      have e := hg.out
      rw [getV_is n f i hin (by rw [hc.out]; exact hf) hbad, hc.out, hx] at e
      obtain ⟨rfl, rfl, rfl⟩ : -1 = a ∧ (i : Int) + 1 = q ∧ true = ok := by
        simp only [Prod.mk.injEq] at e
        exact ⟨e.1, by omega, e.2.2⟩
      clear hg e
      go_wp2
      go_ret3
      exact ⟨rfl, hB⟩
    ·
      have hV := hv.part (k := i + 1) (m := c) (by omega) c (Nat.le_refl _)
      go_wp2_with fail
      refine (flip_impl b (off + (i + 1)) c c _ 0 w hV (by omega) (by omega)).mono ?_
      rintro e w1 ⟨g, cg, rfl, hgn, hgc, hr, hB⟩
      have hV1 := hr.view hgc (flipF_byte 0 hV.byte)
      replace hV1 : View w1 (some ⟨g, 0, none⟩) c cg (digF f i) := hV1.congr (fun j _ => by rw [HD.out]; unfold flipF; rw [if_pos (by omega)]; rfl)
      clear hr hV hgn
      go_wp2_with fail
      refine (numberOf_any _ c cg _ w1 hV1 (by omega)).mono ?_
      rintro e _ ⟨rfl, rfl⟩
      have hvb := valF7 c (digF f i) (by omega) hV1.byte
      have hx : numV f i = -1 - valF c (digF f i) := by unfold numV; rw [if_pos hlow, hc.out]
      have hcd := view_first hV1 (by omega)
      have hdb := hV1.byte 0 (by omega)
      have hc0z : (0 : Int) < (c : Int) := by omega
      generalize valF c (digF f i) = v at *
      clear hV1
      by_cases hd0 : digF f i 0 = 0
      · have hbad : badV f i := by unfold badV; rw [hc.out]; exact Or.inl ⟨by omega, hd0⟩
        rw [hd0] at hcd
        have e := hg.out
        rw [getV_bad n f i hin (by rw [hc.out]; exact hf) hbad] at e
        obtain ⟨rfl, rfl, rfl⟩ : 0 = a ∧ 0 = q ∧ false = ok := by simpa using e
        clear hg e
        go_wp2
        go_ret3
        exact ⟨rfl, hB⟩
      · have hq0 : (digF f i 0 == 0) = false := by simpa using hd0
        by_cases hr : -1 - v < -1000000000000000 ∨ 1000000000000000 < -1 - v
        · have hbad : badV f i := by unfold badV; rw [hx]; exact Or.inr hr
          rcases hr with hr | hr
          · have e := hg.out
            rw [getV_bad n f i hin (by rw [hc.out]; exact hf) hbad] at e
            obtain ⟨rfl, rfl, rfl⟩ : 0 = a ∧ 0 = q ∧ false = ok := by simpa using e
            clear hg e
            go_wp2
            go_ret3
            exact ⟨rfl, hB⟩
          · omega
        · have hbad : ¬ badV f i := by unfold badV; rw [hx, hc.out]; omega
          have hr1 : -1000000000000000 ≤ -1 - v := by omega
          have hr2 : -1 - v ≤ 1000000000000000 := by omega
          clear hr
          have e := hg.out
          rw [getV_is n f i hin (by rw [hc.out]; exact hf) hbad, hc.out] at e
          simp only [Prod.mk.injEq] at e
          obtain ⟨ea, rfl, rfl⟩ := e
          rw [hx] at ea
          subst ea
          clear hg
          go_wp2
          go_ret3
          exact ⟨rfl, hB⟩
  · have HD : Hid (digF f i = turnF false (fun j => f (i + 1 + j))) := by show _ = _; unfold digF; rw [decide_eq_false hlow]
    go_enter Try.func45, Try.ntmps45
    go_wp2_with fail
    refine (varCount_any (f i) w hb0.1 hb0.2).mono ?_
    rw [hc.out]
    rintro e _ ⟨rfl, rfl⟩
    by_cases hc0 : c = 0
    · subst hc0
      have hV : View w (some ⟨b, off, none⟩) 0 0 (fun j => f (i + 1 + j)) := ⟨Nat.le_refl _, fun j hj => absurd hj (Nat.not_lt_zero _), fun h => absurd h (Nat.lt_irrefl _)⟩
      have hB : Below w.heap.size w w := Below.refl _ _
      have hV1 : View w (some ⟨b, off, none⟩) 0 0 (digF f i) := hV.congr (fun j _ => by rw [HD.out]; rfl)
      clear hV
      go_wp2_with fail
      refine (numberOf_any _ 0 0 _ w hV1 (by omega)).mono ?_
      rintro e _ ⟨rfl, rfl⟩
      have hvb := valF7 0 (digF f i) (by omega) hV1.byte
      have hx : numV f i = 0 := by unfold numV; rw [if_neg (by omega), hc.out]; rfl
      have hvz : valF 0 (digF f i) = 0 := rfl
      clear hV1 hvb
      have hbad : ¬ badV f i := by unfold badV; rw [hx, hc.out]; omega
      have e := hg.out
      rw [getV_is n f i hin (by rw [hc.out]; exact hf) hbad, hc.out, hx] at e
      obtain ⟨rfl, rfl, rfl⟩ : 0 = a ∧ (i : Int) + 1 = q ∧ true = ok := by
        simp only [Prod.mk.injEq] at e
        exact ⟨e.1, by omega, e.2.2⟩
      clear hg e
      go_wp2
      go_ret3
      exact ⟨rfl, hB⟩
    ·
      have hV := hv.part (k := i + 1) (m := c) (by omega) c (Nat.le_refl _)
      have hB : Below w.heap.size w w := Below.refl _ _
      have hV1 : View w (some ⟨b, off + (i + 1), none⟩) c c (digF f i) := hV.congr (fun j _ => by rw [HD.out]; rfl)
      clear hV
      go_wp2_with fail
      refine (numberOf_any _ c c _ w hV1 (by omega)).mono ?_
      rintro e _ ⟨rfl, rfl⟩
      have hvb := valF7 c (digF f i) (by omega) hV1.byte
      have hx : numV f i = valF c (digF f i) := by unfold numV; rw [if_neg (by omega), hc.out]
      have hcd := view_first hV1 (by omega)
      have hdb := hV1.byte 0 (by omega)
      have hc0z : (0 : Int) < (c : Int) := by omega
      generalize valF c (digF f i) = v at *
      clear hV1
      by_cases hd0 : digF f i 0 = 0
      · have hbad : badV f i := by unfold badV; rw [hc.out]; exact Or.inl ⟨by omega, hd0⟩
        rw [hd0] at hcd
        have e := hg.out
        rw [getV_bad n f i hin (by rw [hc.out]; exact hf) hbad] at e
        obtain ⟨rfl, rfl, rfl⟩ : 0 = a ∧ 0 = q ∧ false = ok := by simpa using e
        clear hg e
        go_wp2
        go_ret3
        exact ⟨rfl, hB⟩
      · have hq0 : (digF f i 0 == 0) = false := by simpa using hd0
        by_cases hr : v < -1000000000000000 ∨ 1000000000000000 < v
        · have hbad : badV f i := by unfold badV; rw [hx]; exact Or.inr hr
          rcases hr with hr | hr
          · omega
          · have e := hg.out
            rw [getV_bad n f i hin (by rw [hc.out]; exact hf) hbad] at e
            obtain ⟨rfl, rfl, rfl⟩ : 0 = a ∧ 0 = q ∧ false = ok := by simpa using e
            clear hg e
            go_wp2
            go_ret3
            exact ⟨rfl, hB⟩
        · have hbad : ¬ badV f i := by unfold badV; rw [hx, hc.out]; omega
          have hr1 : -1000000000000000 ≤ v := by omega
          have hr2 : v ≤ 1000000000000000 := by omega
          clear hr
          have e := hg.out
          rw [getV_is n f i hin (by rw [hc.out]; exact hf) hbad, hc.out] at e
          simp only [Prod.mk.injEq] at e
          obtain ⟨ea, rfl, rfl⟩ := e
          rw [hx] at ea
          subst ea
          clear hg
          go_wp2
          go_ret3
          exact ⟨rfl, hB⟩
end Go.Proofs.Ytikopeihkbpjhad

/-
  The program's GetText: the bytes behind a number that says how many they are, as a text.
-/
namespace Go.Proofs.Ytikopeihkbpjhad
open Go.RowKit
set_option maxRecDepth 4000

theorem getU_impl' {a b : Int} {c : Bool} (ao : Option Addr) (n cap : Nat) (f : Nat → Int) (p : Int) (w : World) (hg : Hid (getU n f p = (a, b, c))) (hv : View w ao n cap f) (hn : n ≤ 281474976710656) (hp1 : p ≤ 9223372036854775807) :
    Calls Try.prog 19 #[.slice ao n cap, .int .i64 p] w fun e w' => e = .returned (.tuple #[.int .i64 a, .int .i64 b, .bool c]) ∧ w = w' := by
  refine (getU_impl ao n cap f p w hv hn hp1).mono ?_
  rintro e w' ⟨he, hw⟩
  rw [hg.out] at he
  exact ⟨he, hw.symm⟩

set_option maxHeartbeats 1000000 in
theorem getText_impl (b off n cap : Nat) (f : Nat → Int) (p : Int) (w : World) (s : ByteArray) (q : Int) (ok : Bool) (hg : Hid (getText n f p = (s, q, ok))) (hv : View w (some ⟨b, off, none⟩) n cap f) (hn : n ≤ 281474976710656) (hp1 : p ≤ 9223372036854775807) :
    Calls Try.prog 46 #[.slice (some ⟨b, off, none⟩) n cap, .int .i64 p] w fun e w' => e = .returned (.tuple #[.string s, .int .i64 q, .bool ok]) ∧ w = w' := by
  obtain ⟨a, r, c, hu⟩ : ∃ a r c, Hid (getU n f p = (a, r, c)) := ⟨_, _, _, rfl⟩
  have hbd : c = true → 0 ≤ a ∧ a ≤ 1000000 ∧ 0 ≤ r ∧ r ≤ n := by rintro rfl; exact getU_bd hv.byte hu.out
  have hT : getText n f p = if c = true ∧ a ≤ n - r then (strOfNums (lof a.toNat (fun i => f (r.toNat + i))), r + a, true) else (strOfNums [], 0, false) := by unfold getText; rw [hu.out]
  rw [hg.out] at hT
  cases c with
  | false =>
    rw [if_neg (by simp)] at hT
    cases hT
    clear hbd
    go_enter Try.func46, Try.ntmps46
    go_wp2_with fail
    refine (getU_impl' _ n cap f p w hu hv hn hp1).mono ?_
    rintro e _ ⟨rfl, rfl⟩
    go_wp2
    go_ret3
    exact ⟨rfl, rfl⟩
  | true =>
    obtain ⟨h0, h1, h2, h3⟩ := hbd rfl
    obtain ⟨a, rfl⟩ := Int.eq_ofNat_of_zero_le h0
    obtain ⟨r, rfl⟩ := Int.eq_ofNat_of_zero_le h2
    clear hbd
    by_cases hl : (a : Int) ≤ n - r
    · rw [if_pos ⟨rfl, hl⟩, Int.toNat_natCast, Int.toNat_natCast] at hT
      simp only [Prod.mk.injEq] at hT
      obtain ⟨rfl, rfl, rfl⟩ := hT
      have hle := hv.le
      have hcap : (r : Int) + a ≤ cap := by omega
      by_cases hrc : r < cap
      · have hrz : (r : Int) < cap := by omega
        have q1 : (convert 22 9 (.slice (some ⟨b, off + r, none⟩) a (cap - r))).run Try.prog w = .ok (.string (strOfNums (lof a (fun i => f (r + i))))) w := conv_view (hv.cut (by omega))
        go_enter Try.func46, Try.ntmps46
        go_wp2_with fail
        refine (getU_impl' _ n cap f p w hu hv hn hp1).mono ?_
        rintro e _ ⟨rfl, rfl⟩
        go_wp2
        go_ret3
        exact ⟨rfl, rfl⟩
      · obtain rfl : r = cap := by omega
        obtain rfl : a = 0 := by omega
        have hrz : ¬ (r : Int) < r := by omega
        have q2 : (convert 22 9 (.slice (some ⟨b, off, none⟩) 0 0)).run Try.prog w = .ok (.string (strOfNums (lof 0 f))) w := conv_view ⟨Nat.le_refl _, fun _ h => absurd h (Nat.not_lt_zero _), fun h => absurd h (Nat.lt_irrefl _)⟩
        go_enter Try.func46, Try.ntmps46
        go_wp2_with fail
        refine (getU_impl' _ n r f p w hu hv hn hp1).mono ?_
        rintro e _ ⟨rfl, rfl⟩
        go_wp2
        go_ret3
        exact ⟨retT rfl (by omega) rfl, rfl⟩
    · rw [if_neg (by simp [hl])] at hT
      cases hT
      have hl2 : (n : Int) - r < a := by omega
      go_enter Try.func46, Try.ntmps46
      go_wp2_with fail
      refine (getU_impl' _ n cap f p w hu hv hn hp1).mono ?_
      rintro e _ ⟨rfl, rfl⟩
      go_wp2
      go_ret3
      exact ⟨rfl, rfl⟩

end Go.Proofs.Ytikopeihkbpjhad

