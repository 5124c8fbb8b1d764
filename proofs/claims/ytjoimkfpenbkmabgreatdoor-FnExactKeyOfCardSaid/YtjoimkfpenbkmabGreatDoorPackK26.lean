/-
  Together: RowRead, RowDec, CrcBits, CrcImpl, SumImpl, SumSeen, SumsPlain, OkFKinds, RowBack, RowOkImpl, KeyOfImpl
-/
import Derived.Test.YtjoimkfpenbkmabGreatDoorPackK12
import Derived.Test.YtjoimkfpenbkmabGreatDoorPackK25
import Derived.Test.YtjoimkfpenbkmabGreatDoorPackK5
import Derived.Test.YtjoimkfpenbkmabGreatDoorPackK1
import Derived.Test.YtjoimkfpenbkmabGreatDoorPackK15
import Derived.Test.YtjoimkfpenbkmabGreatDoorPackK4
import Derived.Test.YtjoimkfpenbkmabGreatDoorPackK22
import Derived.Test.YtjoimkfpenbkmabGreatDoorPackK21
/-
  A value of a row, as it is read: plainly.
-/
namespace Go.Proofs.YtjoimkfpenbkmabGreatDoor
open Go.RowKit
set_option maxRecDepth 4000

/-- What is read as a value of a row. -/
def getR (N : Nat) (F : Nat → Int) (p : Int) : Got :=
  if (getU N F p).1 = 1 ∨ (getU N F p).1 = 2 then ⟨(getU N F p).1, (getV N F (getU N F p).2.1).1, noBytes, (getV N F (getU N F p).2.1).2.1, (getU N F p).2.2 && (getV N F (getU N F p).2.1).2.2⟩
  else if (getU N F p).1 = 3 then ⟨3, 0, (getText N F (getU N F p).2.1).1, (getText N F (getU N F p).2.1).2.1, (getU N F p).2.2 && (getText N F (getU N F p).2.1).2.2⟩
  else if (getU N F p).1 = 4 then (if (getU N F p).2.1 < N then ⟨4, F (getU N F p).2.1.toNat, noBytes, (getU N F p).2.1 + 1, (getU N F p).2.2⟩ else ⟨4, 0, noBytes, (getU N F p).2.1, false⟩)
  else ⟨(getU N F p).1, 0, noBytes, (getU N F p).2.1, (getU N F p).2.2⟩

theorem getU_none {n : Nat} {f : Nat → Int} {p a q : Int} (h : getU n f p = (a, q, false)) : a = 0 ∧ q = 0 := by
  unfold getU at h
  repeat' split at h
  all_goals first | (simp at h; done) | (cases h; exact ⟨rfl, rfl⟩)
theorem clampN_id {x : Int} (h0 : 0 ≤ x) (h1 : x ≤ 1000000) : clampN x = x := by unfold clampN; rw [if_neg (by omega), if_neg (by omega)]
/-- A right value comes back of its bytes. -/
theorem getR_at {N : Nat} {F : Nat → Int} {i : Nat} {k n : Int} {s : ByteArray} (hk : (k = 0 ∧ n = 0 ∧ s = noBytes) ∨ (k = 1 ∧ (-2147483648 ≤ n ∧ n ≤ 2147483647) ∧ s = noBytes) ∨ (k = 2 ∧ (-1000000000000000 ≤ n ∧ n ≤ 1000000000000000) ∧ s = noBytes) ∨ (k = 3 ∧ n = 0 ∧ s.size ≤ 30) ∨ (k = 4 ∧ (0 ≤ n ∧ n ≤ 1) ∧ s = noBytes)) (h : AtF N F i (valB k n s)) :
    getR N F (i : Int) = ⟨k, n, s, (i : Int) + ((valB k n s).length : Int), true⟩ := by
  have hk04 : 0 ≤ k ∧ k ≤ 4 := by omega
  unfold valB at h ⊢
  rw [clampN_id hk04.1 (by omega)] at h ⊢
  have hg : groups k = [k] := groups_last _ (by omega)
  have hU := getU_at hk04.1 (by omega) h.left
  have hr := h.right
  rw [hg] at hU hr ⊢
  have hlen : (([k] ++ bodyB k n s).length : Int) = 1 + ((bodyB k n s).length : Int) := by simp; omega
  have e1 : (i : Int) + (([k] : List Int).length : Int) = ((i + 1 : Nat) : Int) := by simp
  rw [e1] at hU
  have e2 : i + ([k] : List Int).length = i + 1 := by simp
  rw [e2] at hr
  rw [hlen]
  unfold getR
  rw [hU]
  simp only
  rcases hk with ⟨rfl, rfl, rfl⟩ | ⟨rfl, hn, rfl⟩ | ⟨rfl, hn, rfl⟩ | ⟨rfl, rfl, hs⟩ | ⟨rfl, hn, rfl⟩
  · simp [bodyB]
  · have e : bodyB 1 n noBytes = varL n := by simp [bodyB]
    rw [e] at hr ⊢
    rw [getV_at (by omega) (by omega) hr]
    simp; omega
  · have e : bodyB 2 n noBytes = varL n := by simp [bodyB]
    rw [e] at hr ⊢
    rw [getV_at (by omega) (by omega) hr]
    simp; omega
  · have e : bodyB 3 0 s = txtL s := by simp [bodyB, txtL, clampN_id (x := s.size) (by omega) (by omega)]
    rw [e] at hr ⊢
    rw [getText_at (by omega) hr]
    simp; omega
  · have e : bodyB 4 n noBytes = [n] := by simp [bodyB]; omega
    rw [e] at hr ⊢
    have h1 := hr.le
    have h2 := hr.at' 0 (by simp)
    simp at h1 h2
    have h3 : ((i + 1 : Nat) : Int) < (N : Int) := by omega
    rw [if_neg (by decide), if_neg (by decide), if_pos rfl, if_pos h3]
    simp only [Int.toNat_natCast]
    rw [h2]
    simp; omega
/-- What is read has these bytes. -/
theorem getR_read {N : Nat} {F : Nat → Int} {p k n q : Int} {s : ByteArray} (hb : ∀ i, i < N → 0 ≤ F i ∧ F i ≤ 255) (h : getR N F p = ⟨k, n, s, q, true⟩) :
    ∃ i : Nat, p = (i : Int) ∧ AtF N F i (valB k n s) ∧ q = (i : Int) + ((valB k n s).length : Int) ∧ 0 ≤ k ∧ k ≤ 1000000 := by
  obtain ⟨a, q1, ok, hu⟩ : ∃ a q1 ok, getU N F p = (a, q1, ok) := ⟨_, _, _, rfl⟩
  unfold getR at h
  rw [hu] at h
  simp only at h
  have hok : ok = true := by
    by_cases c1 : a = 1 ∨ a = 2
    · rw [if_pos c1] at h
      simp only [Got.mk.injEq, Bool.and_eq_true] at h
      exact h.2.2.2.2.1
    rw [if_neg c1] at h
    by_cases c2 : a = 3
    · rw [if_pos c2] at h
      simp only [Got.mk.injEq, Bool.and_eq_true] at h
      exact h.2.2.2.2.1
    rw [if_neg c2] at h
    by_cases c3 : a = 4
    · rw [if_pos c3] at h
      by_cases c4 : q1 < N
      · rw [if_pos c4] at h
        simp only [Got.mk.injEq] at h
        exact h.2.2.2.2
      · rw [if_neg c4] at h
        simp at h
    · rw [if_neg c3] at h
      simp only [Got.mk.injEq] at h
      exact h.2.2.2.2
  subst hok
  obtain ⟨i, rfl, hA, rfl, h0, h1⟩ := getU_read hb hu
  have e1 : (i : Int) + ((groups a).length : Int) = ((i + (groups a).length : Nat) : Int) := by push_cast; rfl
  have fin : ∀ (B : List Int), AtF N F (i + (groups a).length) B → k = a → bodyB a n s = B → q = (i : Int) + ((groups a).length : Int) + (B.length : Int) →
      ∃ j : Nat, (i : Int) = (j : Int) ∧ AtF N F j (valB k n s) ∧ q = (j : Int) + ((valB k n s).length : Int) ∧ 0 ≤ k ∧ k ≤ 1000000 := by
    rintro B hB rfl hbd hq
    refine ⟨i, rfl, ?_, ?_, h0, h1⟩
    · unfold valB
      rw [clampN_id h0 h1, hbd]
      exact hA.append hB
    · unfold valB
      rw [clampN_id h0 h1, hbd, List.length_append, hq]
      push_cast
      omega
  by_cases c1 : a = 1 ∨ a = 2
  · rw [if_pos c1, e1] at h
    obtain ⟨v, q2, o2, hv⟩ : ∃ v q2 o2, getV N F ((i + (groups a).length : Nat) : Int) = (v, q2, o2) := ⟨_, _, _, rfl⟩
    rw [hv] at h
    simp only [Got.mk.injEq, Bool.true_and] at h
    obtain ⟨rfl, rfl, rfl, rfl, rfl⟩ := h
    obtain ⟨j, ej, hV, hq, -, -⟩ := getV_read hb hv
    have ej' : i + (groups a).length = j := by omega
    subst ej'
    exact fin (varL v) hV rfl (by unfold bodyB; rw [if_pos c1]) (by rw [hq]; push_cast; omega)
  rw [if_neg c1] at h
  by_cases c2 : a = 3
  · rw [if_pos c2, e1] at h
    obtain ⟨v, q2, o2, hv⟩ : ∃ v q2 o2, getText N F ((i + (groups a).length : Nat) : Int) = (v, q2, o2) := ⟨_, _, _, rfl⟩
    rw [hv] at h
    simp only [Got.mk.injEq, Bool.true_and] at h
    obtain ⟨hk, rfl, rfl, rfl, rfl⟩ := h
    obtain ⟨j, ej, hV, hq, hsz⟩ := getText_read hb hv
    have ej' : i + (groups a).length = j := by omega
    subst ej'
    exact fin (txtL v) hV (by omega) (by unfold bodyB; rw [if_neg c1, if_pos c2, clampN_id (by omega) (by omega)]; rfl) (by rw [hq]; push_cast; omega)
  rw [if_neg c2] at h
  by_cases c3 : a = 4
  · rw [if_pos c3] at h
    by_cases c4 : (i : Int) + ((groups a).length : Int) < N
    · rw [if_pos c4, e1] at h
      simp only [Got.mk.injEq, Int.toNat_natCast] at h
      obtain ⟨hk, hn, rfl, rfl, -⟩ := h
      have hbb := hb (i + (groups a).length) (by omega)
      refine fin [n] ⟨by simp; omega, fun j hj => ?_⟩ (by omega) (by unfold bodyB; rw [if_neg c1, if_neg c2, if_pos c3]; congr 1; omega) (by simp)
      obtain rfl : j = 0 := by simpa using hj
      simpa using hn
    · rw [if_neg c4] at h
      simp at h
  · rw [if_neg c3] at h
    simp only [Got.mk.injEq] at h
    obtain ⟨hk, rfl, rfl, rfl, -⟩ := h
    exact fin [] (AtF.nil (by have := hA.le; omega)) hk.symm (by unfold bodyB; rw [if_neg c1, if_neg c2, if_neg c3]) (by simp)
end Go.Proofs.YtjoimkfpenbkmabGreatDoor

/-
  A row as it is read of bytes: plainly.
-/
namespace Go.Proofs.YtjoimkfpenbkmabGreatDoor
open Go.RowKit
set_option maxRecDepth 4000

section
variable (M : Nat) (F : Nat → Int)
/-- The place behind the first k values, as they are read. -/
def rQ : Nat → Option Int
  | 0 => some (getU M F 0).2.1
  | k + 1 => (rQ k).bind (fun p => if (getR M F p).ok then some (getR M F p).q else none)
/-- The value that is read at a place of the row. -/
def rG (k : Nat) : Got := getR M F ((rQ M F k).getD 0)
def rK (i : Nat) : Int := (rG M F i).k
def rN (i : Nat) : Int := (rG M F i).n
def rS (i : Nat) : ByteArray := (rG M F i).s
/-- How many values there are said to be. -/
def rCnt : Nat := (getU M F 0).1.toNat
/-- Whether the bytes are a row of the plan. -/
def rowRd (n : Nat) (fc ft : Nat → Int) (fu : Nat → Bool) : Bool := (getU M F 0).2.2 && (decide (rCnt M F ≤ 7 ∧ rQ M F (rCnt M F) = some (M : Int)) && rowOk n fc ft fu (rCnt M F) (rK M F) (rN M F) (rS M F))
end
theorem rQ_succ {M : Nat} {F : Nat → Int} {k : Nat} {q : Int} (h : rQ M F (k + 1) = some q) : ∃ p, rQ M F k = some p ∧ (getR M F p).ok = true ∧ (getR M F p).q = q := by
  rw [rQ] at h
  obtain ⟨p, h1, h2⟩ := Option.bind_eq_some_iff.1 h
  by_cases e : (getR M F p).ok = true
  · rw [if_pos e] at h2
    exact ⟨p, h1, e, Option.some.inj h2⟩
  · rw [if_neg e] at h2; cases h2
theorem rQ_none {M : Nat} {F : Nat → Int} {k : Nat} (h : rQ M F k = none) : ∀ j, rQ M F (k + j) = none
  | 0 => h
  | j + 1 => by rw [← Nat.add_assoc, rQ, rQ_none h j]; rfl
/-- The places lie within, and texts are short. -/
theorem rQ_bd {M : Nat} {F : Nat → Int} (hb : ∀ i, i < M → 0 ≤ F i ∧ F i ≤ 255) (h0 : (getU M F 0).2.2 = true) : ∀ {k : Nat} {p : Int}, rQ M F k = some p → 0 ≤ p ∧ p ≤ M
  | 0, p, h => by
    rw [rQ] at h
    obtain ⟨a, q, ok, hu⟩ : ∃ a q ok, getU M F 0 = (a, q, ok) := ⟨_, _, _, rfl⟩
    rw [hu] at h h0
    have e := Option.some.inj h
    simp only at e h0
    subst h0
    have := getU_bd hb hu
    omega
  | k + 1, p, h => by
    obtain ⟨p', h1, h2, h3⟩ := rQ_succ h
    obtain ⟨kk, y, s, q, ok, hg⟩ : ∃ kk y s q ok, getR M F p' = ⟨kk, y, s, q, ok⟩ := ⟨_, _, _, _, _, rfl⟩
    rw [hg] at h2 h3
    simp only at h2 h3
    subst h2 h3
    obtain ⟨i, _, hA, hq, _⟩ := getR_read hb hg
    have := hA.le
    omega
theorem rS_short {M : Nat} {F : Nat → Int} (hb : ∀ i, i < M → 0 ≤ F i ∧ F i ≤ 255) {k : Nat} {p : Int} (h : rQ M F k = some p) : ∀ i, i < k → (rS M F i).size ≤ M := by
  intro i hi
  have hsome : ∀ j, j ≤ k → ∃ q, rQ M F j = some q := by
    intro j hj
    cases e : rQ M F j with
    | some q => exact ⟨q, rfl⟩
    | none =>
      have := rQ_none e (k - j)
      rw [show j + (k - j) = k by omega, h] at this
      cases this
  obtain ⟨q1, h1⟩ := hsome (i + 1) (by omega)
  obtain ⟨p', h2, h3, h4⟩ := rQ_succ h1
  have eg : rG M F i = getR M F p' := by unfold rG; rw [h2]; rfl
  unfold rS
  rw [eg]
  obtain ⟨kk, y, s, q, ok, hg⟩ : ∃ kk y s q ok, getR M F p' = ⟨kk, y, s, q, ok⟩ := ⟨_, _, _, _, _, rfl⟩
  rw [hg] at h3 ⊢
  simp only at h3 ⊢
  subst h3
  obtain ⟨i', _, hA, _, _⟩ := getR_read hb hg
  have hle := hA.le
  have hg2 := hg
  unfold getR at hg2
  by_cases hk : kk = 3
  · subst hk
    unfold valB bodyB at hle
    rw [if_neg (by decide), if_pos rfl, List.length_append, List.length_append, sl_len] at hle
    omega
  · have hsz : s.size = 0 := by
      by_cases c1 : (getU M F p').1 = 1 ∨ (getU M F p').1 = 2
      · rw [if_pos c1] at hg2; simp only [Got.mk.injEq] at hg2; rw [← hg2.2.2.1]; rfl
      rw [if_neg c1] at hg2
      by_cases c2 : (getU M F p').1 = 3
      · rw [if_pos c2] at hg2; simp only [Got.mk.injEq] at hg2; exact absurd hg2.1.symm hk
      rw [if_neg c2] at hg2
      by_cases c3 : (getU M F p').1 = 4
      · rw [if_pos c3] at hg2
        split at hg2 <;> (simp only [Got.mk.injEq] at hg2; rw [← hg2.2.2.1]; rfl)
      · rw [if_neg c3] at hg2; simp only [Got.mk.injEq] at hg2; rw [← hg2.2.2.1]; rfl
    omega
end Go.Proofs.YtjoimkfpenbkmabGreatDoor

/-
  Plain facts on the sum, in the forms in which the walks meet them.
-/
namespace Go.Proofs.YtjoimkfpenbkmabGreatDoor
open Go.RowKit
set_option maxRecDepth 4000

theorem u32_one (y : Nat) (h : y < 4294967296) : bits .and .u32 (y : Int) 1 = ((y % 2 : Nat) : Int) := by
  have := u32_and_nat y 1 h (by decide)
  rw [nat_mask1] at this; exact this
theorem u32_turn (y : Nat) (h : y < 4294967296) : bits .xor .u32 ((y : Int) / 2) 2197175160 = ((y / 2 ^^^ 2197175160 : Nat) : Int) := by
  have := u32_xor_nat (y / 2) 2197175160 (by omega) (by decide)
  rw [← this]; rfl
theorem i64_turn (y : Nat) (h : y < 4294967296) : bits .xor .i64 ((y : Int) / 2) 2197175160 = ((y / 2 ^^^ 2197175160 : Nat) : Int) := by
  have := i64_xor_nat (y / 2) 2197175160 (by omega) (by decide)
  rw [← this]; rfl
theorem i64_last (y : Nat) (h : y < 4294967296) : bits .xor .i64 (y : Int) 4294967295 = ((y ^^^ 4294967295 : Nat) : Int) := i64_xor_nat y 4294967295 (by omega) (by decide)
theorem u32_last (y : Nat) (h : y < 4294967296) : bits .xor .u32 IntKind.u32.max (y : Int) = ((y ^^^ 4294967295 : Nat) : Int) := by
  have e : IntKind.u32.max = ((4294967295 : Nat) : Int) := by simp [IntKind.max, IntKind.signed, IntKind.bits]
  rw [Nat.xor_comm, e]; exact u32_xor_nat 4294967295 y (by decide) h
theorem i64_in (y : Nat) (b : Int) (h : y < 4294967296) (h0 : 0 ≤ b ∧ b ≤ 255) : bits .xor .i64 (y : Int) b = ((y ^^^ b.toNat : Nat) : Int) := by
  obtain ⟨c, rfl⟩ := Int.eq_ofNat_of_zero_le h0.1
  rw [Int.toNat_natCast]; exact i64_xor_nat y c (by omega) (by omega)
theorem u32_in (y : Nat) (b : Int) (h : y < 4294967296) (h0 : 0 ≤ b ∧ b ≤ 255) : bits .xor .u32 (y : Int) b = ((y ^^^ b.toNat : Nat) : Int) := by
  obtain ⟨c, rfl⟩ := Int.eq_ofNat_of_zero_le h0.1
  rw [Int.toNat_natCast]; exact u32_xor_nat y c (by omega) (by omega)
theorem crcBit_odd (y : Nat) (h : y % 2 = 1) : crcBit y = y / 2 ^^^ 2197175160 := by unfold crcBit; rw [if_pos h]
theorem crcBit_even (y : Nat) (h : ¬ y % 2 = 1) : crcBit y = y / 2 := by unfold crcBit; rw [if_neg h]

theorem retInt {k : IntKind} {a b : Int} (h : a = b) : Ending.returned (.int k a) = .returned (.int k b) := by rw [h]

end Go.Proofs.YtjoimkfpenbkmabGreatDoor

/-
  The program's Crc comes to the plain sum, at every slice of bytes that reads.
-/
namespace Go.Proofs.YtjoimkfpenbkmabGreatDoor
open Go.RowKit
set_option maxRecDepth 4000

set_option maxHeartbeats 1000000 in
theorem crcStep_any (x : Nat) (w : World) (hx : x < 4294967296) :
    Calls Tryz.prog 159 #[.int .u32 (x : Int)] w fun e w' => e = .returned (.int .u32 ((crcBits 8 x : Nat) : Int)) ∧ w = w' := by
  go_enter Tryz.func159, Tryz.ntmps159
  go_wp2
  go_loopg [0, 4] 8 (fun g s i wr => w = wr ∧ ∃ k y : Nat, k ≤ 8 ∧ g = 8 - k ∧ s = .int .u32 (y : Int) ∧ i = .int .i64 k ∧ y < 4294967296 ∧ y = crcBits k x)
  case atStart => exact ⟨rfl, 0, x, by omega, rfl, rfl, rfl, hx, rfl⟩
  case round =>
    obtain ⟨rfl, k, y, hk, rfl, rfl, rfl, hy, hyk⟩ := hrel
    have HY : Hid (y = crcBits k x) := hyk
    clear hyk
    by_cases hlt : k < 8
    · have hkz : (k : Int) < 8 := by omega
      by_cases hodd : y % 2 = 1
      · have q1 : bits .and .u32 (y : Int) 1 = 1 := by rw [u32_one y hy, hodd]; rfl
        have q2 := u32_turn y hy
        have HO : Hid (y % 2 = 1) := hodd
        clear hodd
        go_wp2
        go_roundg (8 - (k + 1))
        case measure => omega
        case rel => exact ⟨rfl, k + 1, y / 2 ^^^ 2197175160, by omega, rfl, rfl, by go_num, Nat.xor_lt_two_pow (n := 32) (by omega) (by decide), by rw [← crcBit_odd y HO.out, HY.out]; rfl⟩
      · have q1 : bits .and .u32 (y : Int) 1 = 0 := by rw [u32_one y hy, show y % 2 = 0 by omega]; rfl
        have HO : Hid (¬ y % 2 = 1) := hodd
        clear hodd
        go_wp2
        go_roundg (8 - (k + 1))
        case measure => omega
        case rel => exact ⟨rfl, k + 1, y / 2, by omega, rfl, by go_num, by go_num, by omega, by rw [← crcBit_even y HO.out, HY.out]; rfl⟩
    · obtain rfl : k = 8 := by omega
      go_wp2
      go_ret
      exact ⟨retInt (congrArg Int.ofNat HY.out), rfl⟩

set_option maxHeartbeats 1000000 in
theorem crc_impl (ao : Option Addr) (n cap : Nat) (f : Nat → Int) (w : World) (hv : View w ao n cap f) (hn : n ≤ 281474976710656) :
    Calls Tryz.prog 128 #[.slice ao n cap] w fun e w' => e = .returned (.int .i64 ((crc n f : Nat) : Int)) ∧ w = w' := by
  go_enter Tryz.func128, Tryz.ntmps128
  go_wp2
  go_loopg [3, 8] n (fun g s i wr => w = wr ∧ ∃ k y : Nat, k ≤ n ∧ g = n - k ∧ s = .int .u32 (y : Int) ∧ i = .int .i64 k ∧ y < 4294967296 ∧ y = crcTo f k)
  case atStart => exact ⟨rfl, 0, 4294967295, by omega, rfl, rfl, rfl, by decide, rfl⟩
  case round =>
    obtain ⟨rfl, k, y, hk, rfl, rfl, rfl, hy, hyk⟩ := hrel
    have HY : Hid (y = crcTo f k) := hyk
    clear hyk
    by_cases hlt : k < n
    · obtain ⟨b, off, rfl, hb, hc⟩ := hv.cells (by omega)
      have hkz : (k : Int) < (n : Int) := by omega
      have hc1 := hc k hlt
      have hbk := hv.byte k hlt
      have q1 := u32_in y (f k) hy hbk
      have hlt2 := xorByte_lt hy hbk
      obtain ⟨hbk0, hbk1⟩ := hbk
      clear hc
      go_wp2_with fail
      refine (crcStep_any _ _ hlt2).mono ?_
      rintro e _ ⟨rfl, rfl⟩
      go_wp2
      go_roundg (n - (k + 1))
      case measure => omega
      case rel => exact ⟨rfl, k + 1, crcBits 8 (y ^^^ (f k).toNat), by omega, rfl, rfl, by go_num, crcBits_lt hlt2, by rw [HY.out]; rfl⟩
    · obtain rfl : k = n := by omega
      have q1 := u32_last y hy
      have q2 : y ^^^ 4294967295 < 4294967296 := Nat.xor_lt_two_pow (n := 32) hy (by decide)
      have q3 : wrap64 ((y ^^^ 4294967295 : Nat) : Int) = ((y ^^^ 4294967295 : Nat) : Int) := by
        generalize y ^^^ 4294967295 = z at q2
        exact IntWalk.wrap64_in _ ⟨by omega, by omega⟩
      go_wp2
      go_ret
      exact ⟨retInt (congrArg (fun z : Nat => ((z ^^^ 4294967295 : Nat) : Int)) HY.out), rfl⟩

theorem crc_impl' {c : Nat} (ao : Option Addr) (n cap : Nat) (f : Nat → Int) (w : World) (hg : Hid (crc n f = c)) (hv : View w ao n cap f) (hn : n ≤ 281474976710656) :
    Calls Tryz.prog 128 #[.slice ao n cap] w fun e w' => e = .returned (.int .i64 (c : Int)) ∧ w = w' := by
  have h := crc_impl ao n cap f w hv hn
  rw [hg.out] at h; exact h
end Go.Proofs.YtjoimkfpenbkmabGreatDoor

/-
  The program's PutSum: what was there, and behind it the four bytes of its sum, in memory of its own.
-/
namespace Go.Proofs.YtjoimkfpenbkmabGreatDoor
open Go.RowKit
set_option maxRecDepth 4000

set_option maxHeartbeats 1000000 in
theorem putSum_impl (b off n cap : Nat) (f : Nat → Int) (w : World) (hv : View w (some ⟨b, off, none⟩) n cap f) (hn : n ≤ 35184372088832) :
    Calls Tryz.prog 106 #[.slice (some ⟨b, off, none⟩) n cap] w fun e w' => ∃ g c, e = .returned (.slice (some ⟨g, 0, none⟩) (n + 4) c) ∧ w.heap.size ≤ g ∧ n + 4 ≤ c ∧ Row 5 w' g (n + 4) (fun i => (lof n f ++ sumL (crc n f)).getD i 0) ∧ Below w.heap.size w w' := by
  have hlt := crc_lt hv.byte
  obtain ⟨c, hc⟩ : ∃ c, Hid (crc n f = c) := ⟨_, rfl⟩
  rw [hc.out] at hlt
  have hcz : (c : Int) < 4294967296 := by omega
  have hw : ∀ x : Int, IntKind.u8.wrap x = x % 256 := u8_wrap
  go_enter Tryz.func106, Tryz.ntmps106
  go_wp2_with fail
  refine (crc_impl' _ n cap f w hc hv (by omega)).mono ?_
  rintro e _ ⟨rfl, rfl⟩
  go_wp2_with fail
  have hb1 : Below w.heap.size w (w.alloc (.cells #[.int .u8 ((c : Int) / 16777216 % 256), .int .u8 ((c : Int) / 65536 % 256), .int .u8 ((c : Int) / 256 % 256), .int .u8 ((c : Int) % 256)] 5)) := (Below.refl _ _).alloc (Nat.le_refl _) _
  have hr : Row 5 (w.alloc (.cells #[.int .u8 ((c : Int) / 16777216 % 256), .int .u8 ((c : Int) / 65536 % 256), .int .u8 ((c : Int) / 256 % 256), .int .u8 ((c : Int) % 256)] 5)) w.heap.size 4 (fun i => (sumL c).getD i 0) := newRow w (sumL c) 5
  refine (putBytes_any b off n cap f (some ⟨w.heap.size, 0, none⟩) 4 4 (fun i => (sumL c).getD i 0) _ (hv.below hb1) (hr.view (by omega) (bytes_of_list (sumL_byte c))) (by intro h; cases h) (by omega)).mono ?_
  rintro e w2 ⟨rfl, hown, hb2⟩
  rw [lof_sumL] at hown
  rw [show (w.alloc (.cells #[.int .u8 ((c : Int) / 16777216 % 256), .int .u8 ((c : Int) / 65536 % 256), .int .u8 ((c : Int) / 256 % 256), .int .u8 ((c : Int) % 256)] 5)).heap.size = w.heap.size + 1 from by simp] at hown
  go_wp2
  go_ret
  rw [hc.out]
  exact ⟨_, n + 4, rfl, by simp, by omega, row_of_owned hown, hb1.trans (hb2.mono hb1.size)⟩

end Go.Proofs.YtjoimkfpenbkmabGreatDoor

/-
  What the last four bytes say, plainly.
-/
namespace Go.Proofs.YtjoimkfpenbkmabGreatDoor
open Go.RowKit
set_option maxRecDepth 4000

/-- The last four bytes as a number. -/
def last4 (m : Nat) (f : Nat → Int) : Int := ((f m * 256 + f (m + 1)) * 256 + f (m + 2)) * 256 + f (m + 3)

theorem lof_succ (m : Nat) (f : Nat → Int) : lof (m + 1) f = lof m f ++ [f m] := by simp [lof, List.range_succ]
theorem lof_four (m : Nat) (f : Nat → Int) : lof (m + 4) f = lof m f ++ [f m, f (m + 1), f (m + 2), f (m + 3)] := by
  rw [lof_succ (m + 3), lof_succ (m + 2), lof_succ (m + 1), lof_succ m]
  simp
theorem lof_byteS {n : Nat} {f : Nat → Int} (h : ∀ i, i < n → 0 ≤ f i ∧ f i ≤ 255) : ∀ y ∈ lof n f, 0 ≤ y ∧ y ≤ 255 := by
  intro y hy
  simp only [lof, List.mem_map, List.mem_range] at hy
  obtain ⟨i, hi, rfl⟩ := hy
  exact h i hi

theorem sum_iff {m c : Nat} {f : Nat → Int} (hf : ∀ i, i < m + 4 → 0 ≤ f i ∧ f i ≤ 255) (hc : c < 4294967296) : lof m f ++ sumL c = lof (m + 4) f ↔ last4 m f = (c : Int) := by
  have h0 := hf m (by omega)
  have h1 := hf (m + 1) (by omega)
  have h2 := hf (m + 2) (by omega)
  have h3 := hf (m + 3) (by omega)
  rw [lof_four, List.append_right_inj]
  unfold sumL last4
  simp only [List.cons.injEq, and_true]
  constructor
  · rintro ⟨a, b, c, d⟩; omega
  · intro h; refine ⟨?_, ?_, ?_, ?_⟩ <;> omega

/-- What n bytes come to: how many are handed back, and whether they are right. -/
def sumGood (n : Nat) (f : Nat → Int) : Bool := decide (4 ≤ n ∧ last4 (n - 4) f = (crc (n - 4) f : Int))

def Gives (fn : Nat) (n : Nat) (f : Nat → Int) (N : Nat) (B : Bool) : Prop :=
  ∀ (b cap : Nat) (w : World), View w (some ⟨b, 0, none⟩) n cap f → Calls Tryz.prog fn #[.slice (some ⟨b, 0, none⟩) n cap] w fun e w' =>
    ∃ g c, e = .returned (.tuple #[.slice (some ⟨g, 0, none⟩) N c, .bool B]) ∧ w.heap.size ≤ g ∧ N ≤ c ∧ Row 5 w' g N f ∧ Below w.heap.size w w'

theorem noRow (w : World) (t : TypeId) (f : Nat → Int) : Row t (w.alloc (.cells #[] t)) w.heap.size 0 f := ⟨#[], Deep.blk_alloc_new _ _, Nat.le_refl _, fun _ hi => absurd hi (Nat.not_lt_zero _)⟩
theorem noView (w : World) (f : Nat → Int) : View w none 0 0 f := ⟨Nat.le_refl _, fun _ hi => absurd hi (Nat.not_lt_zero _), fun h => absurd h (Nat.lt_irrefl _)⟩
end Go.Proofs.YtjoimkfpenbkmabGreatDoor

/-
  Bytes behind which their sum stands, plainly: they are right; with one byte turned they are not.
-/
namespace Go.Proofs.YtjoimkfpenbkmabGreatDoor
open Go.RowKit
set_option maxRecDepth 4000

theorem sum_turned {m j : Nat} {F : Nat → Int} {v : Int} (hF : ∀ i, i < m + 4 → 0 ≤ F i ∧ F i ≤ 255) (hg : last4 m F = (crc m F : Int)) (hj : j < m + 4) (hv : 0 ≤ v ∧ v ≤ 255) (hne : v ≠ F j) :
    last4 m (fun i => if i = j then v else F i) ≠ (crc m (fun i => if i = j then v else F i) : Int) := by
  by_cases h : j < m
  · have hc : crc m (fun i => if i = j then v else F i) ≠ crc m F := by
      refine crc_parts (j := j) (fun i hi => ?_) (fun i hi => hF i (by omega)) h ?_ (fun i hi hij => ?_)
      · by_cases e : i = j
        · simp only [e, if_true]; exact hv
        · simp only [e, if_false]; exact hF i (by omega)
      · simp only [if_true]; exact hne
      · simp only [hij, if_false]
    have hl : last4 m (fun i => if i = j then v else F i) = last4 m F := by
      unfold last4
      dsimp only
      rw [if_neg (by omega), if_neg (by omega), if_neg (by omega), if_neg (by omega)]
    rw [hl, hg]
    intro e
    exact hc (by omega)
  · have hc : crc m (fun i => if i = j then v else F i) = crc m F := crc_congr (fun i hi => by rw [if_neg (by omega)])
    rw [hc, ← hg]
    have h0 := hF m (by omega)
    have h1 := hF (m + 1) (by omega)
    have h2 := hF (m + 2) (by omega)
    have h3 := hF (m + 3) (by omega)
    unfold last4
    dsimp only
    rcases (show j = m ∨ j = m + 1 ∨ j = m + 2 ∨ j = m + 3 by omega) with rfl | rfl | rfl | rfl
    · rw [if_pos rfl, if_neg (by omega), if_neg (by omega), if_neg (by omega)]; omega
    · rw [if_neg (by omega), if_pos rfl, if_neg (by omega), if_neg (by omega)]; omega
    · rw [if_neg (by omega), if_neg (by omega), if_pos rfl, if_neg (by omega)]; omega
    · rw [if_neg (by omega), if_neg (by omega), if_neg (by omega), if_pos rfl]; omega

/-- What PutSum lays is right. -/
theorem sum_put (m : Nat) (f : Nat → Int) (hf : ∀ i, i < m → 0 ≤ f i ∧ f i ≤ 255) : last4 m (fun i => (lof m f ++ sumL (crc m f)).getD i 0) = (crc m (fun i => (lof m f ++ sumL (crc m f)).getD i 0) : Int) := by
  have hl : ∀ i, i < m → (lof m f ++ sumL (crc m f)).getD i 0 = f i := by
    intro i hi
    rw [← lof_get m f i hi, List.getD_eq_getElem?_getD, List.getD_eq_getElem?_getD, List.getElem?_append_left (by rw [lof_len]; exact hi)]
  have hr : ∀ i, (lof m f ++ sumL (crc m f)).getD (m + i) 0 = (sumL (crc m f)).getD i 0 := by
    intro i
    rw [List.getD_eq_getElem?_getD, List.getD_eq_getElem?_getD, List.getElem?_append_right (by rw [lof_len]; omega), lof_len]
    congr 2
    omega
  have hc : crc m (fun i => (lof m f ++ sumL (crc m f)).getD i 0) = crc m f := crc_congr hl
  rw [hc]
  have hlt := crc_lt hf
  have r0 := hr 0
  have r1 := hr 1
  have r2 := hr 2
  have r3 := hr 3
  unfold last4
  dsimp only
  rw [Nat.add_zero] at r0
  rw [r0, r1, r2, r3]
  generalize crc m f = c at hlt
  show ((((c : Int) / 16777216 % 256) * 256 + (c : Int) / 65536 % 256) * 256 + (c : Int) / 256 % 256) * 256 + (c : Int) % 256 = (c : Int)
  omega

/-- A byte with one bit turned is another byte. -/
theorem bit_turned (x : Int) (k : Nat) (h : 0 ≤ x ∧ x ≤ 255) (hk : k < 8) : (0 ≤ bits .xor .u8 x (2 ^ k) ∧ bits .xor .u8 x (2 ^ k) ≤ 255) ∧ bits .xor .u8 x (2 ^ k) ≠ x := by
  obtain ⟨n, rfl⟩ := Int.eq_ofNat_of_zero_le h.1
  have hn : n < 256 := by omega
  have hp : 2 ^ k < 256 := Nat.lt_of_lt_of_le (Nat.pow_lt_pow_right (by decide) hk) (by decide)
  have e : bits .xor .u8 (n : Int) (2 ^ k) = ((n ^^^ 2 ^ k : Nat) : Int) := by
    have := u8_xor_nat n (2 ^ k) hn hp
    rw [← this]
    simp
  rw [e]
  have hlt : n ^^^ 2 ^ k < 256 := Nat.xor_lt_two_pow (n := 8) hn hp
  refine ⟨by omega, fun h => ?_⟩
  have h' : n ^^^ 2 ^ k = n := by omega
  have h2 := congrArg (fun z => z.testBit k) h'
  simp only [Nat.testBit_xor, Nat.testBit_two_pow_self, Bool.xor_true] at h2
  cases hb : n.testBit k <;> simp [hb] at h2

theorem small_pow (x : Nat) : (2 : Int) ^ min (x % 8) 8 % 256 = 2 ^ (x % 8) := by
  have hk : x % 8 < 8 := Nat.mod_lt _ (by decide)
  rw [Nat.min_eq_left (by omega)]
  rcases (show x % 8 = 0 ∨ x % 8 = 1 ∨ x % 8 = 2 ∨ x % 8 = 3 ∨ x % 8 = 4 ∨ x % 8 = 5 ∨ x % 8 = 6 ∨ x % 8 = 7 by omega) with h | h | h | h | h | h | h | h <;> rw [h] <;> rfl
end Go.Proofs.YtjoimkfpenbkmabGreatDoor

/-
  Right values, kind by kind.
-/
namespace Go.Proofs.YtjoimkfpenbkmabGreatDoor
open Go.RowKit
set_option maxRecDepth 4000

theorem okF_kinds {k n : Int} {s : ByteArray} (h : okF k n s = true) : (k = 0 ∧ n = 0 ∧ s = noBytes) ∨ (k = 1 ∧ (-2147483648 ≤ n ∧ n ≤ 2147483647) ∧ s = noBytes) ∨ (k = 2 ∧ (-1000000000000000 ≤ n ∧ n ≤ 1000000000000000) ∧ s = noBytes) ∨ (k = 3 ∧ n = 0 ∧ s.size ≤ 30) ∨ (k = 4 ∧ (0 ≤ n ∧ n ≤ 1) ∧ s = noBytes) := by
  by_cases h0 : k = 0
  · subst h0; rw [okF_spec0] at h; simp at h; exact .inl ⟨rfl, h⟩
  by_cases h1 : k = 1
  · subst h1; rw [okF_spec1] at h; simp at h; exact .inr (.inl ⟨rfl, h⟩)
  by_cases h2 : k = 2
  · subst h2; rw [okF_spec2] at h; simp at h; exact .inr (.inr (.inl ⟨rfl, h⟩))
  by_cases h3 : k = 3
  · subst h3; rw [okF_spec3] at h; simp at h; exact .inr (.inr (.inr (.inl ⟨rfl, h.2, h.1⟩)))
  by_cases h4 : k = 4
  · subst h4; rw [okF_spec4] at h; simp at h; exact .inr (.inr (.inr (.inr ⟨rfl, h⟩)))
  · rw [okF_specX n s h0 h1 h2 h3 h4] at h; cases h
end Go.Proofs.YtjoimkfpenbkmabGreatDoor

/-
  Rows come back of their bytes, plainly; what is read has these bytes; with one byte turned it is no row.
-/
namespace Go.Proofs.YtjoimkfpenbkmabGreatDoor
open Go.RowKit
set_option maxRecDepth 4000

theorem rowOk_iff {n : Nat} {fc ft : Nat → Int} {fu : Nat → Bool} {m : Nat} {fk fn : Nat → Int} {fs : Nat → ByteArray} : rowOk n fc ft fu m fk fn fs = true ↔ planOk n fc ft = true ∧ m = n ∧ fitsAll n m ft fu fk fn fs = true := by
  unfold rowOk; simp
theorem rowOk_congr {n : Nat} {fc ft : Nat → Int} {fu : Nat → Bool} {m : Nat} {fk fn : Nat → Int} {fs : Nat → ByteArray} {gk gn : Nat → Int} {gs : Nat → ByteArray} (h : ∀ i, i < m → fk i = gk i ∧ fn i = gn i ∧ fs i = gs i) : rowOk n fc ft fu m fk fn fs = rowOk n fc ft fu m gk gn gs := by
  rw [Bool.eq_iff_iff, rowOk_iff, rowOk_iff, fitsAll_iff, fitsAll_iff]
  constructor
  · rintro ⟨h1, h2, h3, h4⟩
    exact ⟨h1, h2, h3, fun i hi => by obtain ⟨e1, e2, e3⟩ := h i hi; rw [← e1, ← e2, ← e3]; exact h4 i hi⟩
  · rintro ⟨h1, h2, h3, h4⟩
    exact ⟨h1, h2, h3, fun i hi => by obtain ⟨e1, e2, e3⟩ := h i hi; rw [e1, e2, e3]; exact h4 i hi⟩
theorem sumB_len (R : List Int) : (sumB R).length = R.length + 4 := by unfold sumB; rw [List.length_append]; rfl
theorem sumB_byte {R : List Int} (h : ∀ y ∈ R, 0 ≤ y ∧ y ≤ 255) : ∀ y ∈ sumB R, 0 ≤ y ∧ y ≤ 255 := fun y hy => by
  unfold sumB at hy
  rcases List.mem_append.1 hy with hy | hy
  · exact h y hy
  · exact sumL_byte _ y hy
theorem sumB_good {R : List Int} (h : ∀ y ∈ R, 0 ≤ y ∧ y ≤ 255) : sumGood (sumB R).length (fun i => (sumB R).getD i 0) = true := by
  have e := sum_put R.length (fun i => R.getD i 0) (bytes_of_list h)
  rw [lof_self] at e
  unfold sumGood
  rw [sumB_len, show R.length + 4 - 4 = R.length by omega]
  apply decide_eq_true
  exact ⟨by omega, e⟩
theorem sumB_at (R : List Int) : AtF R.length (fun i => (sumB R).getD i 0) 0 R := ⟨by omega, fun j hj => by
  rw [Nat.zero_add]
  unfold sumB
  exact getD_left _ _ _ hj⟩

/-- The values of a row of which the bytes stand in F are read. -/
theorem rQ_at {M m : Nat} {F : Nat → Int} {fk fn : Nat → Int} {fs : Nat → ByteArray} (hm : m ≤ 6) (hok : ∀ i, i < m → okF (fk i) (fn i) (fs i) = true) (h : AtF M F 0 (rowB m fk fn fs)) :
    getU M F 0 = ((m : Int), ((groups (m : Int)).length : Int), true) ∧ ∀ k, k ≤ m → rQ M F k = some (((groups (m : Int)).length + (keyT (fun i => valB (fk i) (fn i) (fs i)) k).length : Nat) : Int) ∧ ∀ i, i < k → rG M F i = ⟨fk i, fn i, fs i, (((groups (m : Int)).length + (keyT (fun i => valB (fk i) (fn i) (fs i)) (i + 1)).length : Nat) : Int), true⟩ := by
  have hc : clampN (m : Int) = m := clampN_id (by omega) (by omega)
  unfold rowB at h
  rw [hc] at h
  have hu := getU_at (N := M) (F := F) (i := 0) (x := m) (by omega) (by omega) h.left
  have hr := h.right
  rw [Nat.zero_add] at hr
  have hu' : getU M F 0 = ((m : Int), ((groups (m : Int)).length : Int), true) := by
    have : ((0 : Nat) : Int) = (0 : Int) := rfl
    rw [this] at hu
    rw [hu]; simp
  refine ⟨hu', fun k => ?_⟩
  induction k with
  | zero => intro _; exact ⟨by rw [rQ, hu']; simp [keyT], fun i hi => absurd hi (Nat.not_lt_zero _)⟩
  | succ k ih =>
    intro hk
    obtain ⟨h1, h2⟩ := ih (by omega)
    have hsplit := keyT_split (fun i => valB (fk i) (fn i) (fs i)) k (m - k)
    rw [show k + (m - k) = m by omega] at hsplit
    rw [hsplit] at hr
    have hr2 := hr.right
    rw [show m - k = 1 + (m - k - 1) by omega, keyT_split] at hr2
    have hr3 := hr2.left
    have e1 : keyT (fun i => valB (fk (k + i)) (fn (k + i)) (fs (k + i))) 1 = valB (fk k) (fn k) (fs k) := by simp [keyT]
    rw [e1] at hr3
    have hg := getR_at (okF_kinds (hok k (by omega))) hr3
    have e2 : (((groups (m : Int)).length + (keyT (fun i => valB (fk i) (fn i) (fs i)) k).length : Nat) : Int) + ((valB (fk k) (fn k) (fs k)).length : Int) = (((groups (m : Int)).length + (keyT (fun i => valB (fk i) (fn i) (fs i)) (k + 1)).length : Nat) : Int) := by
      rw [keyT, List.length_append]; push_cast; omega
    rw [e2] at hg
    refine ⟨?_, fun i hi => ?_⟩
    · rw [rQ, h1]
      show (if (getR M F _).ok = true then _ else _) = _
      rw [hg]; rfl
    · by_cases e : i < k
      · exact h2 i e
      · obtain rfl : i = k := by omega
        unfold rG
        rw [h1]
        exact hg

/-- Rows come back. -/
theorem row_back {n : Nat} {fc ft : Nat → Int} {fu : Nat → Bool} {m : Nat} {fk fn : Nat → Int} {fs : Nat → ByteArray} (h : rowOk n fc ft fu m fk fn fs = true) (L : List Int) (hL : L = encRB n fc ft fu m fk fn fs) :
    4 < L.length ∧ sumGood L.length (fun i => L.getD i 0) = true ∧ rowRd (L.length - 4) (fun i => L.getD i 0) n fc ft fu = true ∧ rCnt (L.length - 4) (fun i => L.getD i 0) = m ∧ ∀ i, i < m → rK (L.length - 4) (fun i => L.getD i 0) i = fk i ∧ rN (L.length - 4) (fun i => L.getD i 0) i = fn i ∧ rS (L.length - 4) (fun i => L.getD i 0) i = fs i := by
  have hL2 : L = sumB (rowB m fk fn fs) := by rw [hL]; unfold encRB; rw [h]; rfl
  obtain ⟨hpk, hmn, hfa⟩ := rowOk_iff.1 h
  have hm6 : m ≤ 6 := by have := (planOk_iff.1 hpk).2; omega
  have hok : ∀ i, i < m → okF (fk i) (fn i) (fs i) = true := fun i hi => by have := (fitsAll_iff.1 hfa).2 i hi; unfold fitsP at this; simp only [Bool.and_eq_true] at this; exact this.1
  have hR := rowB_byte m fk fn fs
  have hgood := sumB_good hR
  have hat := sumB_at (rowB m fk fn fs)
  have hlen : L.length - 4 = (rowB m fk fn fs).length := by rw [hL2, sumB_len]; omega
  have hpos : 0 < (rowB m fk fn fs).length := by unfold rowB; rw [List.length_append]; have := (groups_len (clampN (m : Int))).1; omega
  rw [← hL2] at hgood hat
  rw [← hlen] at hat
  obtain ⟨hu, hq⟩ := rQ_at hm6 hok hat
  obtain ⟨hq1, hq2⟩ := hq m (Nat.le_refl _)
  have hcnt : rCnt (L.length - 4) (fun i => L.getD i 0) = m := by unfold rCnt; rw [hu]; simp
  have hvals : ∀ i, i < m → rK (L.length - 4) (fun i => L.getD i 0) i = fk i ∧ rN (L.length - 4) (fun i => L.getD i 0) i = fn i ∧ rS (L.length - 4) (fun i => L.getD i 0) i = fs i := fun i hi => by
    unfold rK rN rS; rw [hq2 i hi]; exact ⟨rfl, rfl, rfl⟩
  refine ⟨by rw [hL2, sumB_len]; omega, hgood, ?_, hcnt, hvals⟩
  unfold rowRd
  rw [hu, hcnt, hq1, rowOk_congr hvals, h]
  have e : (((groups (m : Int)).length + (keyT (fun i => valB (fk i) (fn i) (fs i)) m).length : Nat) : Int) = ((L.length - 4 : Nat) : Int) := by
    rw [hlen]; unfold rowB; rw [List.length_append, clampN_id (x := (m : Int)) (by omega) (by omega)]
  rw [e]
  simp; omega
/-- What is read of the first bytes. -/
theorem rQ_read {M : Nat} {F : Nat → Int} (hb : ∀ i, i < M → 0 ≤ F i ∧ F i ≤ 255) (h0 : (getU M F 0).2.2 = true) : ∀ {k : Nat} {p : Int}, rQ M F k = some p → AtF M F 0 (groups (getU M F 0).1 ++ keyT (fun i => valB (rK M F i) (rN M F i) (rS M F i)) k) ∧ p = ((groups (getU M F 0).1 ++ keyT (fun i => valB (rK M F i) (rN M F i) (rS M F i)) k).length : Int)
  | 0, p, h => by
    obtain ⟨a, q, ok, hu⟩ : ∃ a q ok, getU M F 0 = (a, q, ok) := ⟨_, _, _, rfl⟩
    rw [rQ] at h
    rw [hu] at h h0 ⊢
    simp only at h h0 ⊢
    subst h0
    obtain ⟨i, e, hA, hq, -, -⟩ := getU_read hb hu
    have ei : i = 0 := by omega
    subst ei
    have e2 := Option.some.inj h
    simp only [keyT, List.append_nil]
    exact ⟨hA, by omega⟩
  | k + 1, p, h => by
    obtain ⟨p', h1, h2, h3⟩ := rQ_succ h
    obtain ⟨hA, hp⟩ := rQ_read hb h0 h1
    have eg : rG M F k = getR M F p' := by unfold rG; rw [h1]; rfl
    obtain ⟨kk, y, s, q, ok, hg⟩ : ∃ kk y s q ok, getR M F p' = ⟨kk, y, s, q, ok⟩ := ⟨_, _, _, _, _, rfl⟩
    have ek : rK M F k = kk ∧ rN M F k = y ∧ rS M F k = s := by unfold rK rN rS; rw [eg, hg]; exact ⟨rfl, rfl, rfl⟩
    rw [hg] at h2 h3
    simp only at h2 h3
    subst h2 h3
    obtain ⟨i, ei, hV, hq, -, -⟩ := getR_read hb hg
    have ei2 : i = (groups (getU M F 0).1 ++ keyT (fun i => valB (rK M F i) (rN M F i) (rS M F i)) k).length := by omega
    rw [keyT, ← List.append_assoc, ek.1, ek.2.1, ek.2.2]
    refine ⟨hA.append ?_, ?_⟩
    · rw [Nat.zero_add, ← ei2]; exact hV
    · rw [List.length_append, ← ei2, hq]; push_cast; rfl
/-- What is read has these bytes. -/
theorem row_read {N : Nat} {F : Nat → Int} {n : Nat} {fc ft : Nat → Int} {fu : Nat → Bool} (hb : ∀ i, i < N → 0 ≤ F i ∧ F i ≤ 255) (hg : sumGood N F = true) (h : rowRd (N - 4) F n fc ft fu = true) :
    rowOk n fc ft fu (rCnt (N - 4) F) (rK (N - 4) F) (rN (N - 4) F) (rS (N - 4) F) = true ∧ encRB n fc ft fu (rCnt (N - 4) F) (rK (N - 4) F) (rN (N - 4) F) (rS (N - 4) F) = lof N F := by
  unfold sumGood at hg
  simp only [decide_eq_true_eq] at hg
  obtain ⟨M, rfl⟩ : ∃ M, N = M + 4 := ⟨N - 4, by omega⟩
  rw [show M + 4 - 4 = M by omega] at *
  unfold rowRd at h
  simp only [Bool.and_eq_true, decide_eq_true_eq] at h
  obtain ⟨h0, ⟨h7, hq⟩, hr⟩ := h
  refine ⟨hr, ?_⟩
  unfold encRB
  rw [hr]
  obtain ⟨hA, hp⟩ := rQ_read (fun i hi => hb i (by omega)) h0 hq
  have ec : clampN (rCnt M F : Int) = (getU M F 0).1 := by
    obtain ⟨a, q, ok, hu⟩ : ∃ a q ok, getU M F 0 = (a, q, ok) := ⟨_, _, _, rfl⟩
    unfold rCnt
    rw [hu] at h0 ⊢
    simp only at h0 ⊢
    subst h0
    have := getU_bd (fun i hi => hb i (by omega)) hu
    rw [Int.toNat_of_nonneg this.1]
    exact clampN_id this.1 this.2.1
  have eR : rowB (rCnt M F) (rK M F) (rN M F) (rS M F) = lof M F := by
    have e := hA.lof
    unfold rowB
    rw [ec]
    rw [← e]
    have el : (groups (getU M F 0).1 ++ keyT (fun i => valB (rK M F i) (rN M F i) (rS M F i)) (rCnt M F)).length = M := by omega
    rw [el]
    congr 1
    funext j
    rw [Nat.zero_add]
  show sumB _ = _
  rw [eR]
  unfold sumB
  have e3 : crc (lof M F).length (fun i => (lof M F).getD i 0) = crc M F := by
    rw [lof_len]
    exact crc_congr (fun i hi => lof_get M F i hi)
  rw [e3]
  exact (sum_iff hb (crc_lt (fun i hi => hb i (by omega)))).2 hg.2
end Go.Proofs.YtjoimkfpenbkmabGreatDoor

/-
  The program's RowOk: as the model's.
-/
namespace Go.Proofs.YtjoimkfpenbkmabGreatDoor
open Go.RowKit
set_option maxRecDepth 4000

theorem implRowOk_any (a : Option Addr) (n cap : Nat) (fc ft : Nat → Int) (fu fd : Nat → Bool) (a2 : Option Addr) (m c2 : Nat) (fk fn : Nat → Int) (fs : Nat → ByteArray) (w : World) (hp : PView w a n cap fc ft fu fd) (hq : VView w a2 m c2 fk fn fs) (hn : n ≤ 281474976710656) (_hm : m ≤ 281474976710656) :
    Calls Tryz.prog 63 #[.slice a n cap, .slice a2 m c2] w fun e w' => e = .returned (.bool (rowOk n fc ft fu m fk fn fs)) ∧ Below w.heap.size w w' := by
  obtain ⟨o, ho⟩ : ∃ o, Hid (rowOk n fc ft fu m fk fn fs = o) := ⟨_, rfl⟩
  rw [ho.out]
  go_enter Tryz.func63, Tryz.ntmps63
  go_wp2_with fail
  refine (implPlanOk_any a n cap fc ft fu fd w hp).mono ?_
  cases hpk : planOk n fc ft with
  | false =>
    have e : o = false := by rw [← ho.out]; unfold rowOk; rw [hpk]; rfl
    subst e
    rintro e w1 ⟨rfl, hb⟩
    go_wp2
    go_ret
    exact ⟨rfl, hb⟩
  | true =>
    rintro e w1 ⟨rfl, hb⟩
    by_cases hmn : m = n
    · subst hmn
      have e : fitsAllI m m ft fu fk fn fs = o := by rw [fitsAllI_ok hpk, ← ho.out]; unfold rowOk; rw [hpk]; simp
      have HE : Hid (fitsAllI m m ft fu fk fn fs = o) := e
      clear e ho
      replace hp := hp.below hb
      replace hq := hq.below hb
      go_wp2_with fail
      refine (implFitsAll_any a m cap fc ft fu fd a2 m c2 fk fn fs _ hp hq (by omega) (by omega)).mono ?_
      rw [HE.out]
      rintro e w2 ⟨rfl, hb2⟩
      replace hb := hb.trans (hb2.mono hb.size)
      clear hb2 hp hq
      go_wp2
      go_ret
      exact ⟨rfl, hb⟩
    · have e : o = false := by rw [← ho.out]; unfold rowOk; rw [hpk]; simp [hmn]
      subst e
      have hz : ¬ (m : Int) = (n : Int) := by omega
      have hz' : ¬ (n : Int) = (m : Int) := by omega
      clear hp hq
      go_wp2
      go_ret
      exact ⟨rfl, hb⟩
end Go.Proofs.YtjoimkfpenbkmabGreatDoor

/-
  The program's HeadOf and KeyOf come to the plain ones.
-/
namespace Go.Proofs.YtjoimkfpenbkmabGreatDoor
open Go.RowKit
set_option maxRecDepth 4000

set_option maxHeartbeats 4000000 in
theorem implHead_any (a : Option Addr) (n cap : Nat) (f : Nat → PDef) (t i : Int) (w : World) (h : LView w a n cap f) (hf : LFine n f) (hI : ChkI w) :
    Calls Tryz.prog 20 #[.slice a n cap, .int .i64 t, .int .i64 i] w (ByTo w (headB f n t i)) := by
  have hK := keyPlanOf_any a n cap f t i w h hf hI
  clear h hI
  go_enter Tryz.func20, Tryz.ntmps20
  go_wp2_with fail
  refine hK.mono ?_
  rintro e w1 ⟨hb1, hcase⟩
  clear hK
  rcases hcase with ⟨hT, g, c, rfl, -⟩ | ⟨hT, rfl⟩
  · have HL : Hid (headB f n t i = [t + 1, i + 1]) := by show _ = _; unfold headB; rw [if_pos hT]
    have ht : 0 ≤ t ∧ t ≤ 2 := by have := (firstF_none hT.1).1; have := hT.2; omega
    have hi : -1 ≤ i ∧ i ≤ 1 := by
      have h1 := (firstF_none hT.1).2.1 t.toNat (by have := hT.2; omega)
      have h2 := (checkF_good h1).2.2.2.1
      have := hT.2
      omega
    obtain ⟨N, hN⟩ : ∃ x, Hid (planN (f t.toNat) i = x) := ⟨_, rfl⟩
    rw [hN.out]
    have hb2 : Below w1.heap.size w1 (w1.alloc (.cells #[.slice (some ⟨g, 0, none⟩) N c, .int .u8 (t + 1), .int .u8 (i + 1)] 67)) := (Below.refl _ _).alloc (Nat.le_refl _) _
    have hv : View (w1.alloc (.cells #[.slice (some ⟨g, 0, none⟩) N c, .int .u8 (t + 1), .int .u8 (i + 1)] 67)) (some ⟨w1.heap.size, 1, none⟩) 2 2 (fun q => if q = 0 then t + 1 else i + 1) := by
      refine ⟨Nat.le_refl _, fun q hq => ?_, fun _ => ⟨_, _, rfl, by simp, fun q hq => ?_⟩⟩
      · by_cases e : q = 0
        · simp only [e, if_true]; omega
        · simp only [e, if_false]; omega
      · have hq' : q = 0 ∨ q = 1 := by omega
        rcases hq' with rfl | rfl <;> simp [go_sem]
    have hP := putBytes_any w1.heap.size 1 2 2 _ none 0 0 (fun _ => 0) _ hv ⟨Nat.le_refl _, fun _ hi => absurd hi (Nat.not_lt_zero _), fun h => absurd h (Nat.lt_irrefl _)⟩ (fun _ => ⟨rfl, rfl⟩) (by omega)
    have HB2 : Hid (Below w.heap.size w (w1.alloc (.cells #[.slice (some ⟨g, 0, none⟩) N c, .int .u8 (t + 1), .int .u8 (i + 1)] 67))) := hb1.trans (hb2.mono hb1.size)
    clear hv hb2 hb1
    go_wp2_with fail
    refine hP.mono ?_
    rintro e w3 ⟨rfl, hO, hb3⟩
    have HR : Hid (ByTo w (headB f n t i) (.returned (.slice (some ⟨(w1.alloc (.cells #[.slice (some ⟨g, 0, none⟩) N c, .int .u8 (t + 1), .int .u8 (i + 1)] 67)).heap.size, 0, none⟩) (2 + 0) (2 + 0))) w3) := by
      show ByTo _ _ _ _
      rw [HL.out]
      exact ByTo.low ⟨_, _, rfl, by simpa [lof, List.range_succ] using hO, hb3⟩ HB2.out
    clear hP hO hb3
    go_wp2
    go_ret
    simpa using HR.out
  · have HL : Hid (headB f n t i = []) := by show _ = _; unfold headB; rw [if_neg hT]
    have hb2 : Below w1.heap.size w1 (w1.alloc (.cells #[.slice none 0 0, .int .u8 0, .int .u8 0] 67)) := (Below.refl _ _).alloc (Nat.le_refl _) _
    have HR : Hid (ByTo w (headB f n t i) (.returned (.slice (some ⟨(w1.alloc (.cells #[.slice none 0 0, .int .u8 0, .int .u8 0] 67)).heap.size, 0, none⟩) 0 0)) ((w1.alloc (.cells #[.slice none 0 0, .int .u8 0, .int .u8 0] 67)).alloc (.cells #[] 5))) := by
      show ByTo _ _ _ _
      rw [HL.out]
      exact (ByTo.nil _).low (hb1.trans (hb2.mono hb1.size))
    clear hb1 hb2
    go_wp2
    go_ret
    simpa using HR.out
end Go.Proofs.YtjoimkfpenbkmabGreatDoor

