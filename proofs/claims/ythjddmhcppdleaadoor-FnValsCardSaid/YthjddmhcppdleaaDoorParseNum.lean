/-
  The model's reading of a number.
-/
import Derived.Test.YthjddmhcppdleaaDoorParsePlain
import Derived.Test.YthjddmhcppdleaaDoorInfo
import Derived.Lib.Atoi
namespace Go.Proofs.YthjddmhcppdleaaDoor
open Go.RowKit Go.Lib

theorem decFrom_stop {l : List UInt8} : ∀ {k acc n : Nat} {b : UInt8}, decFrom acc (l.take k) = some n → l[k]? = some b → digitVal b = none → decFrom acc l = none := by
  induction l with
  | nil => intro k acc n b _ hb; simp at hb
  | cons a t ih =>
    intro k acc n b h hb hd
    cases k with
    | zero =>
      simp only [List.getElem?_cons_zero, Option.some.injEq] at hb
      subst hb
      simp [decFrom, hd]
    | succ k =>
      simp only [List.take_succ_cons, decFrom] at h ⊢
      cases hv : digitVal a with
      | none => rfl
      | some d =>
        rw [hv] at h
        exact ih h (by simpa using hb) hd

theorem digit_yes {b : UInt8} (h1 : (48 : Int) ≤ (b.toNat : Int)) (h2 : (b.toNat : Int) ≤ 57) : digitVal b = some (b.toNat - 48) := by
  unfold digitVal
  rw [if_pos (by omega)]
theorem digit_no {b : UInt8} (h : ¬ ((48 : Int) ≤ (b.toNat : Int) ∧ (b.toNat : Int) ≤ 57)) : digitVal b = none := by
  unfold digitVal
  rw [if_neg (by omega)]

theorem at_toList {r : ByteArray} {k : Nat} (h : k < r.size) : r.data.toList[k]? = some r[k] := by
  have h' : k < r.data.toList.length := by simpa using h
  rw [List.getElem?_eq_getElem h']
  simp
  rfl

theorem len_list (r : ByteArray) : r.data.toList.length = r.size := by simp

theorem p2b_len {neg : Bool} {r : ByteArray} (h : r.size < 1 ∨ 16 < r.size) : p2body neg r.data.toList = (0, false) := by
  unfold p2body
  rw [if_pos (by rw [len_list]; exact h)]
theorem p2b_zero {neg : Bool} {r : ByteArray} (h0 : 1 ≤ r.size) (h : r.size ≤ 16) (hz : (r[0]'h0).toNat = 48) (h1 : 1 < r.size ∨ neg = true) : p2body neg r.data.toList = (0, false) := by
  unfold p2body
  have e : r.data.toList.head? = some 48 := by
    rw [List.head?_eq_getElem?, at_toList h0]
    congr 1
    exact UInt8.toNat_inj.1 hz
  have hl : ¬ (r.data.toList.length < 1 ∨ 16 < r.data.toList.length) := by rw [len_list]; omega
  rw [if_neg hl, if_pos ⟨e, by rw [len_list]; exact h1⟩]
def finN (neg : Bool) (o : Option Nat) : Int × Bool := match o with
  | none => (0, false)
  | some n => (if neg then -(n : Int) else (n : Int), true)

theorem p2b_loop {neg : Bool} {r : ByteArray} (h0 : 1 ≤ r.size) (h : r.size ≤ 16) (hz : (r[0]'h0).toNat = 48 → r.size ≤ 1 ∧ neg = false) : p2body neg r.data.toList = finN neg (decFrom 0 r.data.toList) := by
  unfold p2body
  have hz' : r.data.toList.head? = some 48 → r.size ≤ 1 ∧ neg = false := by
    intro e
    rw [List.head?_eq_getElem?, at_toList h0] at e
    exact hz (by rw [Option.some.inj e]; rfl)
  have hl : ¬ (r.data.toList.length < 1 ∨ 16 < r.data.toList.length) := by rw [len_list]; omega
  have hl2 : ¬ (r.data.toList.head? = some 48 ∧ (1 < r.data.toList.length ∨ neg = true)) := by
    rw [len_list]
    rintro ⟨e1, e2⟩
    have := hz' e1
    rcases e2 with e2 | e2
    · omega
    · rw [this.2] at e2; cases e2
  rw [if_neg hl, if_neg hl2]
  cases decFrom 0 r.data.toList <;> rfl

set_option maxHeartbeats 2000000 in
theorem l2Parse_false (r : ByteArray) (w : World) (hm : ∀ h : 0 < r.size, ((r[0].toNat : Int) == 45) = false) :
    Calls Tryd.prog 34 #[.string r] w fun e w' => e = .returned (.tuple #[.int .i64 (p2body false r.data.toList).1, .bool (p2body false r.data.toList).2]) ∧ w' = w := by
  by_cases h1 : 0 < r.size
  case neg =>
    have hz : r.size = 0 := by omega
    rw [p2b_len (.inl (by omega))]
    have h0 : ¬ (0 : Int) < (r.size : Int) := by omega
    go_enter Tryd.func34, Tryd.ntmps34
    go_wp2
    go_ret2
    exact ⟨rfl, rfl⟩
  have h0 : (0 : Int) < (r.size : Int) := by omega
  have hm := hm h1
  have h01 : (1 : Int) ≤ (r.size : Int) := by omega
  by_cases h16 : r.size ≤ 16
  case neg =>
    rw [p2b_len (.inr (by omega))]
    have h2 : ¬ (r.size : Int) ≤ 16 := by omega
    go_enter Tryd.func34, Tryd.ntmps34
    go_wp2
    go_ret2
    exact ⟨rfl, rfl⟩
  have h2 : (r.size : Int) ≤ 16 := by omega
  by_cases hz : (r[0].toNat = 48 ∧ (1 < r.size ∨ false = true))
  · rw [p2b_zero h1 h16 hz.1 hz.2]
    have hz0 : ((r[0].toNat : Int) == 48) = true := by rw [hz.1]; rfl
    by_cases hz1 : (1 : Int) < (r.size : Int)
    · go_enter Tryd.func34, Tryd.ntmps34
      go_wp2
      go_ret2
      exact ⟨rfl, rfl⟩
    · have hneg : false = true := by
        rcases hz.2 with h | h
        · omega
        · exact h
      cases hneg
  rw [p2b_loop h1 h16 (fun h => by
    rw [not_and, not_or] at hz
    have := hz h
    exact ⟨by omega, by simp at this ⊢⟩)]
  have hzz : ((r[0].toNat : Int) == 48) = false ∨ (((r[0].toNat : Int) == 48) = true ∧ ¬ (1 : Int) < (r.size : Int) ∧ false = false) := by
    by_cases h48 : r[0].toNat = 48
    · rw [not_and, not_or] at hz
      have := hz h48
      exact .inr ⟨by rw [h48]; rfl, by omega, by simp at this ⊢⟩
    · exact .inl (by simp; omega)
  clear hz
  rcases hzz with hzz | ⟨hzz, hzl, hzn⟩
  · clear h01
    go_enter Tryd.func34, Tryd.ntmps34
    go_wp2
    go_loopg [5, 6] r.size (fun g a i wr => ∃ k acc : Nat, k ≤ r.size ∧ g = r.size - k ∧ a = .int .i64 acc ∧ i = .int .i64 k ∧ wr = w ∧ decFrom 0 (r.data.toList.take k) = some acc)
    case atStart => exact ⟨0, 0, Nat.zero_le _, rfl, rfl, rfl, rfl, rfl⟩
    case round =>
      obtain ⟨k, acc, hk, rfl, rfl, rfl, rfl, hD⟩ := hrel
      have hacc : acc < 10 ^ (0 + (r.data.toList.take k).length) := decFrom_lt _ 0 acc 0 (by simp) hD
      by_cases hlt : k < r.size
      · have hkz : (k : Int) < (r.size : Int) := by omega
        have hub : (r[k].toNat : Int) ≤ 255 := by have := r[k].toNat_lt; omega
        have hacc : (acc : Int) ≤ 999999999999999 := by
          have e : (r.data.toList.take k).length = k := by rw [List.length_take, len_list]; omega
          rw [e, Nat.zero_add] at hacc
          have : 10 ^ k ≤ 10 ^ 15 := Nat.pow_le_pow_right (by decide) (by omega)
          omega
        by_cases hd : ((48 : Int) ≤ (r[k].toNat : Int) ∧ (r[k].toNat : Int) ≤ 57)
        · have hS : Hid (decFrom 0 (r.data.toList.take (k + 1)) = some (acc * 10 + (r[k].toNat - 48))) := decFrom_take _ k 0 acc _ _ hD (at_toList hlt) (digit_yes hd.1 hd.2)
          obtain ⟨hd1, hd2⟩ := hd
          clear hD
          go_wp2
          go_roundg (r.size - (k + 1))
          case measure => omega
          case rel => exact ⟨k + 1, acc * 10 + (r[k].toNat - 48), by omega, rfl, by go_num, by go_num, rfl, hS.out⟩
        · have hS : Hid (finN false (decFrom 0 r.data.toList) = (0, false)) := by
            have := decFrom_stop hD (at_toList hlt) (digit_no hd)
            show finN false (decFrom 0 r.data.toList) = (0, false)
            rw [this]
            rfl
          clear hD hacc
          by_cases hd1 : (48 : Int) ≤ (r[k].toNat : Int)
          · have hd2 : ¬ (r[k].toNat : Int) ≤ 57 := fun h => hd ⟨hd1, h⟩
            clear hd
            go_wp2
            go_ret2
            exact ⟨by rw [hS.out]; rfl, rfl⟩
          · clear hd
            go_wp2
            go_ret2
            exact ⟨by rw [hS.out]; rfl, rfl⟩
      · have hkn : k = r.size := by omega
        have hacc : (acc : Int) ≤ 9999999999999999 := by
          have e : (r.data.toList.take k).length ≤ 16 := by rw [List.length_take, len_list]; omega
          have : 10 ^ (0 + (r.data.toList.take k).length) ≤ 10 ^ 16 := Nat.pow_le_pow_right (by decide) (by omega)
          omega
        have hS : Hid (finN false (decFrom 0 r.data.toList) = (if false then -(acc : Int) else (acc : Int), true)) := by
          have e : r.data.toList.take k = r.data.toList := List.take_of_length_le (by rw [len_list]; omega)
          rw [e] at hD
          show finN false (decFrom 0 r.data.toList) = _
          rw [hD]
          rfl
        clear hD
        go_wp2
        go_ret2
        exact ⟨by rw [hS.out]; rfl, rfl⟩
  · clear h01 hzn
    go_enter Tryd.func34, Tryd.ntmps34
    go_wp2
    go_loopg [5, 6] r.size (fun g a i wr => ∃ k acc : Nat, k ≤ r.size ∧ g = r.size - k ∧ a = .int .i64 acc ∧ i = .int .i64 k ∧ wr = w ∧ decFrom 0 (r.data.toList.take k) = some acc)
    case atStart => exact ⟨0, 0, Nat.zero_le _, rfl, rfl, rfl, rfl, rfl⟩
    case round =>
      obtain ⟨k, acc, hk, rfl, rfl, rfl, rfl, hD⟩ := hrel
      have hacc : acc < 10 ^ (0 + (r.data.toList.take k).length) := decFrom_lt _ 0 acc 0 (by simp) hD
      by_cases hlt : k < r.size
      · have hkz : (k : Int) < (r.size : Int) := by omega
        have hub : (r[k].toNat : Int) ≤ 255 := by have := r[k].toNat_lt; omega
        have hacc : (acc : Int) ≤ 999999999999999 := by
          have e : (r.data.toList.take k).length = k := by rw [List.length_take, len_list]; omega
          rw [e, Nat.zero_add] at hacc
          have : 10 ^ k ≤ 10 ^ 15 := Nat.pow_le_pow_right (by decide) (by omega)
          omega
        by_cases hd : ((48 : Int) ≤ (r[k].toNat : Int) ∧ (r[k].toNat : Int) ≤ 57)
        · have hS : Hid (decFrom 0 (r.data.toList.take (k + 1)) = some (acc * 10 + (r[k].toNat - 48))) := decFrom_take _ k 0 acc _ _ hD (at_toList hlt) (digit_yes hd.1 hd.2)
          obtain ⟨hd1, hd2⟩ := hd
          clear hD
          go_wp2
          go_roundg (r.size - (k + 1))
          case measure => omega
          case rel => exact ⟨k + 1, acc * 10 + (r[k].toNat - 48), by omega, rfl, by go_num, by go_num, rfl, hS.out⟩
        · have hS : Hid (finN false (decFrom 0 r.data.toList) = (0, false)) := by
            have := decFrom_stop hD (at_toList hlt) (digit_no hd)
            show finN false (decFrom 0 r.data.toList) = (0, false)
            rw [this]
            rfl
          clear hD hacc
          by_cases hd1 : (48 : Int) ≤ (r[k].toNat : Int)
          · have hd2 : ¬ (r[k].toNat : Int) ≤ 57 := fun h => hd ⟨hd1, h⟩
            clear hd
            go_wp2
            go_ret2
            exact ⟨by rw [hS.out]; rfl, rfl⟩
          · clear hd
            go_wp2
            go_ret2
            exact ⟨by rw [hS.out]; rfl, rfl⟩
      · have hkn : k = r.size := by omega
        have hacc : (acc : Int) ≤ 9999999999999999 := by
          have e : (r.data.toList.take k).length ≤ 16 := by rw [List.length_take, len_list]; omega
          have : 10 ^ (0 + (r.data.toList.take k).length) ≤ 10 ^ 16 := Nat.pow_le_pow_right (by decide) (by omega)
          omega
        have hS : Hid (finN false (decFrom 0 r.data.toList) = (if false then -(acc : Int) else (acc : Int), true)) := by
          have e : r.data.toList.take k = r.data.toList := List.take_of_length_le (by rw [len_list]; omega)
          rw [e] at hD
          show finN false (decFrom 0 r.data.toList) = _
          rw [hD]
          rfl
        clear hD
        go_wp2
        go_ret2
        exact ⟨by rw [hS.out]; rfl, rfl⟩

set_option maxHeartbeats 2000000 in
theorem l2Parse_true (s r : ByteArray) (w : World) (h0 : (0 : Int) < (s.size : Int)) (hsz : (s.size : Int) ≤ (r.size : Int) + 1) (hsz2 : (r.size : Int) + 1 ≤ (s.size : Int)) (hm : ∀ h : 0 < s.size, ((s[0].toNat : Int) == 45) = true) (hx : s.extract 1 s.size = r) :
    Calls Tryd.prog 34 #[.string s] w fun e w' => e = .returned (.tuple #[.int .i64 (p2body true r.data.toList).1, .bool (p2body true r.data.toList).2]) ∧ w' = w := by
  have h1' : 0 < s.size := by omega
  have hm := hm h1'
  by_cases h1 : 0 < r.size
  case neg =>
    have hz : (r.size : Int) = 0 := by omega
    rw [p2b_len (.inl (by omega))]
    have h0' : ¬ (1 : Int) ≤ (r.size : Int) := by omega
    go_enter Tryd.func34, Tryd.ntmps34
    go_wp2
    go_ret2
    exact ⟨rfl, rfl⟩
  have h01 : (1 : Int) ≤ (r.size : Int) := by omega
  by_cases h16 : r.size ≤ 16
  case neg =>
    rw [p2b_len (.inr (by omega))]
    have h2 : ¬ (r.size : Int) ≤ 16 := by omega
    go_enter Tryd.func34, Tryd.ntmps34
    go_wp2
    go_ret2
    exact ⟨rfl, rfl⟩
  have h2 : (r.size : Int) ≤ 16 := by omega
  by_cases hz : (r[0].toNat = 48 ∧ (1 < r.size ∨ true = true))
  · rw [p2b_zero h1 h16 hz.1 hz.2]
    have hz0 : ((r[0].toNat : Int) == 48) = true := by rw [hz.1]; rfl
    by_cases hz1 : (1 : Int) < (r.size : Int)
    · go_enter Tryd.func34, Tryd.ntmps34
      go_wp2
      go_ret2
      exact ⟨rfl, rfl⟩
    · have hneg : true = true := by
        rcases hz.2 with h | h
        · omega
        · exact h
      clear hneg
      go_enter Tryd.func34, Tryd.ntmps34
      go_wp2
      go_ret2
      exact ⟨rfl, rfl⟩
  rw [p2b_loop h1 h16 (fun h => by
    rw [not_and, not_or] at hz
    have := hz h
    exact ⟨by omega, by simp at this ⊢⟩)]
  have hzz : ((r[0].toNat : Int) == 48) = false ∨ (((r[0].toNat : Int) == 48) = true ∧ ¬ (1 : Int) < (r.size : Int) ∧ true = false) := by
    by_cases h48 : r[0].toNat = 48
    · rw [not_and, not_or] at hz
      have := hz h48
      exact .inr ⟨by rw [h48]; rfl, by omega, by simp at this ⊢⟩
    · exact .inl (by simp; omega)
  clear hz
  rcases hzz with hzz | ⟨hzz, hzl, hzn⟩
  · clear h01
    go_enter Tryd.func34, Tryd.ntmps34
    go_wp2
    go_loopg [5, 6] r.size (fun g a i wr => ∃ k acc : Nat, k ≤ r.size ∧ g = r.size - k ∧ a = .int .i64 acc ∧ i = .int .i64 k ∧ wr = w ∧ decFrom 0 (r.data.toList.take k) = some acc)
    case atStart => exact ⟨0, 0, Nat.zero_le _, rfl, rfl, rfl, rfl, rfl⟩
    case round =>
      obtain ⟨k, acc, hk, rfl, rfl, rfl, rfl, hD⟩ := hrel
      have hacc : acc < 10 ^ (0 + (r.data.toList.take k).length) := decFrom_lt _ 0 acc 0 (by simp) hD
      by_cases hlt : k < r.size
      · have hkz : (k : Int) < (r.size : Int) := by omega
        have hub : (r[k].toNat : Int) ≤ 255 := by have := r[k].toNat_lt; omega
        have hacc : (acc : Int) ≤ 999999999999999 := by
          have e : (r.data.toList.take k).length = k := by rw [List.length_take, len_list]; omega
          rw [e, Nat.zero_add] at hacc
          have : 10 ^ k ≤ 10 ^ 15 := Nat.pow_le_pow_right (by decide) (by omega)
          omega
        by_cases hd : ((48 : Int) ≤ (r[k].toNat : Int) ∧ (r[k].toNat : Int) ≤ 57)
        · have hS : Hid (decFrom 0 (r.data.toList.take (k + 1)) = some (acc * 10 + (r[k].toNat - 48))) := decFrom_take _ k 0 acc _ _ hD (at_toList hlt) (digit_yes hd.1 hd.2)
          obtain ⟨hd1, hd2⟩ := hd
          clear hD
          go_wp2
          go_roundg (r.size - (k + 1))
          case measure => omega
          case rel => exact ⟨k + 1, acc * 10 + (r[k].toNat - 48), by omega, rfl, by go_num, by go_num, rfl, hS.out⟩
        · have hS : Hid (finN true (decFrom 0 r.data.toList) = (0, false)) := by
            have := decFrom_stop hD (at_toList hlt) (digit_no hd)
            show finN true (decFrom 0 r.data.toList) = (0, false)
            rw [this]
            rfl
          clear hD hacc
          by_cases hd1 : (48 : Int) ≤ (r[k].toNat : Int)
          · have hd2 : ¬ (r[k].toNat : Int) ≤ 57 := fun h => hd ⟨hd1, h⟩
            clear hd
            go_wp2
            go_ret2
            exact ⟨by rw [hS.out]; rfl, rfl⟩
          · clear hd
            go_wp2
            go_ret2
            exact ⟨by rw [hS.out]; rfl, rfl⟩
      · have hkn : k = r.size := by omega
        have hacc : (acc : Int) ≤ 9999999999999999 := by
          have e : (r.data.toList.take k).length ≤ 16 := by rw [List.length_take, len_list]; omega
          have : 10 ^ (0 + (r.data.toList.take k).length) ≤ 10 ^ 16 := Nat.pow_le_pow_right (by decide) (by omega)
          omega
        have hS : Hid (finN true (decFrom 0 r.data.toList) = (if true then -(acc : Int) else (acc : Int), true)) := by
          have e : r.data.toList.take k = r.data.toList := List.take_of_length_le (by rw [len_list]; omega)
          rw [e] at hD
          show finN true (decFrom 0 r.data.toList) = _
          rw [hD]
          rfl
        clear hD
        go_wp2
        go_ret2
        exact ⟨by rw [hS.out]; rfl, rfl⟩
  · cases hzn

theorem l2Parse_any (s : ByteArray) (w : World) :
    Calls Tryd.prog 34 #[.string s] w fun e w' => e = .returned (.tuple #[.int .i64 (p2 s.data.toList).1, .bool (p2 s.data.toList).2]) ∧ w' = w := by
  by_cases h : ∃ h0 : 0 < s.size, s[0] = 45
  · obtain ⟨h0, h45⟩ := h
    have e : s.data.toList = 45 :: (s.extract 1 s.size).data.toList := by
      obtain ⟨⟨l⟩⟩ := s
      cases l with
      | nil => exact absurd h0 (by simp [ByteArray.size])
      | cons c r =>
        have hc : c = 45 := h45
        subst hc
        simp [ByteArray.size]
    have e2 : p2 s.data.toList = p2body true (s.extract 1 s.size).data.toList := by rw [e]; rfl
    rw [e2]
    have hsz : (s.extract 1 s.size).size = s.size - 1 := by simp
    exact l2Parse_true s _ w (by omega) (by omega) (by omega) (fun _ => by rw [h45]; rfl) rfl
  · have e2 : p2 s.data.toList = p2body false s.data.toList := by
      unfold p2
      split
      · rename_i r hr
        exfalso
        apply h
        have h0 : 0 < s.size := by
          have := len_list s
          rw [hr] at this
          simp at this
          omega
        refine ⟨h0, ?_⟩
        have := at_toList h0
        rw [hr] at this
        exact (Option.some.inj this).symm
      · rfl
    rw [e2]
    exact l2Parse_false s w (fun h0 => by
      rw [beq_eq_false_iff_ne]
      intro h45
      apply h
      refine ⟨h0, UInt8.toNat_inj.1 ?_⟩
      show s[0].toNat = 45
      omega)
end Go.Proofs.YthjddmhcppdleaaDoor
