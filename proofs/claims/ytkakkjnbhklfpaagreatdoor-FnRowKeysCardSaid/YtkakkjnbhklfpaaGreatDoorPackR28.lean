/-
  Together: WordImpl, StrIter, TwicePlain, TwiceImpl
-/
import Derived.Test.YtkakkjnbhklfpaaGreatDoorPackR27
import Derived.Test.YtkakkjnbhklfpaaGreatDoorPackR9
import Derived.Test.YtkakkjnbhklfpaaGreatDoorPackR14
import Derived.Test.YtkakkjnbhklfpaaGreatDoorPackR4
import Derived.Test.YtkakkjnbhklfpaaGreatDoorPackR1
import Derived.Lib.SlicesCompact
import Derived.Test.YtkakkjnbhklfpaaGreatDoorShelf
import Derived.Sort.EncStr
import Derived.Sort.Grow
/-
  The program's isWord, isNoName, isOfNoType, and whether one of a row is so.
-/
namespace Go.Proofs.YtkakkjnbhklfpaaGreatDoor
open Go.RowKit
set_option maxRecDepth 4000

theorem isKw_split (s : ByteArray) : isKw s = ((s.toList == [116, 97, 98, 108, 101]) || ((s.toList == [112, 114, 105, 109, 97, 114, 121]) || ((s.toList == [117, 110, 105, 113, 117, 101]) || ((s.toList == [105, 110, 100, 101, 120]) || ((s.toList == [110, 117, 108, 108]) || ((s.toList == [100, 101, 115, 99]) || ((s.toList == [105, 110, 116]) || ((s.toList == [110, 117, 109]) || ((s.toList == [116, 101, 120, 116]) || ((s.toList == [98, 111, 111, 108]) || (false))))))))))) := by
  unfold isKw kwords
  simp only [List.contains_cons, List.contains_nil]
set_option maxHeartbeats 2000000 in
theorem isWord_any (s : ByteArray) (w : World) :
    Calls Tryz.prog 130 #[.string s] w fun e w' => e = .returned (.bool (isKw s)) ∧ w = w' := by
  have HK := isKw_split s
  obtain ⟨z, hz⟩ : ∃ z, Hid (isKw s = z) := ⟨_, rfl⟩
  rw [hz.out] at HK ⊢
  clear hz
  cases m0 : (s.toList == [116, 97, 98, 108, 101]) with
  | true =>
    have HZ : Hid (z = true) := by show _ = _; rw [HK]; simp [m0]
    clear HK
    go_enter Tryz.func130, Tryz.ntmps130
    go_wp2
    go_ret
    exact ⟨by rw [HZ.out]; rfl, rfl⟩
  | false =>
    cases m1 : (s.toList == [112, 114, 105, 109, 97, 114, 121]) with
    | true =>
      have HZ : Hid (z = true) := by show _ = _; rw [HK]; simp [m0, m1]
      clear HK
      go_enter Tryz.func130, Tryz.ntmps130
      go_wp2
      go_ret
      exact ⟨by rw [HZ.out]; rfl, rfl⟩
    | false =>
      cases m2 : (s.toList == [117, 110, 105, 113, 117, 101]) with
      | true =>
        have HZ : Hid (z = true) := by show _ = _; rw [HK]; simp [m0, m1, m2]
        clear HK
        go_enter Tryz.func130, Tryz.ntmps130
        go_wp2
        go_ret
        exact ⟨by rw [HZ.out]; rfl, rfl⟩
      | false =>
        cases m3 : (s.toList == [105, 110, 100, 101, 120]) with
        | true =>
          have HZ : Hid (z = true) := by show _ = _; rw [HK]; simp [m0, m1, m2, m3]
          clear HK
          go_enter Tryz.func130, Tryz.ntmps130
          go_wp2
          go_ret
          exact ⟨by rw [HZ.out]; rfl, rfl⟩
        | false =>
          cases m4 : (s.toList == [110, 117, 108, 108]) with
          | true =>
            have HZ : Hid (z = true) := by show _ = _; rw [HK]; simp [m0, m1, m2, m3, m4]
            clear HK
            go_enter Tryz.func130, Tryz.ntmps130
            go_wp2
            go_ret
            exact ⟨by rw [HZ.out]; rfl, rfl⟩
          | false =>
            cases m5 : (s.toList == [100, 101, 115, 99]) with
            | true =>
              have HZ : Hid (z = true) := by show _ = _; rw [HK]; simp [m0, m1, m2, m3, m4, m5]
              clear HK
              go_enter Tryz.func130, Tryz.ntmps130
              go_wp2
              go_ret
              exact ⟨by rw [HZ.out]; rfl, rfl⟩
            | false =>
              cases m6 : (s.toList == [105, 110, 116]) with
              | true =>
                have HZ : Hid (z = true) := by show _ = _; rw [HK]; simp [m0, m1, m2, m3, m4, m5, m6]
                clear HK
                go_enter Tryz.func130, Tryz.ntmps130
                go_wp2
                go_ret
                exact ⟨by rw [HZ.out]; rfl, rfl⟩
              | false =>
                cases m7 : (s.toList == [110, 117, 109]) with
                | true =>
                  have HZ : Hid (z = true) := by show _ = _; rw [HK]; simp [m0, m1, m2, m3, m4, m5, m6, m7]
                  clear HK
                  go_enter Tryz.func130, Tryz.ntmps130
                  go_wp2
                  go_ret
                  exact ⟨by rw [HZ.out]; rfl, rfl⟩
                | false =>
                  cases m8 : (s.toList == [116, 101, 120, 116]) with
                  | true =>
                    have HZ : Hid (z = true) := by show _ = _; rw [HK]; simp [m0, m1, m2, m3, m4, m5, m6, m7, m8]
                    clear HK
                    go_enter Tryz.func130, Tryz.ntmps130
                    go_wp2
                    go_ret
                    exact ⟨by rw [HZ.out]; rfl, rfl⟩
                  | false =>
                    cases m9 : (s.toList == [98, 111, 111, 108]) with
                    | true =>
                      have HZ : Hid (z = true) := by show _ = _; rw [HK]; simp [m0, m1, m2, m3, m4, m5, m6, m7, m8, m9]
                      clear HK
                      go_enter Tryz.func130, Tryz.ntmps130
                      go_wp2
                      go_ret
                      exact ⟨by rw [HZ.out]; rfl, rfl⟩
                    | false =>
                      have HZ : Hid (z = false) := by show _ = _; rw [HK]; simp [m0, m1, m2, m3, m4, m5, m6, m7, m8, m9]
                      clear HK
                      go_enter Tryz.func130, Tryz.ntmps130
                      go_wp2
                      go_ret
                      exact ⟨by rw [HZ.out]; rfl, rfl⟩

set_option maxHeartbeats 1000000 in
theorem isNoName_any (s : ByteArray) (w : World) (hs : s.size ≤ 281474976710656) :
    Calls Tryz.prog 97 #[.string s] w fun e w' => e = .returned (.bool (!wordOk s)) ∧ Below w.heap.size w w' := by
  have hT := implTokenOk_any 1 s w hs
  have HW : Hid (wordOk s = (tokOk 1 s && !isKw s)) := by show _ = _; unfold wordOk tokOk; rw [if_pos rfl]
  have hI := fun W => isWord_any s W
  obtain ⟨z, hz⟩ : ∃ z, Hid (wordOk s = z) := ⟨_, rfl⟩
  rw [hz.out] at HW ⊢
  clear hz
  generalize tokOk 1 s = o at *
  generalize isKw s = k at *
  go_enter Tryz.func97, Tryz.ntmps97
  go_wp2_with fail
  refine hT.mono ?_
  rintro e w1 ⟨rfl, hb1⟩
  have HB : Hid (Below w.heap.size w w1) := hb1
  clear hT hb1
  cases o with
  | false =>
    clear hI
    go_wp2
    go_ret
    exact ⟨by rw [HW.out]; rfl, HB.out⟩
  | true =>
    go_wp2_with fail
    refine (hI _).mono ?_
    rintro e w2 ⟨rfl, rfl⟩
    clear hI
    go_wp2
    go_ret
    exact ⟨by rw [HW.out]; cases k <;> rfl, HB.out⟩

set_option maxHeartbeats 1000000 in
theorem isOfNoType_any (s : ByteArray) (ty : Int) (nul : Bool) (w : World) :
    Calls Tryz.prog 99 #[.agg #[.string s, .int .i64 ty, .bool nul]] w fun e w' => e = .returned (.bool (decide (ty < 1 ∨ 4 < ty))) ∧ Below w.heap.size w w' := by
  have HB : Hid (Below w.heap.size w (w.alloc (.cells #[.string s, .int .i64 ty, .bool nul] 90))) := (Below.refl _ _).alloc (Nat.le_refl _) _
  obtain ⟨z, hz⟩ : ∃ z, Hid (decide (ty < 1 ∨ 4 < ty) = z) := ⟨_, rfl⟩
  rw [hz.out]
  by_cases h1 : ty < 1
  · have HD : Hid (z = true) := hz.out.symm.trans (decide_eq_true (.inl h1))
    go_enter Tryz.func99, Tryz.ntmps99
    go_wp2
    go_ret
    exact ⟨by rw [HD.out]; rfl, HB.out⟩
  · by_cases h2 : 4 < ty
    · have HD : Hid (z = true) := hz.out.symm.trans (decide_eq_true (.inr h2))
      have h3 : ty > 4 := h2
      go_enter Tryz.func99, Tryz.ntmps99
      go_wp2
      go_ret
      exact ⟨by rw [HD.out]; rfl, HB.out⟩
    · have HD : Hid (z = false) := hz.out.symm.trans (decide_eq_false (by omega))
      have h3 : ¬ ty > 4 := by omega
      go_enter Tryz.func99, Tryz.ntmps99
      go_wp2
      go_ret
      exact ⟨by rw [HD.out]; rfl, HB.out⟩

set_option maxHeartbeats 2000000 in
theorem indexStr_any (a : Option Addr) (n cap : Nat) (f : Nat → ByteArray) (w : World) (h : SView w a n cap f) (hn : n ≤ 4194304) (hz : ∀ i, i < n → (f i).size ≤ 281474976710656) :
    Calls Tryz.prog 128 #[.slice a n cap, .func (.func 97) #[] #[]] w fun e w' => ∃ r : Int, e = .returned (.int .i64 r) ∧ (0 ≤ r ↔ ∃ i, i < n ∧ wordOk (f i) = false) ∧ Below w.heap.size w w' := by
  go_enter Tryz.func128, Tryz.ntmps128
  go_wp2
  go_loopg [8] n (fun q i wr => ∃ k : Nat, k ≤ n ∧ q = n - k ∧ i = .int .i64 k ∧ Below w.heap.size w wr ∧ Hid (∀ i, i < k → ¬ (wordOk (f i) = false)))
  case atStart => exact ⟨0, Nat.zero_le _, rfl, rfl, Below.refl _ _, fun j hj => absurd hj (Nat.not_lt_zero _)⟩
  case round =>
    obtain ⟨k, hk, rfl, rfl, hB, HA⟩ := hrel
    by_cases hlt : k < n
    · have hkz : (k : Int) < (n : Int) := by omega
      obtain ⟨b1, o1, rfl, hb1, hcs⟩ := (h.below hB).cells (by omega)
      have x0 := hcs k hlt
      have hV := fun W => isNoName_any (f k) W (hz k hlt)
      have HB : Hid (Below w.heap.size w wr) := hB
      obtain ⟨o, ho⟩ : ∃ o, Hid ((!wordOk (f k)) = o) := ⟨_, rfl⟩
      have HO : Hid (o = true ↔ wordOk (f k) = false) := by show _ ↔ _; rw [← ho.out]; cases wordOk (f k) <;> simp
      simp only [ho.out] at hV
      clear ho
      obtain ⟨s0, hs0⟩ : ∃ s, Hid (f k = s) := ⟨_, rfl⟩
      rw [hs0.out] at x0
      simp only [hs0.out] at hV
      clear hcs h hB hz
      go_wp2_with fail
      refine (hV _).mono ?_
      rintro e w2 ⟨rfl, hB2⟩
      have HB3 : Hid (Below w.heap.size w w2) := HB.out.trans (hB2.mono (by have := HB.out.size; first | exact this | (simp; omega)))
      clear hB2 hV x0 HB
      cases o with
      | true =>
        have HR : Hid ((0 : Int) ≤ (k : Int) ↔ ∃ i, i < n ∧ wordOk (f i) = false) := ⟨fun _ => ⟨k, hlt, HO.out.1 rfl⟩, fun _ => by omega⟩
        clear HO HA
        go_wp2
        go_ret
        exact ⟨_, rfl, HR.out, HB3.out⟩
      | false =>
        have HN : Hid (∀ i, i < k + 1 → ¬ (wordOk (f i) = false)) := by
          intro i hi
          by_cases e : i < k
          · exact HA.out i e
          · obtain rfl : i = k := by omega
            intro hb
            have := HO.out.2 hb
            cases this
        clear HO HA
        go_wp2
        go_roundg (n - (k + 1))
        case measure => omega
        case rel => exact ⟨k + 1, by omega, rfl, by go_num, HB3.out, HN⟩
    · have hkz : ¬ (k : Int) < (n : Int) := by omega
      obtain rfl : k = n := by omega
      have HR : Hid ((0 : Int) ≤ -1 ↔ ∃ i, i < k ∧ wordOk (f i) = false) := ⟨fun h => absurd h (by decide), fun ⟨i, hi, hb⟩ => absurd hb (HA.out i hi)⟩
      clear h HA
      go_wp2
      go_ret
      exact ⟨_, rfl, HR.out, hB⟩

set_option maxHeartbeats 1000000 in
theorem containsStr_any (a : Option Addr) (n cap : Nat) (f : Nat → ByteArray) (w : World) (h : SView w a n cap f) (hn : n ≤ 4194304) (hz : ∀ i, i < n → (f i).size ≤ 281474976710656) :
    Calls Tryz.prog 96 #[.slice a n cap, .func (.func 97) #[] #[]] w fun e w' => e = .returned (.bool (decide (∃ i, i < n ∧ wordOk (f i) = false))) ∧ Below w.heap.size w w' := by
  have hI := indexStr_any a n cap f w h hn hz
  clear h
  obtain ⟨z, hd⟩ : ∃ z, Hid (decide (∃ i, i < n ∧ wordOk (f i) = false) = z) := ⟨_, rfl⟩
  rw [hd.out]
  go_enter Tryz.func96, Tryz.ntmps96
  go_wp2_with fail
  refine hI.mono ?_
  rintro e w1 ⟨r, rfl, hr, hb⟩
  have HD : Hid (z = decide (0 ≤ r)) := by
    show _ = _
    rw [← hd.out]
    exact decide_eq_decide.2 hr.symm
  clear hI hr hd
  go_wp2
  go_ret
  exact ⟨by rw [HD.out]; rfl, hb⟩

set_option maxHeartbeats 2000000 in
theorem indexCol_any (a : Option Addr) (n cap : Nat) (f : Nat → PCol) (w : World) (h : CView w a n cap f) (hn : n ≤ 4194304) :
    Calls Tryz.prog 131 #[.slice a n cap, .func (.func 99) #[] #[]] w fun e w' => ∃ r : Int, e = .returned (.int .i64 r) ∧ (0 ≤ r ↔ ∃ i, i < n ∧ ((f i).type < 1 ∨ 4 < (f i).type)) ∧ Below w.heap.size w w' := by
  go_enter Tryz.func131, Tryz.ntmps131
  go_wp2
  go_loopg [8] n (fun q i wr => ∃ k : Nat, k ≤ n ∧ q = n - k ∧ i = .int .i64 k ∧ Below w.heap.size w wr ∧ Hid (∀ i, i < k → ¬ (((f i).type < 1 ∨ 4 < (f i).type))))
  case atStart => exact ⟨0, Nat.zero_le _, rfl, rfl, Below.refl _ _, fun j hj => absurd hj (Nat.not_lt_zero _)⟩
  case round =>
    obtain ⟨k, hk, rfl, rfl, hB, HA⟩ := hrel
    by_cases hlt : k < n
    · have hkz : (k : Int) < (n : Int) := by omega
      obtain ⟨b1, o1, rfl, hb1, hcs⟩ := (h.below hB).cells (by omega)
      obtain ⟨x0, x1, x2⟩ := hcs k hlt
      have hV := fun W => isOfNoType_any (f k).name (f k).type (f k).null W
      have HB : Hid (Below w.heap.size w wr) := hB
      obtain ⟨o, ho⟩ : ∃ o, Hid (decide ((f k).type < 1 ∨ 4 < (f k).type) = o) := ⟨_, rfl⟩
      have HO : Hid (o = true ↔ ((f k).type < 1 ∨ 4 < (f k).type)) := by show _ ↔ _; rw [← ho.out]; exact decide_eq_true_iff
      simp only [ho.out] at hV
      clear ho
      obtain ⟨s0, hs0⟩ : ∃ s, Hid ((f k).name = s) := ⟨_, rfl⟩
      obtain ⟨s1, hs1⟩ : ∃ s, Hid ((f k).type = s) := ⟨_, rfl⟩
      obtain ⟨s2, hs2⟩ : ∃ s, Hid ((f k).null = s) := ⟨_, rfl⟩
      rw [hs0.out] at x0
      rw [hs1.out] at x1
      rw [hs2.out] at x2
      simp only [hs0.out, hs1.out, hs2.out] at hV
      clear hcs h hB
      go_wp2_with fail
      refine (hV _).mono ?_
      rintro e w2 ⟨rfl, hB2⟩
      have HB3 : Hid (Below w.heap.size w w2) := HB.out.trans (hB2.mono (by have := HB.out.size; first | exact this | (simp; omega)))
      clear hB2 hV x0 x1 x2 HB
      cases o with
      | true =>
        have HR : Hid ((0 : Int) ≤ (k : Int) ↔ ∃ i, i < n ∧ ((f i).type < 1 ∨ 4 < (f i).type)) := ⟨fun _ => ⟨k, hlt, HO.out.1 rfl⟩, fun _ => by omega⟩
        clear HO HA
        go_wp2
        go_ret
        exact ⟨_, rfl, HR.out, HB3.out⟩
      | false =>
        have HN : Hid (∀ i, i < k + 1 → ¬ (((f i).type < 1 ∨ 4 < (f i).type))) := by
          intro i hi
          by_cases e : i < k
          · exact HA.out i e
          · obtain rfl : i = k := by omega
            intro hb
            have := HO.out.2 hb
            cases this
        clear HO HA
        go_wp2
        go_roundg (n - (k + 1))
        case measure => omega
        case rel => exact ⟨k + 1, by omega, rfl, by go_num, HB3.out, HN⟩
    · have hkz : ¬ (k : Int) < (n : Int) := by omega
      obtain rfl : k = n := by omega
      have HR : Hid ((0 : Int) ≤ -1 ↔ ∃ i, i < k ∧ ((f i).type < 1 ∨ 4 < (f i).type)) := ⟨fun h => absurd h (by decide), fun ⟨i, hi, hb⟩ => absurd hb (HA.out i hi)⟩
      clear h HA
      go_wp2
      go_ret
      exact ⟨_, rfl, HR.out, hB⟩

set_option maxHeartbeats 1000000 in
theorem containsCol_any (a : Option Addr) (n cap : Nat) (f : Nat → PCol) (w : World) (h : CView w a n cap f) (hn : n ≤ 4194304) :
    Calls Tryz.prog 98 #[.slice a n cap, .func (.func 99) #[] #[]] w fun e w' => e = .returned (.bool (decide (∃ i, i < n ∧ ((f i).type < 1 ∨ 4 < (f i).type)))) ∧ Below w.heap.size w w' := by
  have hI := indexCol_any a n cap f w h hn
  clear h
  obtain ⟨z, hd⟩ : ∃ z, Hid (decide (∃ i, i < n ∧ ((f i).type < 1 ∨ 4 < (f i).type)) = z) := ⟨_, rfl⟩
  rw [hd.out]
  go_enter Tryz.func98, Tryz.ntmps98
  go_wp2_with fail
  refine hI.mono ?_
  rintro e w1 ⟨r, rfl, hr, hb⟩
  have HD : Hid (z = decide (0 ≤ r)) := by
    show _ = _
    rw [← hd.out]
    exact decide_eq_decide.2 hr.symm
  clear hI hr hd
  go_wp2
  go_ret
  exact ⟨by rw [HD.out]; rfl, hb⟩
end Go.Proofs.YtkakkjnbhklfpaaGreatDoor

/-
  slices.Values of a row of texts, and what slices.AppendSeq makes of it.
-/
namespace Go.Proofs.YtkakkjnbhklfpaaGreatDoor
open Go.RowKit
set_option maxRecDepth 4000

attribute [local go_sem] Oper.semAt_some

/-- A text, as it is yielded. -/
abbrev encY (x : ByteArray) : Array Value := #[.string x]
/-- The first j texts. -/
def strU (f : Nat → ByteArray) (j : Nat) : List ByteArray := (List.range j).map f
theorem strU_succ (f : Nat → ByteArray) (j : Nat) : strU f (j + 1) = strU f j ++ [f j] := by simp [strU, List.range_succ]
theorem strU_len (f : Nat → ByteArray) (j : Nat) : (strU f j).length = j := by simp [strU]
theorem rowG_strU (f : Nat → ByteArray) : ∀ n, rowG (encS f) n = (strU f n).map Value.string
  | 0 => rfl
  | n + 1 => by rw [rowG, rowG_strU f n, strU_succ, List.map_append]; rfl

set_option linter.unusedSimpArgs false in
set_option maxRecDepth 100000 in
set_option maxHeartbeats 4000000 in
theorem values1_in (NN : Nat) (hNN : 1 ≤ NN) (l B : Nat) (a : Option Addr) (n cap : Nat) (f : Nat → ByteArray) (w : World) (hp : SView w a n cap f) (hn : n ≤ 281474976710656)
    (J Jx : List ByteArray → World → Prop) (W : World)
    (hY : ∀ pre x W1, J pre W1 → pre.length < n → YieldAt Fence.wide (NN - 1) Tryz.prog l (encY x) W1 fun e W' =>
      (e = .returned (.bool true) ∧ J (pre ++ [x]) W' ∧ KpB w.heap.size B B W1 W') ∨ (e = .returned (.bool false) ∧ Jx (pre ++ [x]) W'))
    (hb : Below w.heap.size w W) (hl : Boxed W B 116 (.slice a n cap)) (h0 : J [] W) :
    CallsIn Fence.wide NN Tryz.prog 156 #[.func (.yield l) #[] #[], .pointer (some ⟨B, 0, none⟩)] W fun e W' => (∃ v, e = .returned v) ∧
      ((∃ xs, xs = strU f n ∧ J xs W') ∨ (∃ pre, True ∧ Jx pre W')) := by
  refine callsIn_of_wp Tryz.func156 rfl trivial ?_ rfl
  simp only [Tryz.ntmps156, List.size_toArray, List.length_cons, List.length_nil, Nat.reduceAdd, Nat.reduceSub, Array.replicate_succ, Array.replicate_zero, List.push_toArray, List.append_toArray, List.nil_append, List.cons_append]
  have cl := hl.cell
  gi_wp2
  gi_loopw [7] (fun i wr => ∃ (j : Nat), j ≤ n ∧ i = .int .i64 j ∧ J (strU f j) wr ∧ KpB w.heap.size B B W wr) (fun i _ => n - (intOf i).toNat)
  case atStart => exact ⟨0, Nat.zero_le _, rfl, h0, KpB.refl _ _ _ _⟩
  case round =>
    obtain ⟨j, hj, rfl, hJs, hk⟩ := hrel
    by_cases hlt : j < n
    · have hbw : Below w.heap.size w wr := hb.trans hk.below
      obtain ⟨b1, o1, rfl, hb1, hd1⟩ := (hp.below hbw).cells (by omega)
      have x0 := hd1 j hlt
      have hjz : (j : Int) < (n : Int) := by omega
      have hUl := strU_len f j
      obtain ⟨fn', tmps, assign, body, hy, hR⟩ := hY (strU f j) (f j) wr hJs (by omega)
      dsimp only [encY] at hy
      have HU : Hid (strU f (j + 1) = strU f j ++ [f j]) := strU_succ f j
      obtain ⟨s0, hs0⟩ : ∃ s, f j = s := ⟨_, rfl⟩
      rw [hs0] at x0 hy hR HU
      clear hd1 cl hs0 hJs
      gi_wp2
      refine hR.mono ?_
      rintro e W3 (⟨rfl, hJ3, hk3⟩ | ⟨rfl, hJx3⟩)
      · clear hy hR x0
        gi_wp2
        go_roundw
        case rel => exact ⟨j + 1, by omega, by go_num, by rw [HU.out]; exact hJ3, hk.trans hk3⟩
        case measure => simp [intOf]; omega
      · clear hy hR x0
        gi_wp2
        refine bodyPost_ret (results_none rfl _ _ _) rfl ?_
        exact ⟨⟨_, rfl⟩, .inr ⟨_, trivial, hJx3⟩⟩
    · have hjz : ¬ (j : Int) < (n : Int) := by omega
      obtain rfl : j = n := by omega
      gi_wp2
      go_end0
      first
        | exact ⟨⟨_, rfl⟩, .inl hJs⟩
        | exact ⟨⟨_, rfl⟩, .inl ⟨_, rfl, hJs⟩⟩

theorem values_stops (NN : Nat) (hNN : 1 ≤ NN) (B : Nat) (a : Option Addr) (n cap : Nat) (f : Nat → ByteArray) (w : World) (hp : SView w a n cap f) (hn : n ≤ 281474976710656)
    (W0 : World) (hb : Below w.heap.size w W0) (hl : Boxed W0 B 116 (.slice a n cap)) :
    SeqStopsK Fence.wide NN Tryz.prog 156 #[.pointer (some ⟨B, 0, none⟩)] encY (KpB w.heap.size B B) (fun xs => xs = strU f n) (fun _ => True) n W0 :=
  fun l J Jx W hW _ _ hY h0 => values1_in NN hNN l B a n cap f w hp hn J Jx W hY (hb.trans (hW.mono hb.size)) (Boxed.below' hl hW) h0

set_option maxHeartbeats 1000000 in
/-- slices.Values boxes its argument. -/
theorem values_in (NN : Nat) (a : Option Addr) (n cap : Nat) (w : World) :
    CallsIn Fence.wide NN Tryz.prog 133 #[.slice a n cap] w fun e w' => e = .returned (.func (.func 156) #[] #[.pointer (some ⟨w.heap.size, 0, none⟩)]) ∧ w' = w.alloc (.cells #[.slice a n cap] 116) := by
  refine callsIn_of_wp Tryz.func133 rfl trivial ?_ rfl
  simp only [Tryz.ntmps133, List.size_toArray, List.length_cons, List.length_nil, Nat.reduceAdd, Nat.reduceSub, Array.replicate_succ, Array.replicate_zero, List.push_toArray, List.append_toArray, List.nil_append, List.cons_append]
  gi_wp2
  go_ret
  exact ⟨rfl, rfl⟩

theorem cells_oneS (W : World) (s : ByteArray) : ∀ j u, [Value.string s][j]? = some u → (W.alloc (.cells #[.string s] 9)).cell? ((⟨W.heap.size, 0, none⟩ : Addr).add j) = some u := by
  intro j u hj
  match j, hj with
  | 0, hj => simp at hj; subst hj; simp [Addr.add]

set_option linter.unusedSimpArgs false in
set_option maxRecDepth 100000 in
set_option maxHeartbeats 4000000 in
/-- What is yielded is put behind a row of the call's own. -/
theorem appendStr_in (a : Option Addr) (n cap : Nat) (f : Nat → ByteArray) (w : World) (hp : SView w a n cap f) (hn : n ≤ 4194304)
    (w2 : World) (B : Nat) (hb : Below w.heap.size w w2) (bL : Boxed w2 B 116 (.slice a n cap)) :
    CallsIn Fence.wide 7 Tryz.prog 176 #[.slice none 0 0, .func (.func 156) #[] #[.pointer (some ⟨B, 0, none⟩)]] w2 fun e w' => ∃ v, e = .returned v ∧ w'.ownsRow w.heap.size 9 1 v n (rowG (encS f) n) ∧ Below w.heap.size w w' := by
  obtain ⟨i0, hi, hz0, hz1, hz2⟩ := infoStr
  refine callsIn_of_wp_marks Tryz.func176 rfl trivial ?_ rfl
  simp only [Tryz.ntmps176, List.size_toArray, List.length_cons, List.length_nil, Nat.reduceAdd, Nat.reduceSub, Array.replicate_succ, Array.replicate_zero, List.push_toArray, List.append_toArray, List.nil_append, List.cons_append]
  gi_wp2
  have hb5 : Below w2.heap.size w2 (w2.alloc (.cells #[.slice none 0 0] 116)) := (Below.refl _ _).alloc (Nat.le_refl _) _
  have hB0 := hb.trans (hb5.mono hb.size)
  have bS := Boxed.new w2 116 (.slice none 0 0)
  have bL0 := Boxed.below' bL hb5
  have hbl := bL.lt
  have hsz : (w2.alloc (.cells #[.slice none 0 0] 116)).heap.size = w2.heap.size + 1 := by simp
  obtain ⟨W0, hW0⟩ : ∃ W0, w2.alloc (.cells #[.slice none 0 0] 116) = W0 := ⟨_, rfl⟩
  rw [hW0] at hB0 bS bL0 hsz ⊢
  have hwA := hb.size
  have hO3 : W0.ownsRow w.heap.size 9 1 (.slice none 0 0) 0 [] := ⟨rfl, .inl ⟨rfl, rfl⟩⟩
  clear hW0 hb5 hb bL
  obtain ⟨A, hA⟩ : ∃ A, w2.heap.size = A := ⟨_, rfl⟩
  rw [hA] at bS hsz hwA hbl ⊢
  clear hA
  refine wpIn_rangeFunc_ownH rfl (by decide) (gf := 156) (lb := #[.pointer (some ⟨B, 0, none⟩)]) rfl trivial (enters_of Tryz.func156 (by kernel_rfl) rfl)
    (values_stops (7 - 1) (by decide) B a n cap f w hp (by omega) W0 hB0 bL0) (fun h k => KpB.trans h k) (KpB.put (by omega) (by omega) (by omega)) (Below.refl _ _) (fun _ => rfl)
    (fun pre W => (∃ v, Boxed W A 116 v ∧ W.ownsRow w.heap.size 9 1 v pre.length (pre.map Value.string)) ∧ KpB w.heap.size B B W0 W)
    (fun c pre W => False)
    (OwnFrom.and (fun s X Y row hs hg hr => by obtain ⟨v, h1, h3⟩ := hs; exact ⟨v, Boxed.ownK h1 hg (fun r e => (hr r e).2), own_ownK h3 hg (fun r e => (hr r e).2)⟩) (ownFrom_kpB (by omega) (by omega) (by omega) (Nat.le_refl _)))
    (fun c s X Y row hs hg hr => hs)
    ⟨⟨_, bS, hO3⟩, KpB.refl _ _ _ _⟩
    (fun x a' W => a' = { tmps := #[.slice none 0 0, .func (.func 156) #[] #[.pointer (some ⟨B, 0, none⟩)], .pointer (some ⟨A, 0, none⟩), undef, .slice none 0 0, .string x, .func (.func 156) #[] #[.pointer (some ⟨B, 0, none⟩)], .string x, undef, undef, undef, undef, undef], defers := [] })
    (fun x a' _ X Y row hs hg hr => hs)
    ?assign ?body ?done ?stop
  case assign =>
    rintro l pre x W K ⟨⟨v, bV1, hO⟩, hk⟩ hK
    gi_wp2
    exact hK _ _ (KeepsFrom.ofBelow (Below.refl _ _)) (KpB.refl _ _ _ _) ⟨⟨v, bV1, hO⟩, hk⟩ rfl
  case body =>
    rintro l pre x a' W hl ⟨r, hr⟩ ⟨⟨v, bV1, hO⟩, hk⟩ rfl hlt
    have hs1 := hk.below.size
    have cV := bV1.cell
    clear hr
    gi_wp2_with (gi_at_builtin; refine wpListIn_append_own _ rfl _ _ 116 rfl w.heap.size 9 i0 (.string ⟨#[]⟩) 1 16 Tryz.underlying116 hi hz0 hz1 hz2 rfl (by decide) v _ _ rfl (own_belowG hO ((Below.refl _ _).alloc (Nat.le_refl _) _)) ⟨W.heap.size, 0, none⟩ 1 1 [.string x] rfl rfl (cells_oneS W x) (by intro u hu; simp at hu; subst hu; rfl) (by unfold maxLen; omega) (by omega) (by simp; omega) ?_; intro v' w1 hown' hgrow hnil; obtain ⟨g', cap', rfl⟩ := ownsRow_succ hown'; obtain ⟨hv1, hv2, hr2, hk2, hb2⟩ := Boxed.appended bV1 (by decide) hO (by omega) (by omega) hown' hgrow; have hc1 := hv1.cell; have hf1 := hv1.frozen)
    have bL1 := Boxed.kpl bL0 hk
    have hsg := hgrow.size
    rw [World.size_alloc] at hsg
    have hkk : KpB w.heap.size B B W (w1.setCell ⟨A, 0, none⟩ (.slice (some ⟨g', 0, none⟩) (pre.length + 1) cap')) := by
      refine ((KpB.ofBelow ((Below.refl _ _).alloc (Nat.le_refl _) _) (by omega) (by omega) (by omega)).trans (KpB.ofGrown hgrow (by rw [World.size_alloc]; omega) (by rw [World.size_alloc]; omega) (by rw [World.size_alloc]; omega) (fun k e => ⟨own_ge hO k e, fun h => ?_, fun h => ?_⟩))).trans (KpB.ofGrown (grownBy_setCell' w1 A _) (by omega) (by omega) (by omega) (fun k e => by cases e; omega))
      · subst h; exact bL1.not_row (by decide) hO e.symm
      · subst h; exact bL1.not_row (by decide) hO e.symm
    refine ⟨hk2.from _, hkk, ⟨_, hv2, ?_⟩, hk.trans hkk⟩
    rw [List.map_append, List.length_append]
    exact hr2
  case done =>
    rintro D ys W hD rfl ⟨⟨v, bV1, hO⟩, hk⟩ hK
    have hk0 := hB0.trans hk.below
    rw [← rowG_strU, strU_len] at hO
    have cV := bV1.cell
    obtain ⟨ga, cg, rfl⟩ : ∃ ga cg, v = .slice ga n cg := by
      rcases hO.2 with ⟨e, h0⟩ | ⟨g, cg, _, e, _⟩
      · subst h0; exact ⟨_, _, e⟩
      · exact ⟨_, _, e⟩
    gi_wp2
    refine ⟨by simp, .inl ⟨_, _, rfl, run_takeDeferred hK, ?_⟩⟩
    exact ⟨_, results_tmp rfl _ _ _, _, rfl, own_ownK hO (grownBy_putObj' _ D _) (fun r e => by cases e; exact ⟨_, hK, rfl⟩), Below.put' hk0 (by omega) hK⟩
  case stop =>
    rintro D c pre W hD hpre h hK
    exact h.elim
end Go.Proofs.YtkakkjnbhklfpaaGreatDoor

/-
  Names that are sorted and compacted are fewer just if one stands twice.
-/
namespace Go.Proofs.YtkakkjnbhklfpaaGreatDoor
open Go.RowKit
set_option maxRecDepth 4000

theorem le_sorted (zs : List (List UInt8)) : (zs.mergeSort fun x y => decide (x ≤ y)).Pairwise (fun a b => a ≤ b) := by
  have h := List.pairwise_mergeSort (le := fun x y : List UInt8 => decide (x ≤ y))
    (fun a b c h k => decide_eq_true (List.le_trans (of_decide_eq_true h) (of_decide_eq_true k)))
    (fun a b => by rcases List.le_total a b with h | h <;> simp [h]) zs
  exact h.imp (fun h => of_decide_eq_true h)

/-- Of a sorted list one is dropped just if one stands twice. -/
theorem compact_short (ss : List (List UInt8)) (hs : ss.Pairwise (fun a b => a ≤ b)) : (Lib.compact ss).length < ss.length ↔ ¬ ss.Nodup := by
  have hl : (Lib.compact ss).length < ss.length ↔ ∃ j, j < ss.length ∧ Lib.keeps ss.toArray j = false := by
    unfold Lib.compact Lib.compactUpTo
    rw [List.length_map]
    have h := List.length_filter_lt_length_iff_exists (p := Lib.keeps ss.toArray) (l := List.range ss.length)
    rw [List.length_range] at h
    rw [h]
    simp
  rw [hl]
  have hp := List.pairwise_iff_getElem.1 hs
  constructor
  · rintro ⟨j, hj, hk⟩ hn
    have h0 : ¬ (j = 0 ∨ ss.toArray[j]! ≠ ss.toArray[j - 1]!) := by simpa [Lib.keeps] using hk
    have hj0 : 0 < j := by omega
    have he : ss.toArray[j]! = ss.toArray[j - 1]! := Classical.byContradiction fun h => h0 (.inr h)
    have e1 : ss.toArray[j]! = ss[j] := by simp [hj]
    have e2 : ss.toArray[j - 1]! = ss[j - 1] := by simp [show j - 1 < ss.length by omega]
    rw [e1, e2] at he
    have := (List.pairwise_iff_getElem.1 hn) (j - 1) j (by omega) hj (by omega)
    exact this he.symm
  · intro hn
    apply Classical.byContradiction
    intro hno
    apply hn
    have hadj : ∀ j (h1 : j < ss.length) (h0 : 0 < j), ss[j]'h1 ≠ ss[j - 1]'(by omega) := by
      intro j h1 h0 he
      refine hno ⟨j, h1, ?_⟩
      have e1 : ss.toArray[j]! = ss[j] := by simp [h1]
      have e2 : ss.toArray[j - 1]! = ss[j - 1] := by simp [show j - 1 < ss.length by omega]
      exact Lib.keeps_neg h0 (by rw [e1, e2, he])
    refine List.pairwise_iff_getElem.2 fun i j hi hj hij he => ?_
    have h1 : ss[i] ≤ ss[j - 1] := by
      by_cases e : i = j - 1
      · subst e; exact List.le_refl _
      · exact hp i (j - 1) hi (by omega) (by omega)
    have h2 : ss[j - 1] ≤ ss[j] := hp (j - 1) j (by omega) hj (by omega)
    rw [← he] at h2
    have h3 := List.le_antisymm h2 h1
    refine hadj j hj (by omega) ?_
    rw [← he, h3]

theorem twice_short (zs : List (List UInt8)) : (Lib.compact (zs.mergeSort fun x y => decide (x ≤ y))).length < zs.length ↔ ¬ zs.Nodup := by
  have h := compact_short _ (le_sorted zs)
  have hp := List.mergeSort_perm zs (fun x y => decide (x ≤ y))
  rw [hp.length_eq] at h
  rw [h, hp.nodup_iff]
end Go.Proofs.YtkakkjnbhklfpaaGreatDoor

/-
  The program's hasTwice: whether a text stands twice in a row.
-/
namespace Go.Proofs.YtkakkjnbhklfpaaGreatDoor
open Go.RowKit Go.Sort

/-- The texts as lists of bytes. -/
def ssOf (f : Nat → ByteArray) (n : Nat) : List (List UInt8) := (strU f n).map (fun s => s.data.toList)
theorem ssOf_len (f : Nat → ByteArray) (n : Nat) : (ssOf f n).length = n := by simp [ssOf, strU_len]
theorem ssOf_get (f : Nat → ByteArray) (n j : Nat) (h : j < n) : (ssOf f n).toArray[j]! = (f j).data.toList := by
  have : (ssOf f n)[j]? = some (f j).data.toList := by simp [ssOf, strU, h]
  simp [this]
theorem str_of (s : ByteArray) : Value.string ⟨s.data.toList.toArray⟩ = .string s := by simp
/-- A row of the call's own holds its texts. -/
theorem holds_own {W : World} {base g n c : Nat} {f : Nat → ByteArray} (h : W.ownsRow base 9 1 (.slice (some ⟨g, 0, none⟩) n c) n (rowG (encS f) n)) : Holds encStr W g 0 (ssOf f n).toArray ∧ g < W.heap.size ∧ base ≤ g ∧ n ≤ c := by
  rcases h.2 with ⟨e, _⟩ | ⟨g', c', cur, e, hb, hg, hn, hm, hs, ht⟩
  · cases e
  cases e
  refine ⟨fun j hj => ?_, (Array.getElem?_eq_some_iff.1 hg).1, hb, hn⟩
  have hj' : j < n := by simpa [ssOf_len] using hj
  rw [ssOf_get f n j hj', Nat.zero_add]
  refine ⟨?_, by simp [World.frozen?, hg]⟩
  have h1 := rowG_get (enc := encS f) (c := 1) (fun _ => rfl) n j 0 hj' (by decide)
  rw [Nat.mul_one, Nat.add_zero, ← ht, List.getElem?_take, if_pos (by omega)] at h1
  simp only [World.cell?, hg]
  show cur[j]? = some (encStr (f j).data.toList)
  rw [show encStr (f j).data.toList = .string (f j) from str_of _]
  simpa [encS] using h1
theorem below_put {α : Type} [Inhabited α] {enc : α → Value} {w : World} {blk off n B : Nat} {d : Array α} {os : Array Obj} (h1 : B ≤ blk) (h2 : B ≤ w.heap.size) : Below B w (grow (putRow enc (Sort.ahead w n) blk off d) os) := by
  refine ⟨rfl, rfl, rfl, by simp, fun k hk => ?_⟩
  rw [heap_grow_old _ _ (by simp; omega)]
  simp only [putRow, mapBlock, Sort.ahead]
  rw [Array.getElem?_modify, if_neg (by omega)]

set_option maxHeartbeats 1000000 in
/-- slices.Sorted of the values of a row of texts: a row of the call's own, in order. -/
theorem sortedStr_any (a : Option Addr) (n cap : Nat) (f : Nat → ByteArray) (w : World) (hp : SView w a n cap f) (hn : n ≤ 4194304) (h0 : 0 < n)
    (w2 : World) (B : Nat) (hb : Below w.heap.size w w2) (bL : Boxed w2 B 116 (.slice a n cap)) :
    Calls Tryz.prog 132 #[.func (.func 156) #[] #[.pointer (some ⟨B, 0, none⟩)]] w2 fun e w' => ∃ g c, e = .returned (.slice (some ⟨g, 0, none⟩) n c) ∧ Holds encStr w' g 0 ((ssOf f n).mergeSort fun x y => decide (x ≤ y)).toArray ∧ w.heap.size ≤ g ∧ g < w'.heap.size ∧ n ≤ c ∧ Below w.heap.size w w' := by
  have hC := callsIn_wide.1 (appendStr_in a n cap f w hp hn w2 B hb bL)
  clear bL hp
  obtain ⟨k, rfl⟩ : ∃ k, n = k + 1 := ⟨n - 1, by omega⟩
  obtain ⟨M, hM⟩ : ∃ M, Hid (((ssOf f (k + 1)).mergeSort fun x y => decide (x ≤ y)).toArray = M) := ⟨_, rfl⟩
  rw [hM.out]
  go_enter Tryz.func132, Tryz.ntmps132
  go_wp2_with (first | (go_at_call 176; refine hC.mono ?_; rintro e w3 ⟨v, rfl, hO, hB⟩) | (go_at_call 154; go_in))
  obtain ⟨g, c, rfl⟩ := ownsRow_succ hO
  obtain ⟨hH, hg, hbg, hkc⟩ := holds_own hO
  have hS := Tryz.slices_Sort_string g 0 c (ssOf f (k + 1)) w3 hH hg (by rw [ssOf_len]; omega)
  rw [ssOf_len] at hS
  have hml : ((ssOf f (k + 1)).mergeSort fun x y => decide (x ≤ y)).length = k + 1 := by rw [(List.mergeSort_perm _ _).length_eq, ssOf_len]
  have HP : Hid (∀ m os, Holds encStr (grow (putRow encStr (Sort.ahead w3 m) g 0 ((ssOf f (k + 1)).mergeSort fun x y => decide (x ≤ y)).toArray) os) g 0 ((ssOf f (k + 1)).mergeSort fun x y => decide (x ≤ y)).toArray ∧ g < (grow (putRow encStr (Sort.ahead w3 m) g 0 ((ssOf f (k + 1)).mergeSort fun x y => decide (x ≤ y)).toArray) os).heap.size ∧ RowKit.Below w.heap.size w (grow (putRow encStr (Sort.ahead w3 m) g 0 ((ssOf f (k + 1)).mergeSort fun x y => decide (x ≤ y)).toArray) os)) := by
    intro m os
    refine ⟨holds_grow _ _ _ _ _ _ (by simpa using hg) (holds_putRow encStr (Sort.ahead w3 m) g 0 (ssOf f (k + 1)).toArray _ hH (by simp [hml, ssOf_len])), by simp; omega, hB.trans (below_put hbg hB.size)⟩
  have HX : Hid (w.heap.size ≤ g ∧ k + 1 ≤ c) := ⟨hbg, hkc⟩
  rw [hM.out] at HP hS
  clear hC hO hH hg hbg hkc hB hb hml
  refine hS.mono ?_
  rintro e w4 ⟨rfl, m, os, rfl⟩
  have HR := HP.out m os
  obtain ⟨W4, hW4⟩ : ∃ W4, Hid (grow (putRow encStr (Sort.ahead w3 m) g 0 M) os = W4) := ⟨_, rfl⟩
  rw [hW4.out] at HR ⊢
  have HR' : Hid (Holds encStr W4 g 0 M ∧ g < W4.heap.size ∧ RowKit.Below w.heap.size w W4) := HR
  clear HR HP hS
  go_wp2
  go_ret
  exact ⟨_, _, rfl, HR'.out.1, HX.out.1, HR'.out.2.1, HX.out.2, HR'.out.2.2⟩

set_option maxHeartbeats 1000000 in
theorem hasTwice_any (a : Option Addr) (n cap : Nat) (f : Nat → ByteArray) (w : World) (hp : SView w a n cap f) (hn : n ≤ 4194304) :
    Calls Tryz.prog 100 #[.slice a n cap] w fun e w' => e = .returned (.bool (decide (¬ (ssOf f n).Nodup))) ∧ RowKit.Below w.heap.size w w' := by
  have hV := callsIn_wide.1 (values_in 7 a n cap w)
  have hb1 : RowKit.Below w.heap.size w (w.alloc (.cells #[.slice a n cap] 116)) := (RowKit.Below.refl _ _).alloc (Nat.le_refl _) _
  have bL := Boxed.new w 116 (.slice a n cap)
  have HT := twice_short (ssOf f n)
  obtain ⟨z, hz⟩ : ∃ z, Hid (decide (¬ (ssOf f n).Nodup) = z) := ⟨_, rfl⟩
  rw [hz.out]
  by_cases h0 : 0 < n
  · have hS := sortedStr_any a n cap f w hp hn h0 _ w.heap.size hb1 bL
    have hml : ((ssOf f n).mergeSort fun x y => decide (x ≤ y)).length = n := by rw [(List.mergeSort_perm _ _).length_eq, ssOf_len]
    rw [ssOf_len] at HT
    obtain ⟨M, hM⟩ : ∃ M, Hid (((ssOf f n).mergeSort fun x y => decide (x ≤ y)) = M) := ⟨_, rfl⟩
    rw [hM.out] at hS HT hml
    have HZ : Hid (z = decide ((Lib.compact M).length < n)) := by
      show _ = _
      rw [← hz.out]
      exact decide_eq_decide.2 HT.symm
    have hcl : (Lib.compact M).length ≤ n := by
      have := List.length_filter_le (Lib.keeps M.toArray) (List.range M.length)
      rw [List.length_range] at this
      unfold Lib.compact Lib.compactUpTo
      rw [List.length_map]; omega
    clear hz hM HT bL hb1
    go_enter Tryz.func100, Tryz.ntmps100
    go_wp2_with (first | (go_at_call 133; refine hV.mono ?_; rintro e w2 ⟨rfl, rfl⟩) | (go_at_call 132; refine hS.mono ?_; rintro e w3 ⟨g, c, rfl, hH, hbg, hg, hkc, hB⟩))
    have hC := Tryz.slices_Compact_string g 0 c M w3 hH (by omega) (by omega)
    rw [hml] at hC
    have HB : Hid (∀ q d, RowKit.Below w.heap.size w (putRow encStr (Sort.ahead w3 q) g 0 d)) := fun q d => by
      have := below_put (enc := encStr) (w := w3) (blk := g) (off := 0) (n := q) (d := d) (os := #[]) hbg hB.size
      rw [grow_empty] at this
      exact hB.trans this
    generalize (Lib.compact M).length = L at *
    clear hS hV hH hbg hg hkc hB hml
    refine hC.mono ?_
    rintro e w4 ⟨rfl, q, rfl⟩
    have HB' : Hid (RowKit.Below w.heap.size w (putRow encStr (Sort.ahead w3 q) g 0 (Lib.compact M ++ List.replicate (n - L) ([] : List UInt8)).toArray)) := HB.out _ _
    obtain ⟨W4, hW4⟩ : ∃ W4, Hid (putRow encStr (Sort.ahead w3 q) g 0 (Lib.compact M ++ List.replicate (n - L) ([] : List UInt8)).toArray = W4) := ⟨_, rfl⟩
    rw [hW4.out] at HB' ⊢
    clear hC HB
    go_wp2
    go_ret
    exact ⟨by rw [HZ.out]; rfl, HB'.out⟩
  · obtain rfl : n = 0 := by omega
    have hC := callsIn_wide.1 (appendStr_in a 0 cap f w hp (by omega) _ w.heap.size hb1 bL)
    have HZ : Hid (z = false) := by
      show _ = _
      rw [← hz.out]
      exact decide_eq_false (by simp [ssOf, strU])
    have hN := fun p c W => Tryz.slices_Sort_string_none p c W
    have hE := fun p c W => Tryz.slices_Compact_string_empty p c W
    clear HT hz bL hb1 hp
    go_enter Tryz.func100, Tryz.ntmps100
    go_wp2_with (first | (go_at_call 133; refine hV.mono ?_; rintro e w2 ⟨rfl, rfl⟩) | (go_at_call 132; go_in) | (go_at_call 176; refine hC.mono ?_; rintro e w3 ⟨v, rfl, hO, hB⟩; obtain ⟨va, vc, rfl, -, -⟩ := sview_of_own hO) | (go_at_call 154; go_in) | (go_at_call 155; refine (hN _ _ _).mono ?_; rintro e w4 ⟨rfl, rfl⟩) | (go_at_call 134; refine (hE _ _ _).mono ?_; rintro e w5 ⟨rfl, rfl⟩))
    go_ret
    exact ⟨by rw [HZ.out]; rfl, hB⟩
end Go.Proofs.YtkakkjnbhklfpaaGreatDoor

