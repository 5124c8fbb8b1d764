/-
  Together: WordImpl, IterKit, IterOwn, OwnK
-/
import Derived.Test.YtjoimkfpenbkmaaGreatDoorPackP13
import Derived.Test.YtjoimkfpenbkmaaGreatDoorPackP1
import Derived.RangeFuncNested
import Derived.RangeFuncBound
import Derived.RangeFuncCalls
import Derived.RangeFuncLeaves
import Derived.OwnWalkIn
import Derived.TacticsInMore
import Derived.LoopNIn
import Derived.LoopIn
import Derived.Shelf.RegionOpen
/-
  The program's isWord, isNoName, isOfNoType, and whether one of a row is so.
-/
namespace Go.Proofs.YtjoimkfpenbkmaaGreatDoor
open Go.RowKit
set_option maxRecDepth 4000

theorem isKw_split (s : ByteArray) : isKw s = ((s.toList == [116, 97, 98, 108, 101]) || ((s.toList == [112, 114, 105, 109, 97, 114, 121]) || ((s.toList == [117, 110, 105, 113, 117, 101]) || ((s.toList == [105, 110, 100, 101, 120]) || ((s.toList == [110, 117, 108, 108]) || ((s.toList == [100, 101, 115, 99]) || ((s.toList == [105, 110, 116]) || ((s.toList == [110, 117, 109]) || ((s.toList == [116, 101, 120, 116]) || ((s.toList == [98, 111, 111, 108]) || (false))))))))))) := by
  unfold isKw kwords
  simp only [List.contains_cons, List.contains_nil]
theorem beq_flip (a b : List UInt8) : (a == b) = (b == a) := by
  cases h : a == b with
  | true => rw [eq_of_beq h]; exact (beq_self_eq_true _).symm
  | false => cases h2 : b == a with
    | false => rfl
    | true => rw [eq_of_beq h2, beq_self_eq_true] at h; cases h

set_option maxHeartbeats 2000000 in
theorem isWord_any (s : ByteArray) (w : World) :
    Calls Tryz.prog 173 #[.string s] w fun e w' => e = .returned (.bool (isKw s)) ∧ w = w' := by
  have HK := isKw_split s
  obtain ⟨z, hz⟩ : ∃ z, Hid (isKw s = z) := ⟨_, rfl⟩
  rw [hz.out] at HK ⊢
  clear hz
  cases m0 : (s.toList == [116, 97, 98, 108, 101]) with
  | true =>
    have HZ : Hid (z = true) := by show _ = _; rw [HK]; simp [m0]
    clear HK
    go_enter Tryz.func173, Tryz.ntmps173
    go_wp2
    go_ret
    exact ⟨by rw [HZ.out]; rfl, rfl⟩
  | false =>
    cases m1 : (s.toList == [112, 114, 105, 109, 97, 114, 121]) with
    | true =>
      have HZ : Hid (z = true) := by show _ = _; rw [HK]; simp [m0, m1]
      clear HK
      go_enter Tryz.func173, Tryz.ntmps173
      go_wp2
      go_ret
      exact ⟨by rw [HZ.out]; rfl, rfl⟩
    | false =>
      cases m2 : (s.toList == [117, 110, 105, 113, 117, 101]) with
      | true =>
        have HZ : Hid (z = true) := by show _ = _; rw [HK]; simp [m0, m1, m2]
        clear HK
        go_enter Tryz.func173, Tryz.ntmps173
        go_wp2
        go_ret
        exact ⟨by rw [HZ.out]; rfl, rfl⟩
      | false =>
        cases m3 : (s.toList == [105, 110, 100, 101, 120]) with
        | true =>
          have HZ : Hid (z = true) := by show _ = _; rw [HK]; simp [m0, m1, m2, m3]
          clear HK
          go_enter Tryz.func173, Tryz.ntmps173
          go_wp2
          go_ret
          exact ⟨by rw [HZ.out]; rfl, rfl⟩
        | false =>
          cases m4 : (s.toList == [110, 117, 108, 108]) with
          | true =>
            have HZ : Hid (z = true) := by show _ = _; rw [HK]; simp [m0, m1, m2, m3, m4]
            clear HK
            go_enter Tryz.func173, Tryz.ntmps173
            go_wp2
            go_ret
            exact ⟨by rw [HZ.out]; rfl, rfl⟩
          | false =>
            cases m5 : (s.toList == [100, 101, 115, 99]) with
            | true =>
              have HZ : Hid (z = true) := by show _ = _; rw [HK]; simp [m0, m1, m2, m3, m4, m5]
              clear HK
              go_enter Tryz.func173, Tryz.ntmps173
              go_wp2
              go_ret
              exact ⟨by rw [HZ.out]; rfl, rfl⟩
            | false =>
              cases m6 : (s.toList == [105, 110, 116]) with
              | true =>
                have HZ : Hid (z = true) := by show _ = _; rw [HK]; simp [m0, m1, m2, m3, m4, m5, m6]
                clear HK
                go_enter Tryz.func173, Tryz.ntmps173
                go_wp2
                go_ret
                exact ⟨by rw [HZ.out]; rfl, rfl⟩
              | false =>
                cases m7 : (s.toList == [110, 117, 109]) with
                | true =>
                  have HZ : Hid (z = true) := by show _ = _; rw [HK]; simp [m0, m1, m2, m3, m4, m5, m6, m7]
                  clear HK
                  go_enter Tryz.func173, Tryz.ntmps173
                  go_wp2
                  go_ret
                  exact ⟨by rw [HZ.out]; rfl, rfl⟩
                | false =>
                  cases m8 : (s.toList == [116, 101, 120, 116]) with
                  | true =>
                    have HZ : Hid (z = true) := by show _ = _; rw [HK]; simp [m0, m1, m2, m3, m4, m5, m6, m7, m8]
                    clear HK
                    go_enter Tryz.func173, Tryz.ntmps173
                    go_wp2
                    go_ret
                    exact ⟨by rw [HZ.out]; rfl, rfl⟩
                  | false =>
                    cases m9 : (s.toList == [98, 111, 111, 108]) with
                    | true =>
                      have HZ : Hid (z = true) := by show _ = _; rw [HK]; simp [m0, m1, m2, m3, m4, m5, m6, m7, m8, m9]
                      clear HK
                      go_enter Tryz.func173, Tryz.ntmps173
                      go_wp2
                      go_ret
                      exact ⟨by rw [HZ.out]; rfl, rfl⟩
                    | false =>
                      have HZ : Hid (z = false) := by show _ = _; rw [HK]; simp [m0, m1, m2, m3, m4, m5, m6, m7, m8, m9]
                      clear HK
                      go_enter Tryz.func173, Tryz.ntmps173
                      go_wp2
                      go_ret
                      exact ⟨by rw [HZ.out]; rfl, rfl⟩

set_option maxHeartbeats 1000000 in
theorem isNoName_any (s : ByteArray) (w : World) (hs : s.size ≤ 281474976710656) :
    Calls Tryz.prog 140 #[.string s] w fun e w' => e = .returned (.bool (!wordOk s)) ∧ Below w.heap.size w w' := by
  have hT := implTokenOk_any 1 s w hs
  have HW : Hid (wordOk s = (tokOk 1 s && !isKw s)) := by show _ = _; unfold wordOk tokOk; rw [if_pos rfl]
  have hI := fun W => isWord_any s W
  obtain ⟨z, hz⟩ : ∃ z, Hid (wordOk s = z) := ⟨_, rfl⟩
  rw [hz.out] at HW ⊢
  clear hz
  generalize tokOk 1 s = o at *
  generalize isKw s = k at *
  go_enter Tryz.func140, Tryz.ntmps140
  go_wp2_with fail
  refine hT.mono ?_
  rintro e w1 ⟨rfl, hb1⟩
  have HB : Hid (Below w.heap.size w w1) := hb1
  clear hT hb1
  cases o with
  | false =>
    clear hI
    go_wp2
    go_ret
    exact ⟨by rw [HW.out]; rfl, HB.out⟩
  | true =>
    go_wp2_with fail
    refine (hI _).mono ?_
    rintro e w2 ⟨rfl, rfl⟩
    clear hI
    go_wp2
    go_ret
    exact ⟨by rw [HW.out]; cases k <;> rfl, HB.out⟩

set_option maxHeartbeats 1000000 in
theorem isOfNoType_any (s : ByteArray) (ty : Int) (nul : Bool) (w : World) :
    Calls Tryz.prog 142 #[.agg #[.string s, .int .i64 ty, .bool nul]] w fun e w' => e = .returned (.bool (decide (ty < 1 ∨ 4 < ty))) ∧ Below w.heap.size w w' := by
  have HB : Hid (Below w.heap.size w (w.alloc (.cells #[.string s, .int .i64 ty, .bool nul] 81))) := (Below.refl _ _).alloc (Nat.le_refl _) _
  obtain ⟨z, hz⟩ : ∃ z, Hid (decide (ty < 1 ∨ 4 < ty) = z) := ⟨_, rfl⟩
  rw [hz.out]
  by_cases h1 : ty < 1
  · have HD : Hid (z = true) := hz.out.symm.trans (decide_eq_true (.inl h1))
    go_enter Tryz.func142, Tryz.ntmps142
    go_wp2
    go_ret
    exact ⟨by rw [HD.out]; rfl, HB.out⟩
  · by_cases h2 : 4 < ty
    · have HD : Hid (z = true) := hz.out.symm.trans (decide_eq_true (.inr h2))
      have h3 : ty > 4 := h2
      go_enter Tryz.func142, Tryz.ntmps142
      go_wp2
      go_ret
      exact ⟨by rw [HD.out]; rfl, HB.out⟩
    · have HD : Hid (z = false) := hz.out.symm.trans (decide_eq_false (by omega))
      have h3 : ¬ ty > 4 := by omega
      go_enter Tryz.func142, Tryz.ntmps142
      go_wp2
      go_ret
      exact ⟨by rw [HD.out]; rfl, HB.out⟩

set_option maxHeartbeats 2000000 in
theorem indexStr_any (a : Option Addr) (n cap : Nat) (f : Nat → ByteArray) (w : World) (h : SView w a n cap f) (hn : n ≤ 4194304) (hz : ∀ i, i < n → (f i).size ≤ 281474976710656) :
    Calls Tryz.prog 171 #[.slice a n cap, .func (.func 140) #[] #[]] w fun e w' => ∃ r : Int, e = .returned (.int .i64 r) ∧ (0 ≤ r ↔ ∃ i, i < n ∧ wordOk (f i) = false) ∧ Below w.heap.size w w' := by
  go_enter Tryz.func171, Tryz.ntmps171
  go_wp2
  go_loopg [8] n (fun q i wr => ∃ k : Nat, k ≤ n ∧ q = n - k ∧ i = .int .i64 k ∧ Below w.heap.size w wr ∧ Hid (∀ i, i < k → ¬ (wordOk (f i) = false)))
  case atStart => exact ⟨0, Nat.zero_le _, rfl, rfl, Below.refl _ _, fun j hj => absurd hj (Nat.not_lt_zero _)⟩
  case round =>
    obtain ⟨k, hk, rfl, rfl, hB, HA⟩ := hrel
    by_cases hlt : k < n
    · have hkz : (k : Int) < (n : Int) := by omega
      obtain ⟨b1, o1, rfl, hb1, hcs⟩ := (h.below hB).cells (by omega)
      have x0 := hcs k hlt
      have hV := fun W => isNoName_any (f k) W (hz k hlt)
      have HB : Hid (Below w.heap.size w wr) := hB
      obtain ⟨o, ho⟩ : ∃ o, Hid ((!wordOk (f k)) = o) := ⟨_, rfl⟩
      have HO : Hid (o = true ↔ wordOk (f k) = false) := by show _ ↔ _; rw [← ho.out]; cases wordOk (f k) <;> simp
      simp only [ho.out] at hV
      clear ho
      obtain ⟨s0, hs0⟩ : ∃ s, Hid (f k = s) := ⟨_, rfl⟩
      rw [hs0.out] at x0
      simp only [hs0.out] at hV
      clear hcs h hB hz
      go_wp2_with fail
      refine (hV _).mono ?_
      rintro e w2 ⟨rfl, hB2⟩
      have HB3 : Hid (Below w.heap.size w w2) := HB.out.trans (hB2.mono (by have := HB.out.size; first | exact this | (simp; omega)))
      clear hB2 hV x0 HB
      cases o with
      | true =>
        have HR : Hid ((0 : Int) ≤ (k : Int) ↔ ∃ i, i < n ∧ wordOk (f i) = false) := ⟨fun _ => ⟨k, hlt, HO.out.1 rfl⟩, fun _ => by omega⟩
        clear HO HA
        go_wp2
        go_ret
        exact ⟨_, rfl, HR.out, HB3.out⟩
      | false =>
        have HN : Hid (∀ i, i < k + 1 → ¬ (wordOk (f i) = false)) := by
          intro i hi
          by_cases e : i < k
          · exact HA.out i e
          · obtain rfl : i = k := by omega
            intro hb
            have := HO.out.2 hb
            cases this
        clear HO HA
        go_wp2
        go_roundg (n - (k + 1))
        case measure => omega
        case rel => exact ⟨k + 1, by omega, rfl, by go_num, HB3.out, HN⟩
    · have hkz : ¬ (k : Int) < (n : Int) := by omega
      obtain rfl : k = n := by omega
      have HR : Hid ((0 : Int) ≤ -1 ↔ ∃ i, i < k ∧ wordOk (f i) = false) := ⟨fun h => absurd h (by decide), fun ⟨i, hi, hb⟩ => absurd hb (HA.out i hi)⟩
      clear h HA
      go_wp2
      go_ret
      exact ⟨_, rfl, HR.out, hB⟩

set_option maxHeartbeats 1000000 in
theorem containsStr_any (a : Option Addr) (n cap : Nat) (f : Nat → ByteArray) (w : World) (h : SView w a n cap f) (hn : n ≤ 4194304) (hz : ∀ i, i < n → (f i).size ≤ 281474976710656) :
    Calls Tryz.prog 139 #[.slice a n cap, .func (.func 140) #[] #[]] w fun e w' => e = .returned (.bool (decide (∃ i, i < n ∧ wordOk (f i) = false))) ∧ Below w.heap.size w w' := by
  have hI := indexStr_any a n cap f w h hn hz
  clear h
  obtain ⟨z, hd⟩ : ∃ z, Hid (decide (∃ i, i < n ∧ wordOk (f i) = false) = z) := ⟨_, rfl⟩
  rw [hd.out]
  go_enter Tryz.func139, Tryz.ntmps139
  go_wp2_with fail
  refine hI.mono ?_
  rintro e w1 ⟨r, rfl, hr, hb⟩
  have HD : Hid (z = decide (0 ≤ r)) := by
    show _ = _
    rw [← hd.out]
    exact decide_eq_decide.2 hr.symm
  clear hI hr hd
  go_wp2
  go_ret
  exact ⟨by rw [HD.out]; rfl, hb⟩

set_option maxHeartbeats 2000000 in
theorem indexCol_any (a : Option Addr) (n cap : Nat) (f : Nat → PCol) (w : World) (h : CView w a n cap f) (hn : n ≤ 4194304) :
    Calls Tryz.prog 174 #[.slice a n cap, .func (.func 142) #[] #[]] w fun e w' => ∃ r : Int, e = .returned (.int .i64 r) ∧ (0 ≤ r ↔ ∃ i, i < n ∧ ((f i).type < 1 ∨ 4 < (f i).type)) ∧ Below w.heap.size w w' := by
  go_enter Tryz.func174, Tryz.ntmps174
  go_wp2
  go_loopg [8] n (fun q i wr => ∃ k : Nat, k ≤ n ∧ q = n - k ∧ i = .int .i64 k ∧ Below w.heap.size w wr ∧ Hid (∀ i, i < k → ¬ (((f i).type < 1 ∨ 4 < (f i).type))))
  case atStart => exact ⟨0, Nat.zero_le _, rfl, rfl, Below.refl _ _, fun j hj => absurd hj (Nat.not_lt_zero _)⟩
  case round =>
    obtain ⟨k, hk, rfl, rfl, hB, HA⟩ := hrel
    by_cases hlt : k < n
    · have hkz : (k : Int) < (n : Int) := by omega
      obtain ⟨b1, o1, rfl, hb1, hcs⟩ := (h.below hB).cells (by omega)
      obtain ⟨x0, x1, x2⟩ := hcs k hlt
      have hV := fun W => isOfNoType_any (f k).name (f k).type (f k).null W
      have HB : Hid (Below w.heap.size w wr) := hB
      obtain ⟨o, ho⟩ : ∃ o, Hid (decide ((f k).type < 1 ∨ 4 < (f k).type) = o) := ⟨_, rfl⟩
      have HO : Hid (o = true ↔ ((f k).type < 1 ∨ 4 < (f k).type)) := by show _ ↔ _; rw [← ho.out]; exact decide_eq_true_iff
      simp only [ho.out] at hV
      clear ho
      obtain ⟨s0, hs0⟩ : ∃ s, Hid ((f k).name = s) := ⟨_, rfl⟩
      obtain ⟨s1, hs1⟩ : ∃ s, Hid ((f k).type = s) := ⟨_, rfl⟩
      obtain ⟨s2, hs2⟩ : ∃ s, Hid ((f k).null = s) := ⟨_, rfl⟩
      rw [hs0.out] at x0
      rw [hs1.out] at x1
      rw [hs2.out] at x2
      simp only [hs0.out, hs1.out, hs2.out] at hV
      clear hcs h hB
      go_wp2_with fail
      refine (hV _).mono ?_
      rintro e w2 ⟨rfl, hB2⟩
      have HB3 : Hid (Below w.heap.size w w2) := HB.out.trans (hB2.mono (by have := HB.out.size; first | exact this | (simp; omega)))
      clear hB2 hV x0 x1 x2 HB
      cases o with
      | true =>
        have HR : Hid ((0 : Int) ≤ (k : Int) ↔ ∃ i, i < n ∧ ((f i).type < 1 ∨ 4 < (f i).type)) := ⟨fun _ => ⟨k, hlt, HO.out.1 rfl⟩, fun _ => by omega⟩
        clear HO HA
        go_wp2
        go_ret
        exact ⟨_, rfl, HR.out, HB3.out⟩
      | false =>
        have HN : Hid (∀ i, i < k + 1 → ¬ (((f i).type < 1 ∨ 4 < (f i).type))) := by
          intro i hi
          by_cases e : i < k
          · exact HA.out i e
          · obtain rfl : i = k := by omega
            intro hb
            have := HO.out.2 hb
            cases this
        clear HO HA
        go_wp2
        go_roundg (n - (k + 1))
        case measure => omega
        case rel => exact ⟨k + 1, by omega, rfl, by go_num, HB3.out, HN⟩
    · have hkz : ¬ (k : Int) < (n : Int) := by omega
      obtain rfl : k = n := by omega
      have HR : Hid ((0 : Int) ≤ -1 ↔ ∃ i, i < k ∧ ((f i).type < 1 ∨ 4 < (f i).type)) := ⟨fun h => absurd h (by decide), fun ⟨i, hi, hb⟩ => absurd hb (HA.out i hi)⟩
      clear h HA
      go_wp2
      go_ret
      exact ⟨_, rfl, HR.out, hB⟩

set_option maxHeartbeats 1000000 in
theorem containsCol_any (a : Option Addr) (n cap : Nat) (f : Nat → PCol) (w : World) (h : CView w a n cap f) (hn : n ≤ 4194304) :
    Calls Tryz.prog 141 #[.slice a n cap, .func (.func 142) #[] #[]] w fun e w' => e = .returned (.bool (decide (∃ i, i < n ∧ ((f i).type < 1 ∨ 4 < (f i).type)))) ∧ Below w.heap.size w w' := by
  have hI := indexCol_any a n cap f w h hn
  clear h
  obtain ⟨z, hd⟩ : ∃ z, Hid (decide (∃ i, i < n ∧ ((f i).type < 1 ∨ 4 < (f i).type)) = z) := ⟨_, rfl⟩
  rw [hd.out]
  go_enter Tryz.func141, Tryz.ntmps141
  go_wp2_with fail
  refine hI.mono ?_
  rintro e w1 ⟨r, rfl, hr, hb⟩
  have HD : Hid (z = decide (0 ≤ r)) := by
    show _ = _
    rw [← hd.out]
    exact decide_eq_decide.2 hr.symm
  clear hI hr hd
  go_wp2
  go_ret
  exact ⟨by rw [HD.out]; rfl, hb⟩
end Go.Proofs.YtjoimkfpenbkmaaGreatDoor

/-
  What a round of a loop over an iterator keeps: all that lay at the start of the call, and the two boxes that the iterator holds.
-/
namespace Go.Proofs.YtjoimkfpenbkmaaGreatDoor
open Go.RowKit
set_option maxRecDepth 4000

/-- What a round that goes on keeps. -/
structure KpB (n₀ Bl Bv : Nat) (W W' : World) : Prop where
  below : Below n₀ W W'
  bl : W'.heap[Bl]? = W.heap[Bl]?
  bv : W'.heap[Bv]? = W.heap[Bv]?
theorem KpB.refl (n₀ Bl Bv : Nat) (W : World) : KpB n₀ Bl Bv W W := ⟨Below.refl _ _, rfl, rfl⟩
theorem KpB.trans {n₀ Bl Bv : Nat} {A B C : World} (h : KpB n₀ Bl Bv A B) (k : KpB n₀ Bl Bv B C) : KpB n₀ Bl Bv A C := ⟨h.below.trans k.below, k.bl.trans h.bl, k.bv.trans h.bv⟩
/-- Whatever leaves all that lay as it lay. -/
theorem KpB.ofBelow {n₀ Bl Bv : Nat} {W W' : World} (h : Below W.heap.size W W') (hn : n₀ ≤ W.heap.size) (hl : Bl < W.heap.size) (hv : Bv < W.heap.size) : KpB n₀ Bl Bv W W' := ⟨h.mono hn, h.block Bl hl, h.block Bv hv⟩
/-- A step that turns one block. -/
theorem KpB.ofGrown {n₀ Bl Bv : Nat} {W W' : World} {row : Option Nat} (hg : W.grownBy W' row) (hn : n₀ ≤ W.heap.size) (hl : Bl < W.heap.size) (hv : Bv < W.heap.size) (hr : ∀ k, row = some k → n₀ ≤ k ∧ k ≠ Bl ∧ k ≠ Bv) : KpB n₀ Bl Bv W W' :=
  ⟨⟨hg.os, hg.tape, hg.output, hg.size, fun k hk => hg.block k (by omega) (fun e => by have := (hr k e.symm).1; omega)⟩, hg.block Bl hl (fun e => (hr Bl e.symm).2.1 rfl), hg.block Bv hv (fun e => (hr Bv e.symm).2.2 rfl)⟩
theorem KpB.put {n₀ Bl Bv : Nat} {w : World} (hn : n₀ ≤ w.heap.size) (hl : Bl < w.heap.size) (hv : Bv < w.heap.size) (W : World) (l : Nat) (o o' : Obj) (hle : w.heap.size ≤ l) (h : W.heap[l]? = some o) (h1 : o.isCells = false) (h2 : o.isWalk = false) : KpB n₀ Bl Bv W (W.putObj l o') :=
  ⟨belowK_b hn W l o o' hle h h1 h2, World.putObj_heap_other (by omega), World.putObj_heap_other (by omega)⟩
theorem Boxed.kpl {n₀ Bl Bv : Nat} {W W' : World} {t : TypeId} {v : Value} (h : Boxed W Bl t v) (k : KpB n₀ Bl Bv W W') : Boxed W' Bl t v := k.bl.trans h
theorem Boxed.kpv {n₀ Bl Bv : Nat} {W W' : World} {t : TypeId} {v : Value} (h : Boxed W Bv t v) (k : KpB n₀ Bl Bv W W') : Boxed W' Bv t v := k.bv.trans h
theorem Boxed.below' {W W' : World} {B : Nat} {t : TypeId} {v : Value} (h : Boxed W B t v) (k : Below W.heap.size W W') : Boxed W' B t v := (k.block B h.lt).trans h
theorem grownBy_drew' (W : World) : W.grownBy W.drew none := ⟨rfl, rfl, rfl, Nat.le_refl _, fun _ _ _ => rfl⟩
theorem grownBy_below' {W W' : World} (h : Below W.heap.size W W') : W.grownBy W' none := ⟨h.os, h.tape, h.output, h.size, fun k hk _ => h.block k hk⟩
theorem AbidesFrom.step {β : Type} {B : Nat} {J : β → World → Prop} (h : AbidesFrom B J) {s : β} {W W' : World} (hs : J s W) (hg : W.grownBy W' none) : J s W' := h s W W' none hs hg (fun _ e => by cases e)
/-- 'KeepsFrom' of whatever leaves all that lay as it lay. -/
theorem KeepsFrom.ofBelow {B : Nat} {W W' : World} (h : Below W.heap.size W W') : KeepsFrom B W W' := ⟨h.size, fun k _ _ hk _ => (h.block k (Array.getElem?_eq_some_iff.1 hk).1).trans hk⟩
/-- 'KpB .. w₀ ·' abides what the loop itself turns. -/
theorem ownFrom_kpB {β : Type} {n₀ Bl Bv B' : Nat} {w₀ : World} (hn : n₀ ≤ B') (hl : Bl < B') (hv : Bv < B') (hB : B' ≤ w₀.heap.size) : OwnFrom B' (fun (_ : β) W => KpB n₀ Bl Bv w₀ W) :=
  fun _ X Y row hs hg hr => by
    have hs0 := hs.below.size
    refine ⟨hs.below.trans ⟨hg.os, hg.tape, hg.output, hg.size, fun k hk => hg.block k (by omega) (fun e => by have := (hr k e.symm).1; omega)⟩, ?_, ?_⟩
    · exact (hg.block Bl (by omega) (fun e => by have := (hr Bl e.symm).1; omega)).trans hs.bl
    · exact (hg.block Bv (by omega) (fun e => by have := (hr Bv e.symm).1; omega)).trans hs.bv

/-- The first j of the indices. -/
theorem fin_take {k j : Nat} (h : j < k) : (List.finRange k).take (j + 1) = (List.finRange k).take j ++ [⟨j, h⟩] := by
  rw [List.take_add_one, List.getElem?_eq_getElem (by simpa using h)]
  simp
theorem fin_len {k j : Nat} (h : j ≤ k) : ((List.finRange k).take j).length = j := by simp [h]
end Go.Proofs.YtjoimkfpenbkmaaGreatDoor

/-
  A box of a round, and what the loop itself turns.
-/
namespace Go.Proofs.YtjoimkfpenbkmaaGreatDoor
open Go.RowKit
set_option maxRecDepth 4000

theorem Boxed.ownK {W W' : World} {row : Option Nat} {B : Nat} {t : TypeId} {v : Value} (h : Boxed W B t v) (hg : W.grownBy W' row) (hr : ∀ r, row = some r → ∃ o : Obj, W.heap[r]? = some o ∧ o.isCells = false) : Boxed W' B t v := by
  obtain ⟨o, ho, hc⟩ := cells_of_cell h.cell
  exact (grownBy_keeps_cells hg hr ho hc).trans h
theorem Below.put' {n₀ : Nat} {w₀ W : World} {D : Nat} {o o' : Obj} (h : Below n₀ w₀ W) (hn : n₀ ≤ D) (hK : W.heap[D]? = some o) : Below n₀ w₀ (W.putObj D o') :=
  h.trans ((Below.refl n₀ W).grown (grownBy_putObj' W D o') (by have := (Array.getElem?_eq_some_iff.1 hK).1; omega) (fun k e => by cases e; omega))
end Go.Proofs.YtjoimkfpenbkmaaGreatDoor

/-
  Rows of the call's own, and what the loop over an iterator itself turns.
-/
namespace Go.Proofs.YtjoimkfpenbkmaaGreatDoor
open Go.RowKit
set_option maxRecDepth 4000

theorem own_ge {W : World} {base : Nat} {e : TypeId} {size : Nat} {v : Value} {k : Nat} {xs : List Value} (h : W.ownsRow base e size v k xs) : ∀ j, v.ownBlock = some j → base ≤ j := by
  intro j hj
  rcases h.2 with ⟨rfl, _⟩ | ⟨g, cap, cur, rfl, hb, _⟩
  · simp [Value.ownBlock] at hj
  · obtain rfl : g = j := by simpa [Value.ownBlock] using hj
    exact hb
theorem own_ownK {W W' : World} {row : Option Nat} {base : Nat} {e : TypeId} {size : Nat} {v : Value} {k : Nat} {xs : List Value} (h : W.ownsRow base e size v k xs) (hg : W.grownBy W' row) (hr : ∀ r, row = some r → ∃ o : Obj, W.heap[r]? = some o ∧ o.isCells = false) : W'.ownsRow base e size v k xs := by
  refine h.kept hg ?_
  rcases h.2 with ⟨rfl, _⟩ | ⟨g, cap, cur, rfl, _, hgb, _⟩
  · exact .inl rfl
  · refine .inr fun e' => ?_
    obtain ⟨o, ho, hc⟩ := hr g (by simpa [Value.ownBlock] using e'.symm)
    rw [hgb] at ho; cases ho; cases hc
end Go.Proofs.YtjoimkfpenbkmaaGreatDoor

