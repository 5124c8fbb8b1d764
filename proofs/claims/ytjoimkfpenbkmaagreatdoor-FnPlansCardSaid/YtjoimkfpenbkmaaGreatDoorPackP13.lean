/-
  Together: TokJoin, TokAll, TokOkImpl, GrowStr, ConcatImpl
-/
import Derived.Test.YtjoimkfpenbkmaaGreatDoorPackP2
import Derived.Test.YtjoimkfpenbkmaaGreatDoorPackP12
import Derived.Test.YtjoimkfpenbkmaaGreatDoorLexImpl
import Derived.Test.YtjoimkfpenbkmaaGreatDoorPackP3
import Derived.BigQuiet
import Derived.Deep.QuietTactic
import Derived.Test.YtjoimkfpenbkmaaGreatDoorPackP8
import Derived.Lib.AppendZeros
/-
  Tokens that are joined come back, plainly.
-/
namespace Go.Proofs.YtjoimkfpenbkmaaGreatDoor
open Go.RowKit
set_option maxRecDepth 4000

theorem bt_left {a b : ByteArray} {i : Nat} (h : i < a.size) : bt (a ++ b) i = bt a i := by
  have h2 : i < (a ++ b).size := by rw [ByteArray.size_append]; omega
  rw [← bt_at h, ← bt_at h2, ByteArray.getElem_append_left h]
theorem bt_right (a b : ByteArray) (j : Nat) : bt (a ++ b) (a.size + j) = bt b j := by
  by_cases h : j < b.size
  · have h2 : a.size + j < (a ++ b).size := by rw [ByteArray.size_append]; omega
    rw [← bt_at h, ← bt_at h2, ByteArray.getElem_append_right (by omega)]
    congr 2
    simp
  · unfold bt
    rw [dif_neg h, dif_neg (by rw [ByteArray.size_append]; omega)]
/-- Texts of the same bytes are one. -/
theorem bt_ext {a b : ByteArray} (hs : a.size = b.size) (h : ∀ i, i < a.size → bt a i = bt b i) : a = b := by
  apply ByteArray.ext
  apply Array.ext
  · exact hs
  · intro i h1 h2
    have h1' : i < a.size := h1
    have h2' : i < b.size := h2
    have e := h i h1'
    rw [← bt_at h1', ← bt_at h2'] at e
    have e2 : a[i] = b[i] := by apply UInt8.toNat.inj; omega
    exact e2

/-- A name goes on as far as its bytes do. -/
theorem endN_run {s : ByteArray} {p m : Nat} (hle : p + m ≤ s.size) (h : ∀ j, j < m → inName (bt s (p + j)) = true) (hend : p + m = s.size ∨ inName (bt s (p + m)) = false) : ∀ j, j ≤ m → endN s (p + (m - j)) = p + m
  | 0, _ => by
    rw [Nat.sub_zero]
    refine endN_stop (fun hh => ?_)
    rcases hend with e | e
    · omega
    · rw [e] at hh; cases hh.2
  | j + 1, hj => by
    have ih := endN_run hle h hend j (by omega)
    rw [endN_step (by omega) (h (m - (j + 1)) (by omega)), show p + (m - (j + 1)) + 1 = p + (m - j) by omega]
    exact ih

theorem blank_of {c : Int} (h : inName c = true ∨ markC c = true) : blank c = false := by
  unfold inName small digit at h
  unfold markC at h
  unfold blank
  simp only [Bool.or_eq_true, decide_eq_true_eq] at h
  apply decide_eq_false
  omega
/-- A right token that stands at a place is read there. -/
theorem lex_one {s t : ByteArray} {p : Nat} {kd : Int} {l : List (Int × ByteArray)} (hk : tokOk kd t = true) (hat : ∀ j, j < t.size → bt s (p + j) = bt t j) (hle : p + t.size ≤ s.size) (hend : p + t.size = s.size ∨ bt s (p + t.size) = 32) (hl : l.length ≠ 500) :
    lexF s p l = lexF s (p + t.size) (l ++ [(kd, t)]) := by
  have hext : s.extract p (p + t.size) = t := by
    refine bt_ext (by rw [ByteArray.size_extract]; omega) (fun i hi => ?_)
    rw [ByteArray.size_extract] at hi
    rw [bt_extract hle (by omega), hat i (by omega)]
  have hend2 : p + t.size = s.size ∨ inName (bt s (p + t.size)) = false := by
    rcases hend with e | e
    · exact .inl e
    · right; rw [e]; rfl
  by_cases c1 : kd = 1
  · subst c1
    have hn : nameOk t = true := hk
    unfold nameOk at hn
    simp only [decide_eq_true_eq] at hn
    obtain ⟨h1, h8, hs0, hall⟩ := hn
    have h0 := hat 0 (by omega)
    rw [Nat.add_zero] at h0
    have hka : kindAt s p = 1 := by unfold kindAt; rw [h0, hs0]; rfl
    have hst : stopAt s p = p + t.size := by
      unfold stopAt
      rw [h0, hs0]
      show endN s (p + 1) = _
      have := endN_run (s := s) (p := p) (m := t.size) hle (fun j hj => by rw [hat j hj]; exact hall j hj) hend2 (t.size - 1) (by omega)
      rw [show p + (t.size - (t.size - 1)) = p + 1 by omega] at this
      exact this
    rw [lexF_tok (by omega) (blank_of (.inl (by rw [h0]; exact hall 0 (by omega)))) (by rw [hka, hst, hext]; exact hk) hl, hka, hst, hext]
  · have c2 : kd = 2 := by
      unfold tokOk at hk
      rw [if_neg c1] at hk
      by_cases c2 : kd = 2
      · exact c2
      · rw [if_neg c2] at hk; cases hk
    subst c2
    have hn : markOk t = true := hk
    unfold markOk at hn
    simp only [decide_eq_true_eq] at hn
    obtain ⟨h1, hm⟩ := hn
    have h0 := hat 0 (by omega)
    rw [Nat.add_zero] at h0
    have hsm : small (bt s p) = false := by
      rw [h0]
      unfold markC at hm
      unfold small
      simp only [decide_eq_true_eq] at hm
      apply decide_eq_false
      omega
    have hka : kindAt s p = 2 := by unfold kindAt; rw [hsm]; rfl
    have hst : stopAt s p = p + t.size := by unfold stopAt; rw [hsm, h1]; rfl
    rw [lexF_tok (by omega) (blank_of (.inr (by rw [h0]; exact hm))) (by rw [hka, hst, hext]; exact hk) hl, hka, hst, hext]

/-- Where the k-th token begins. -/
def beg (fs : Nat → ByteArray) (k : Nat) : Nat := (joinT fs k).size + (if 0 < k then 1 else 0)
theorem joinT_end (fs : Nat → ByteArray) (k : Nat) : (joinT fs (k + 1)).size = beg fs k + (fs k).size := by
  unfold beg
  have h2 : (⟨#[32]⟩ : ByteArray).size = 1 := rfl
  rw [joinT, ByteArray.size_append]
  split
  · rw [ByteArray.size_append]; omega
  · omega
theorem joinT_pre (fs : Nat → ByteArray) : ∀ (n m : Nat), m ≤ n → (joinT fs m).size ≤ (joinT fs n).size ∧ ∀ i, i < (joinT fs m).size → bt (joinT fs n) i = bt (joinT fs m) i
  | 0, m, h => by
    obtain rfl : m = 0 := by omega
    exact ⟨Nat.le_refl _, fun _ _ => rfl⟩
  | n + 1, m, h => by
    by_cases e : m = n + 1
    · subst e; exact ⟨Nat.le_refl _, fun _ _ => rfl⟩
    · obtain ⟨h1, h2⟩ := joinT_pre fs n m (by omega)
      have h3 := joinT_end fs n
      have h4 : (joinT fs n).size ≤ beg fs n := by unfold beg; omega
      refine ⟨by omega, fun i hi => ?_⟩
      rw [← h2 i hi, joinT]
      by_cases h0 : 0 < n
      · rw [if_pos h0, bt_left (by rw [ByteArray.size_append]; omega), bt_left (by omega)]
      · rw [if_neg h0, bt_left (by omega)]
/-- The k-th token stands in the joined text. -/
theorem join_at {fs : Nat → ByteArray} {n k : Nat} (hk : k < n) : (∀ j, j < (fs k).size → bt (joinT fs n) (beg fs k + j) = bt (fs k) j) ∧ beg fs k + (fs k).size ≤ (joinT fs n).size ∧ (beg fs k + (fs k).size = (joinT fs n).size ∨ bt (joinT fs n) (beg fs k + (fs k).size) = 32) ∧ (k + 1 < n → bt (joinT fs n) (beg fs k + (fs k).size) = 32 ∧ beg fs (k + 1) = beg fs k + (fs k).size + 1) ∧ (k + 1 = n → beg fs k + (fs k).size = (joinT fs n).size) := by
  have hE := joinT_end fs k
  obtain ⟨h1, h2⟩ := joinT_pre fs n (k + 1) (by omega)
  have ha : ∀ j, j < (fs k).size → bt (joinT fs n) (beg fs k + j) = bt (fs k) j := by
    intro j hj
    rw [h2 _ (by omega), joinT]
    unfold beg
    by_cases h0 : 0 < k
    · rw [if_pos h0, if_pos h0]
      have e : (joinT fs k).size + 1 = (joinT fs k ++ (⟨#[32]⟩ : ByteArray)).size := by rw [ByteArray.size_append]; rfl
      rw [e]
      exact bt_right _ _ _
    · rw [if_neg h0, if_neg h0, Nat.add_zero]
      exact bt_right _ _ _
  have hnx : k + 1 < n → bt (joinT fs n) (beg fs k + (fs k).size) = 32 ∧ beg fs (k + 1) = beg fs k + (fs k).size + 1 := by
    intro hlt
    obtain ⟨h3, h4⟩ := joinT_pre fs n (k + 2) (by omega)
    have hE2 := joinT_end fs (k + 1)
    have hb : beg fs (k + 1) = beg fs k + (fs k).size + 1 := by
      conv => lhs; unfold beg
      rw [if_pos (by omega), hE]
    refine ⟨?_, hb⟩
    rw [h4 _ (by rw [show k + 2 = k + 1 + 1 from rfl, hE2]; omega), show k + 2 = k + 1 + 1 from rfl, joinT, if_pos (by omega), ← hE]
    rw [bt_left (by rw [ByteArray.size_append]; show _ < _ + 1; omega)]
    have := bt_right (joinT fs (k + 1)) (⟨#[32]⟩ : ByteArray) 0
    exact this.trans rfl
  have hlast : k + 1 = n → beg fs k + (fs k).size = (joinT fs n).size := by
    rintro rfl; rw [hE]
  refine ⟨ha, by omega, ?_, hnx, hlast⟩
  by_cases e : k + 1 = n
  · exact .inl (hlast e)
  · exact .inr (hnx (by omega)).1

/-- Tokens that are joined come back. -/
theorem lex_join {l : List (Int × ByteArray)} (hl : l.length ≤ 500) (hok : ∀ i, i < l.length → tokOk (tk l i) (ts l i) = true) : lexF (joinT (ts l) l.length) 0 [] = (l, -1) := by
  have key : ∀ k, k ≤ l.length → lexF (joinT (ts l) l.length) 0 [] = lexF (joinT (ts l) l.length) (if k < l.length then beg (ts l) k else (joinT (ts l) l.length).size) (l.take k) := by
    intro k
    induction k with
    | zero =>
      intro _
      by_cases h0 : 0 < l.length
      · rw [if_pos h0]; rfl
      · have : l = [] := by cases l with
          | nil => rfl
          | cons => simp at h0
        subst this; rfl
    | succ k ih =>
      intro hk
      have hkl : k < l.length := by omega
      rw [ih (by omega), if_pos hkl]
      obtain ⟨ha, hle, hend, hnx, hlast⟩ := join_at (fs := ts l) hkl
      have hlt : (l.take k).length ≠ 500 := by rw [List.length_take]; omega
      rw [lex_one (hok k hkl) ha hle hend hlt]
      have ht : l.take k ++ [(tk l k, ts l k)] = l.take (k + 1) := by
        rw [List.take_add_one, List.getElem?_eq_getElem hkl]
        unfold tk ts
        have h2 : l.getD k (0, ⟨#[]⟩) = l[k] := by simp [List.getD, List.getElem?_eq_getElem hkl]
        rw [h2]; rfl
      rw [ht]
      by_cases e : k + 1 < l.length
      · obtain ⟨h3, h4⟩ := hnx e
        rw [if_pos e, h4]
        refine lexF_blank ?_ (by rw [h3]; rfl)
        rcases Nat.lt_or_ge (beg (ts l) k + (ts l k).size) (joinT (ts l) l.length).size with h5 | h5
        · exact h5
        · unfold bt at h3; rw [dif_neg (by omega)] at h3; cases h3
      · rw [if_neg e, hlast (by omega)]
  rw [key l.length (Nat.le_refl _), if_neg (Nat.lt_irrefl _), List.take_length]
  exact lexF_end (Nat.lt_irrefl _)
end Go.Proofs.YtjoimkfpenbkmaaGreatDoor

/-
  What Lex makes of a token's own text, plainly: the token alone, just if it is right.
-/
namespace Go.Proofs.YtjoimkfpenbkmaaGreatDoor
open Go.RowKit
set_option maxRecDepth 4000

/-- All that Lex makes is right. -/
theorem lexF_ok (s : ByteArray) (i : Nat) (l : List (Int × ByteArray)) (hl : ∀ t ∈ l, tokOk t.1 t.2 = true) : ∀ t ∈ (lexF s i l).1, tokOk t.1 t.2 = true := by
  by_cases h : i < s.size
  · cases hb : blank (bt s i) with
    | true => rw [lexF_blank h hb]; exact lexF_ok s (i + 1) l hl
    | false =>
      by_cases ht : tokOk (kindAt s i) (s.extract i (stopAt s i)) = true ∧ l.length ≠ 500
      · rw [lexF_tok h hb ht.1 ht.2]
        refine lexF_ok s (stopAt s i) _ (fun t h => ?_)
        rcases List.mem_append.1 h with h | h
        · exact hl t h
        · rw [List.mem_singleton.1 h]; exact ht.1
      · rw [lexF_no h hb ht]; intro t h; cases h
  · rw [lexF_end h]; exact hl
  termination_by s.size - i
  decreasing_by all_goals (have := stopAt_gt s i; omega)
/-- A token that is right is what Lex makes of its text. -/
theorem lex_self {k : Int} {s : ByteArray} (h : tokOk k s = true) : lexF s 0 [] = ([(k, s)], -1) := by
  have h1 := lex_join (l := [(k, s)]) (by simp) (fun i hi => by
    have : i = 0 := by simpa using hi
    subst this
    exact h)
  have h2 : joinT (ts [(k, s)]) [(k, s)].length = s := by
    show (if 0 < 0 then _ else (⟨#[]⟩ : ByteArray)) ++ s = s
    rw [if_neg (by omega)]
    have h0 : (⟨#[]⟩ : ByteArray).size = 0 := rfl
    exact bt_ext (by rw [ByteArray.size_append, h0, Nat.zero_add]) (fun i _ => by
      have := bt_right ⟨#[]⟩ s i
      rw [h0, Nat.zero_add] at this
      exact this)
  rw [h2] at h1
  exact h1
def eqT (k : Int) (s : ByteArray) (k' : Int) (s' : ByteArray) : Bool := decide (k = k') && decide (s = s')
theorem tok_self {k : Int} {s : ByteArray} (h : (lexF s 0 []).1.length = 1) : tokOk k s = eqT (tk (lexF s 0 []).1 0) (ts (lexF s 0 []).1 0) k s := by
  rw [Bool.eq_iff_iff]
  constructor
  · intro ht
    rw [lex_self ht]
    simp [eqT, tk, ts]
  · intro he
    simp only [eqT, Bool.and_eq_true, decide_eq_true_eq] at he
    obtain ⟨x, hx⟩ := List.length_eq_one_iff.1 h
    have := lexF_ok s 0 [] (by intro t h; cases h) x (by rw [hx]; simp)
    rw [hx] at he
    have e : x = (k, s) := Prod.ext (by simpa [tk] using he.1) (by simpa [ts] using he.2)
    rw [e] at this
    exact this
theorem tok_none {k : Int} {s : ByteArray} (h : (lexF s 0 []).1.length ≠ 1) : tokOk k s = false := by
  cases e : tokOk k s with
  | false => rfl
  | true => rw [lex_self e] at h; exact absurd rfl h
end Go.Proofs.YtjoimkfpenbkmaaGreatDoor

/-
  The program's TokenOk: what Lex makes of the token's own text, alone.
-/
namespace Go.Proofs.YtjoimkfpenbkmaaGreatDoor
open Go.RowKit
set_option maxRecDepth 4000

theorem eqTok_run (k : Int) (s : ByteArray) (k' : Int) (s' : ByteArray) (W : World) :
    (binOp .eql 222 (.agg #[.int .i64 k, .string s]) (.agg #[.int .i64 k', .string s'])).run Tryz.prog W = .ok (.bool (eqT k s k' s')) W := by
  by_cases h1 : k = k' <;> by_cases h3 : s = s' <;> simp [go_sem, h1, h3, eqT, bytes_inj]

set_option maxHeartbeats 2000000 in
theorem implTokenOk_any (k : Int) (s : ByteArray) (w : World) (hs : s.size ≤ 281474976710656) :
    Calls Tryz.prog 172 #[.agg #[.int .i64 k, .string s]] w fun e w' => e = .returned (.bool (tokOk k s)) ∧ Below w.heap.size w w' := by
  have hL := fun W => implLex_any s W hs
  have HA : Hid ((lexF s 0 []).1.length = 1 → tokOk k s = eqT (tk (lexF s 0 []).1 0) (ts (lexF s 0 []).1 0) k s) := tok_self
  have HN : Hid ((lexF s 0 []).1.length ≠ 1 → tokOk k s = false) := tok_none
  obtain ⟨r, hr⟩ : ∃ r, Hid (lexF s 0 [] = r) := ⟨_, rfl⟩
  rw [hr.out] at HA HN
  simp only [hr.out] at hL
  go_enter Tryz.func172, Tryz.ntmps172
  go_wp2_with fail
  refine (hL _).mono ?_
  rintro e w1 ⟨v, rfl, hne, hown, hB⟩
  rw [rowL_K] at hown
  obtain ⟨a, c, rfl, hv, -⟩ := tview_of_own hown
  have hC := hB.mono (show w.heap.size + 1 ≤ _ by simp)
  have c0 : w1.cell? ⟨w.heap.size, 0, none⟩ = some (.int .i64 k) := by rw [hC.cell (by simp)]; simp [go_sem]
  have c1 : w1.cell? ⟨w.heap.size, 1, none⟩ = some (.string s) := by rw [hC.cell (by simp)]; simp [go_sem]
  have HB : Hid (Below w.heap.size w w1) := ((Below.refl _ _).alloc (Nat.le_refl _) _).trans (hB.mono (by simp))
  clear hL hown hB hC hne
  by_cases h1 : r.1.length = 1
  · have HE0 := HA.out h1
    have hd : ((r.1.length : Int) == 1) = true := by simp; omega
    obtain ⟨b, off, rfl, hb, hcs⟩ := hv.cells (by omega)
    obtain ⟨x0, x1⟩ := hcs 0 (by omega)
    simp only [Nat.zero_mul, Nat.add_zero] at x0 x1
    rw [h1]
    have hq := eqTok_run (tk r.1 0) (ts r.1 0) k s
    clear HA HN hv hcs h1 hd
    generalize tk r.1 0 = p0 at *
    generalize ts r.1 0 = p1 at *
    have HE : Hid (tokOk k s = eqT p0 p1 k s) := HE0
    clear HE0
    go_wp2_with fail
    go_quiet (fail)
    go_wp2
    go_ret
    exact ⟨by rw [HE.out]; rfl, HB.out.trans ⟨rfl, rfl, rfl, Nat.le_refl _, fun _ _ => rfl⟩⟩
  · have HE : Hid (tokOk k s = false) := HN.out h1
    have hd : ((r.1.length : Int) == 1) = false := by simp; omega
    clear HA HN hv
    go_wp2_with fail
    go_quiet (fail)
    go_wp2
    go_ret
    exact ⟨by rw [HE.out]; rfl, HB.out.trans ⟨rfl, rfl, rfl, Nat.le_refl _, fun _ _ => rfl⟩⟩
end Go.Proofs.YtjoimkfpenbkmaaGreatDoor

/-
  slices.Grow of no texts, for n of them: a row of the call's own with room.
-/
namespace Go.Proofs.YtjoimkfpenbkmaaGreatDoor
open Go.RowKit
set_option maxRecDepth 4000

set_option maxHeartbeats 2000000 in
theorem growStr_any (n : Nat) (w : World) (h0 : 0 < n) (hn : n ≤ 4194304) :
    Calls Tryz.prog 170 #[.slice none 0 0, .int .i64 n] w fun e w' => ∃ g c, e = .returned (.slice (some ⟨g, 0, none⟩) 0 c) ∧ w'.ownsRow w.heap.size 9 1 (.slice (some ⟨g, 0, none⟩) 0 c) 0 [] ∧ Below w.heap.size w w' := by
  obtain ⟨i0, hi, hz0, hz1, hz2⟩ := infoStr
  have h1 : ¬ ((n : Int) < 0) := by omega
  have h2 : wrap64 ((0 : Int) - (0 : Int)) = 0 := by unfold wrap64; omega
  have h3 : wrap64 ((n : Int) - 0) = (n : Int) := by unfold wrap64; omega
  have h4 : (n : Int) > 0 := by omega
  have hrz := fun ty => Lib.run_append_nil_zeros (P := Tryz.prog) w 132 3 ty 9 i0 (.string ⟨#[]⟩) .i64 .i64 Tryz.underlying132 Tryz.underlying3 hi hz0 n h0 (by omega) (by omega) (by rw [hz2]; omega)
  have hG1 : n ≤ grownCap w n 0 9 := grownCap_ge w _ _ _
  have hG2 : grownCap w n 0 9 ≤ maxLen := grownCap_le_maxLen w n 0 9 (by unfold maxLen; omega)
  obtain ⟨G, hG⟩ : ∃ G, G = grownCap w n 0 9 := ⟨_, rfl⟩
  rw [← hG] at hG1 hG2
  simp only [← hG] at hrz
  have hzc : (Value.string ⟨#[]⟩).cells.size = 1 := rfl
  have HS : Hid ((Builtin.zeroCells (Value.string ⟨#[]⟩).cells n ++ Builtin.zeroCells (Value.string ⟨#[]⟩).cells (G - n)).size = G) := by
    show _ = _
    simp [Builtin.zeroCells, Value.cells]
    omega
  obtain ⟨cs, hcs⟩ : ∃ cs, Hid (Builtin.zeroCells (Value.string ⟨#[]⟩).cells n ++ Builtin.zeroCells (Value.string ⟨#[]⟩).cells (G - n) = cs) := ⟨_, rfl⟩
  rw [hcs.out] at HS
  simp only [hcs.out] at hrz
  have HB : Hid (Below w.heap.size w (w.drew.alloc (.cells cs 9))) := ((Below.refl _ _).drew).alloc (by simp) _
  have HO : Hid ((w.drew.alloc (.cells cs 9)).ownsRow w.heap.size 9 1 (.slice (some ⟨w.heap.size, 0, none⟩) 0 G) 0 []) := by
    refine ⟨rfl, .inr ⟨w.heap.size, G, cs, rfl, Nat.le_refl _, ?_, Nat.zero_le _, hG2, by rw [HS.out]; omega, by simp⟩⟩
    exact heap_alloc_new w.drew (.cells cs 9)
  have hGz : (0 : Int) ≤ (G : Int) := by omega
  unfold maxLen at hG2
  clear hcs hz0 hz1 hz2 hi hG hzc
  go_enter Tryz.func170, Tryz.ntmps170
  go_wp2_with (at_builtin; refine Lib.wpList_append_run _ rfl _ _ _ _ rfl _ _ rfl rfl _ _ (hrz _) ?_)
  go_ret
  exact ⟨_, _, rfl, HO.out, HB.out⟩
end Go.Proofs.YtjoimkfpenbkmaaGreatDoor

/-
  slices.Concat of three rows of texts: a row of the call's own, one behind the other.
-/
namespace Go.Proofs.YtjoimkfpenbkmaaGreatDoor
open Go.RowKit
set_option maxRecDepth 4000

theorem rowS_len (f : Nat → ByteArray) (n : Nat) : (rowG (encS f) n).length = n := by
  rw [rowG_len (c := 1) (fun _ => rfl)]; omega
theorem rowS_get {f : Nat → ByteArray} {n j : Nat} {u : Value} (h : (rowG (encS f) n)[j]? = some u) : j < n ∧ u = .string (f j) := by
  have hj : j < n := by
    have := (List.getElem?_eq_some_iff.1 h).1
    rwa [rowS_len] at this
  have h1 := rowG_get (enc := encS f) (c := 1) (fun _ => rfl) n j 0 hj (by decide)
  rw [Nat.mul_one, Nat.add_zero, h] at h1
  exact ⟨hj, (Option.some.inj h1)⟩
theorem rowS_one {f : Nat → ByteArray} {n : Nat} : ∀ u ∈ rowG (encS f) n, u.oneCell' = true := by
  intro u hu
  obtain ⟨j, hj⟩ := List.mem_iff_getElem?.1 hu
  obtain ⟨_, rfl⟩ := rowS_get hj
  rfl
/-- What is appended, where it lies. -/
theorem sview_cells {W : World} {g n c : Nat} {f : Nat → ByteArray} (h : SView W (some ⟨g, 0, none⟩) n c f) : ∀ j u, (rowG (encS f) n)[j]? = some u → W.cell? ((⟨g, 0, none⟩ : Addr).add j) = some u := by
  intro j u hj
  obtain ⟨hlt, rfl⟩ := rowS_get hj
  obtain ⟨b, off, e, _, hc⟩ := h.cells (by omega)
  cases e
  have := hc j hlt
  have e : (⟨g, 0, none⟩ : Addr).add j = ⟨g, 0 + j, none⟩ := by unfold Addr.add; split <;> simp_all
  rw [e]; exact this
theorem sview_of_row {W : World} {base g n c : Nat} {f : Nat → ByteArray} (h : W.ownsRow base 9 1 (.slice (some ⟨g, 0, none⟩) n c) n (rowG (encS f) n)) : SView W (some ⟨g, 0, none⟩) n c f := by
  obtain ⟨a, k, e, hv, _⟩ := sview_of_own h
  cases e
  exact hv

/-- Two rows, one behind the other. -/
def catF (f0 : Nat → ByteArray) (n0 : Nat) (f1 : Nat → ByteArray) (i : Nat) : ByteArray := if i < n0 then f0 i else f1 (i - n0)
theorem rowS_cat (f0 : Nat → ByteArray) (n0 : Nat) (f1 : Nat → ByteArray) : ∀ n1, rowG (encS f0) n0 ++ rowG (encS f1) n1 = rowG (encS (catF f0 n0 f1)) (n0 + n1)
  | 0 => by
    rw [rowG, List.append_nil]
    exact rowG_congr (fun i hi => by simp [encS, catF, hi])
  | n1 + 1 => by
    rw [rowG, ← List.append_assoc, rowS_cat f0 n0 f1 n1]
    show _ = rowG (encS (catF f0 n0 f1)) (n0 + n1) ++ encS (catF f0 n0 f1) (n0 + n1)
    simp [encS, catF, show ¬ n0 + n1 < n0 by omega]
/-- A row that was put behind a row of the call's own. -/
theorem grown9 {w W W' : World} {T c n m g k : Nat} {v : Value} {xs ys : List Value} (hb : Below w.heap.size w W) (hO : W.ownsRow w.heap.size T c (.slice (some ⟨g, 0, none⟩) n k) n xs) (hO2 : W'.ownsRow w.heap.size T c v m ys) (hgr : W.grownBy W' (Value.slice (some ⟨g, 0, none⟩) n k).ownBlock)
    (hnil : ¬ v = .slice none 0 0) : (∃ g' k', v = .slice (some ⟨g', 0, none⟩) m k') ∧ Below w.heap.size w W' := by
  refine ⟨?_, hb.grown hgr hb.size (own_ge9 hO)⟩
  rcases hO2.2 with ⟨e, _⟩ | ⟨g', k', _, e, _⟩
  · exact absurd e hnil
  · exact ⟨g', k', e⟩

set_option maxHeartbeats 4000000 in
theorem concat3_any (B g0 n0 c0 g1 n1 c1 g2 n2 c2 : Nat) (f0 f1 f2 : Nat → ByteArray) (w : World)
    (x0 : w.cell? ⟨B, 0, none⟩ = some (.slice (some ⟨g0, 0, none⟩) n0 c0)) (x1 : w.cell? ⟨B, 1, none⟩ = some (.slice (some ⟨g1, 0, none⟩) n1 c1)) (x2 : w.cell? ⟨B, 2, none⟩ = some (.slice (some ⟨g2, 0, none⟩) n2 c2)) (hB : B < w.heap.size)
    (v0 : SView w (some ⟨g0, 0, none⟩) n0 c0 f0) (v1 : SView w (some ⟨g1, 0, none⟩) n1 c1 f1) (v2 : SView w (some ⟨g2, 0, none⟩) n2 c2 f2) (h0 : 0 < n0) (l0 : n0 ≤ 1048576) (l1 : n1 ≤ 1048576) (l2 : n2 ≤ 1048576) :
    Calls Tryz.prog 136 #[.slice (some ⟨B, 0, none⟩) 3 3] w fun e w' => ∃ g c, e = .returned (.slice (some ⟨g, 0, none⟩) (n0 + n1 + n2) c) ∧ w'.ownsRow w.heap.size 9 1 (.slice (some ⟨g, 0, none⟩) (n0 + n1 + n2) c) (n0 + n1 + n2) (rowG (encS f0) n0 ++ rowG (encS f1) n1 ++ rowG (encS f2) n2) ∧ Below w.heap.size w w' := by
  obtain ⟨i0, hi, hz0, hz1, hz2⟩ := infoStr
  have hG := growStr_any (n0 + n1 + n2) w (by omega) (by omega)
  have e1 : ((n0 + n1 + n2 : Nat) : Int) = (n0 : Int) + n1 + n2 := by omega
  rw [e1] at hG
  have k1 : ¬ ((0 : Int) + n0 < 0) := by omega
  have k2 : ¬ ((n0 : Int) + n1 < 0) := by omega
  have k3 : ¬ ((n0 : Int) + n1 + n2 < 0) := by omega
  go_enter Tryz.func136, Tryz.ntmps136
  go_wp2
  refine wp_loop_rounds 4 ?_
  rw [rounds_succ]
  go_wp2
  rw [rounds_succ]
  go_wp2
  rw [rounds_succ]
  go_wp2
  rw [rounds_succ]
  go_wp2_with fail
  refine hG.mono ?_
  rintro e w1 ⟨g, c, rfl, hO1, hb1⟩
  have s1 := hb1.size
  rw [← hb1.cell (p := ⟨B, 0, none⟩) hB] at x0
  rw [← hb1.cell (p := ⟨B, 1, none⟩) hB] at x1
  rw [← hb1.cell (p := ⟨B, 2, none⟩) hB] at x2
  have HX : Hid (w1.cell? ⟨B, 1, none⟩ = some (.slice (some ⟨g1, 0, none⟩) n1 c1) ∧ w1.cell? ⟨B, 2, none⟩ = some (.slice (some ⟨g2, 0, none⟩) n2 c2)) := ⟨x1, x2⟩
  have hV0 := sview_cells (v0.below hb1)
  clear hG k1 k2 k3 x1 x2
  go_wp2
  refine wp_loop_rounds 4 ?_
  rw [rounds_succ]
  go_wp2_with (at_builtin; refine wpList_append_own _ rfl (.tmp 31) (.tmp 32) 132 rfl w.heap.size 9 i0 (.string ⟨#[]⟩) 1 16 Tryz.underlying132 hi hz0 hz1 hz2 rfl (by decide) _ _ _ rfl hO1 ⟨g0, 0, none⟩ n0 c0 (rowG (encS f0) n0) rfl (by rw [rowS_len]; omega) hV0 rowS_one (by unfold maxLen; omega) (by omega) (by omega) ?_)
  intro u2 w2 hO2 hgr2 hnil2
  obtain ⟨⟨g2', k2', rfl⟩, hb2⟩ := grown9 hb1 hO1 hO2 hgr2 hnil2
  have s2 := hb2.size
  have x1 : w2.cell? ⟨B, 1, none⟩ = some (.slice (some ⟨g1, 0, none⟩) n1 c1) := by rw [hb2.cell (p := ⟨B, 1, none⟩) hB, ← hb1.cell (p := ⟨B, 1, none⟩) hB]; exact HX.out.1
  have hV1 := sview_cells (v1.below hb2)
  have HX2 : Hid (w.cell? ⟨B, 2, none⟩ = some (.slice (some ⟨g2, 0, none⟩) n2 c2)) := by
    have := HX.out.2
    rw [hb1.cell (p := ⟨B, 2, none⟩) hB] at this
    exact this
  clear hV0 hO1 hgr2 hnil2 x0 HX hb1 s1 v0 v1
  go_wp2
  rw [rounds_succ]
  go_wp2_with (at_builtin; refine wpList_append_own _ rfl (.tmp 31) (.tmp 32) 132 rfl w.heap.size 9 i0 (.string ⟨#[]⟩) 1 16 Tryz.underlying132 hi hz0 hz1 hz2 rfl (by decide) _ _ _ rfl hO2 ⟨g1, 0, none⟩ n1 c1 (rowG (encS f1) n1) rfl (by rw [rowS_len]; omega) hV1 rowS_one (by unfold maxLen; omega) (by omega) (by omega) ?_)
  intro u3 w3 hO3 hgr3 hnil3
  obtain ⟨⟨g3', k3', rfl⟩, hb3⟩ := grown9 hb2 hO2 hO3 hgr3 hnil3
  have s3 := hb3.size
  have x2 : w3.cell? ⟨B, 2, none⟩ = some (.slice (some ⟨g2, 0, none⟩) n2 c2) := by rw [hb3.cell (p := ⟨B, 2, none⟩) hB]; exact HX2.out
  have hV2 := sview_cells (v2.below hb3)
  clear hV1 hO2 hgr3 hnil3 x1 HX2 hb2 s2 v2
  go_wp2
  rw [rounds_succ]
  go_wp2_with (at_builtin; refine wpList_append_own _ rfl (.tmp 31) (.tmp 32) 132 rfl w.heap.size 9 i0 (.string ⟨#[]⟩) 1 16 Tryz.underlying132 hi hz0 hz1 hz2 rfl (by decide) _ _ _ rfl hO3 ⟨g2, 0, none⟩ n2 c2 (rowG (encS f2) n2) rfl (by rw [rowS_len]; omega) hV2 rowS_one (by unfold maxLen; omega) (by omega) (by omega) ?_)
  intro u4 w4 hO4 hgr4 hnil4
  obtain ⟨⟨g4', k4', rfl⟩, hb4⟩ := grown9 hb3 hO3 hO4 hgr4 hnil4
  have HR : Hid (w4.ownsRow w.heap.size 9 1 (.slice (some ⟨g4', 0, none⟩) (n0 + n1 + n2) k4') (n0 + n1 + n2) (rowG (encS f0) n0 ++ rowG (encS f1) n1 ++ rowG (encS f2) n2) ∧ Below w.heap.size w w4) := ⟨by rw [List.append_assoc]; exact hO4, hb4⟩
  clear hV2 hO3 hO4 hgr4 hnil4 x2 hb3 hb4 s3
  go_wp2
  rw [rounds_succ]
  go_wp2
  go_ret
  exact ⟨_, _, rfl, HR.out.1, HR.out.2⟩
end Go.Proofs.YtjoimkfpenbkmaaGreatDoor

