/-
  Together: CheckSpec, JoinPlain, TokJoin, DefText, LexPart
-/
import Derived.Test.YtmibpdnlphdoaaaGreatDoorPackF7
import Derived.Test.YtmibpdnlphdoaaaGreatDoorPackF8
import Derived.Test.YtmibpdnlphdoaaaGreatDoorPackF1
import Derived.Test.YtmibpdnlphdoaaaGreatDoorPackF2
import Derived.Test.YtmibpdnlphdoaaaGreatDoorPackF3
/-
  The model's CheckDef comes to the plain one.
-/
namespace Go.Proofs.YtmibpdnlphdoaaaGreatDoor
open Go.RowKit
set_option maxRecDepth 4000

set_option maxHeartbeats 2000000 in
theorem specCheck_any (v : Value) (D : PDef) (w : World) (h : DView w v D) (hf : DFine D) :
    Calls Tryz.prog 31 #[v] w fun e w' => e = .returned (.int .i64 (checkF D)) ∧ Below w.heap.size w w' := by
  have hnc := hf.nc
  have hnp := hf.np
  have hni := hf.ni
  have hv := h
  obtain ⟨ac, cc, ap, cp, ai, ci, rfl, hc, hp, -⟩ := h.is
  clear h
  obtain ⟨vv, hvv⟩ : ∃ vv : Value, Hid (vv = .agg #[.string D.name, .slice ac D.nc cc, .slice ap D.np cp, .slice ai D.ni ci]) := ⟨_, rfl⟩
  have h1 := fun W (hb : Below w.heap.size w W) => l9Names_any _ D W (hv.below hb) hf
  have h2 := fun W (hb : Below w.heap.size w W) => l9Types_any _ D W (hv.below hb) hnc
  have h3 := fun W (hb : Below w.heap.size w W) => l9Once_any _ D W (hv.below hb) hnc hni
  have h4 := fun W (hb : Below w.heap.size w W) => l9AllParts_any _ D W (hv.below hb) hf
  obtain ⟨r, hr⟩ : ∃ r, Hid (checkF D = r) := ⟨_, rfl⟩
  have HC : Hid (checkF D = if namesF D = false then 1 else if typesF D = false then 2 else if onceF D = false then 3 else if 2 < D.ni then 6 else if allPartsF D = false then 5 else if nullF D then 4 else 0) := rfl
  go_enter Tryz.func31, Tryz.ntmps31
  have hB0 := box4_start w (.cells #[.string D.name, .slice ac D.nc cc, .slice ap D.np cp, .slice ai D.ni ci] 35)
  obtain ⟨hBw0, -⟩ := box4_below hB0
  go_wp2_with fail
  refine (h1 _ hBw0).mono ?_
  clear h1
  cases e1 : namesF D with
  | false =>
    rintro e w1 ⟨rfl, hb1⟩
    have HB : Hid (Below w.heap.size w w1) := hBw0.trans (hb1.mono (by simp))
    clear hb1 h2 h3 h4 hc hp hv
    go_wp2
    go_ret
    exact ⟨by rw [HC.out, e1]; rfl, HB.out⟩
  | true =>
  rintro e w1 ⟨rfl, hb1⟩
  have hB1 := box4_on hB0 hb1
  obtain ⟨hBw1, hs1⟩ := box4_below hB1
  obtain ⟨x0, x1, x2, x3⟩ := box4 hB1
  have hT := h2 _ hBw1
  clear hb1 h2 hB0 hBw0
  go_wp2_with fail
  refine hT.mono ?_
  cases e2 : typesF D with
  | false =>
    rintro e w2 ⟨rfl, hb2⟩
    have HB : Hid (Below w.heap.size w w2) := hBw1.trans (hb2.mono (by omega))
    clear hb2 h3 h4 hc hp hv hT
    go_wp2
    go_ret
    exact ⟨by rw [HC.out, e1, e2]; rfl, HB.out⟩
  | true =>
  rintro e w2 ⟨rfl, hb2⟩
  have hB2 := box4_on hB1 hb2
  obtain ⟨hBw2, hs2⟩ := box4_below hB2
  clear x0 x1 x2 x3
  obtain ⟨x0, x1, x2, x3⟩ := box4 hB2
  have hO := h3 _ hBw2
  clear hb2 h3 hB1 hBw1 hT hs1
  go_wp2_with fail
  refine hO.mono ?_
  cases e3 : onceF D with
  | false =>
    rintro e w3 ⟨rfl, hb3⟩
    have HB : Hid (Below w.heap.size w w3) := hBw2.trans (hb3.mono (by omega))
    clear hb3 h4 hc hp hv hO
    go_wp2
    go_ret
    exact ⟨by rw [HC.out, e1, e2, e3]; rfl, HB.out⟩
  | true =>
  rintro e w3 ⟨rfl, hb3⟩
  have hB3 := box4_on hB2 hb3
  obtain ⟨hBw3, hs3⟩ := box4_below hB3
  clear x0 x1 x2 x3
  obtain ⟨x0, x1, x2, x3⟩ := box4 hB3
  have hP := h4 _ hBw3
  clear hb3 h4 hB2 hBw2 hO hs2
  by_cases h6 : 2 < D.ni
  · have h6z : (2 : Int) < (D.ni : Int) := by omega
    have HB : Hid (Below w.heap.size w w3) := hBw3
    clear hc hp hv hP
    go_wp2
    go_ret
    exact ⟨by rw [HC.out, e1, e2, e3, if_pos h6]; rfl, HB.out⟩
  have h6z : ¬ (2 : Int) < (D.ni : Int) := by omega
  go_wp2_with fail
  refine hP.mono ?_
  cases e5 : allPartsF D with
  | false =>
    rintro e w4 ⟨rfl, hb4⟩
    have HB : Hid (Below w.heap.size w w4) := hBw3.trans (hb4.mono (by omega))
    clear hb4 hc hp hv hP
    go_wp2
    go_ret
    exact ⟨by rw [HC.out, e1, e2, e3, if_neg h6, e5]; rfl, HB.out⟩
  | true =>
  rintro e w4 ⟨rfl, hb4⟩
  have hB4 := box4_on hB3 hb4
  have HC2 : Hid (checkF D = if nullF D then 4 else 0) := by
    show _ = _
    rw [HC.out, e1, e2, e3, if_neg h6, e5]; rfl
  have HPR : Hid (∀ i, i < D.np → 0 ≤ (D.pri i).col ∧ (D.pri i).col < D.nc) := by
    intro i hi
    unfold allPartsF at e5
    exact partsF_in (of_decide_eq_true e5).2 hi
  clear hb4 hB3 hBw3 hP hs3 x0 x1 x2 x3 hv e1 e2 e3 e5 HC h6 h6z
  go_wp2
  go_loopg [3] D.np (fun q i wr => ∃ k : Nat, k ≤ D.np ∧ q = D.np - k ∧ i = .int .i64 k ∧ Below (w.heap.size + 1) (w.alloc (.cells #[.string D.name, .slice ac D.nc cc, .slice ap D.np cp, .slice ai D.ni ci] 35)) wr ∧ Hid (∀ i, i < k → (D.col (D.pri i).col.toNat).null = false))
  case atStart => exact ⟨0, Nat.zero_le _, rfl, rfl, hB4, fun j hj => absurd hj (Nat.not_lt_zero _)⟩
  case round =>
    clear hB4
    obtain ⟨k, hk, rfl, rfl, hB, HA⟩ := hrel
    obtain ⟨x0, x1, x2, x3⟩ := box4 hB
    obtain ⟨hBw, hsz⟩ := box4_below hB
    have HBw : Hid (Below w.heap.size w wr) := hBw
    by_cases hlt : k < D.np
    · have hkz : (k : Int) < (D.np : Int) := by omega
      obtain ⟨q0, q1⟩ := HPR.out k hlt
      obtain ⟨m, hm⟩ := Int.eq_ofNat_of_zero_le q0
      obtain ⟨b2, o2, rfl, hb2, hcs⟩ := (hp.below hBw).cells (by omega)
      obtain ⟨y0, -⟩ := hcs k hlt
      rw [hm] at y0 q1
      obtain ⟨b1, o1, rfl, hb1, hcc⟩ := (hc.below hBw).cells (by omega)
      obtain ⟨-, -, y2⟩ := hcc m (by omega)
      have HNX : Hid ((D.col (D.pri k).col.toNat).null = (D.col m).null) := by show _ = _; rw [hm]; rfl
      have HB : Hid (Below (w.heap.size + 1) (w.alloc (.cells #[.string D.name, .slice (some ⟨b1, o1, none⟩) D.nc cc, .slice (some ⟨b2, o2, none⟩) D.np cp, .slice ai D.ni ci] 35)) wr) := hB
      cases hnn : (D.col m).null with
      | true =>
        have HF : Hid (nullF D = true) := by
          show _ = _
          unfold nullF
          exact decide_eq_true ⟨k, hlt, HNX.out.trans hnn⟩
        rw [hnn] at y2
        clear hcs hcc hc hp hB hBw HA HPR hm q0 hf HNX hnn
        go_wp2_with fail
        go_quiet (fail)
        go_wp2
        go_ret
        exact ⟨by rw [HC2.out, HF.out]; rfl, HBw.out.trans ⟨rfl, rfl, rfl, Nat.le_refl _, fun _ _ => rfl⟩⟩
      | false =>
        have HN : Hid (∀ i, i < k + 1 → (D.col (D.pri i).col.toNat).null = false) := by
          intro i hi
          by_cases hj' : i < k
          · exact HA.out i hj'
          · obtain rfl : i = k := by omega
            exact HNX.out.trans hnn
        rw [hnn] at y2
        clear hcs hcc hc hp hB hBw HA HPR hm q0 hf HNX hnn
        go_wp2_with fail
        go_quiet (fail)
        go_wp2
        go_roundg (D.np - (k + 1))
        case measure => omega
        case rel => exact ⟨k + 1, by omega, rfl, by go_num, HB.out.trans ⟨rfl, rfl, rfl, Nat.le_refl _, fun _ _ => rfl⟩, HN⟩
    · have hkz : ¬ (k : Int) < (D.np : Int) := by omega
      obtain rfl : k = D.np := by omega
      have HF : Hid (nullF D = false) := by
        show _ = _
        unfold nullF
        refine decide_eq_false (fun ⟨i, hi, h⟩ => ?_)
        rw [HA.out i hi] at h
        cases h
      clear hc hp hB hBw HA HPR hf
      go_wp2
      go_ret
      exact ⟨by rw [HC2.out, HF.out]; rfl, HBw.out⟩
end Go.Proofs.YtmibpdnlphdoaaaGreatDoor

/-
  Texts joined, a blank between, plainly.
-/
namespace Go.Proofs.YtmibpdnlphdoaaaGreatDoor
open Go.RowKit
set_option maxRecDepth 4000

/-- The texts of the first k tokens, a blank between. -/
def joinT (fs : Nat → ByteArray) : Nat → ByteArray
  | 0 => ⟨#[]⟩
  | k + 1 => (if 0 < k then joinT fs k ++ (⟨#[32]⟩ : ByteArray) else joinT fs k) ++ fs k
theorem joinT_size {fs : Nat → ByteArray} {B n : Nat} (h : ∀ i, i < n → (fs i).size ≤ B) : ∀ k, k ≤ n → (joinT fs k).size ≤ k * (B + 1)
  | 0, _ => Nat.zero_le _
  | k + 1, hk => by
    have ih := joinT_size h k (by omega)
    have h1 := h k (by omega)
    have h2 : (⟨#[32]⟩ : ByteArray).size = 1 := rfl
    rw [joinT, ByteArray.size_append]
    have h3 : (k + 1) * (B + 1) = k * (B + 1) + (B + 1) := by rw [Nat.add_mul]; omega
    split
    · rw [ByteArray.size_append]; omega
    · omega
theorem joinT_congr {fs gs : Nat → ByteArray} : ∀ {n : Nat}, (∀ i, i < n → fs i = gs i) → joinT fs n = joinT gs n
  | 0, _ => rfl
  | n + 1, h => by rw [joinT, joinT, joinT_congr (fun i hi => h i (by omega)), h n (by omega)]

end Go.Proofs.YtmibpdnlphdoaaaGreatDoor

/-
  Tokens that are joined come back, plainly.
-/
namespace Go.Proofs.YtmibpdnlphdoaaaGreatDoor
open Go.RowKit
set_option maxRecDepth 4000

theorem bt_left {a b : ByteArray} {i : Nat} (h : i < a.size) : bt (a ++ b) i = bt a i := by
  have h2 : i < (a ++ b).size := by rw [ByteArray.size_append]; omega
  rw [← bt_at h, ← bt_at h2, ByteArray.getElem_append_left h]
theorem bt_right (a b : ByteArray) (j : Nat) : bt (a ++ b) (a.size + j) = bt b j := by
  by_cases h : j < b.size
  · have h2 : a.size + j < (a ++ b).size := by rw [ByteArray.size_append]; omega
    rw [← bt_at h, ← bt_at h2, ByteArray.getElem_append_right (by omega)]
    congr 2
    simp
  · unfold bt
    rw [dif_neg h, dif_neg (by rw [ByteArray.size_append]; omega)]
/-- Texts of the same bytes are one. -/
theorem bt_ext {a b : ByteArray} (hs : a.size = b.size) (h : ∀ i, i < a.size → bt a i = bt b i) : a = b := by
  apply ByteArray.ext
  apply Array.ext
  · exact hs
  · intro i h1 h2
    have h1' : i < a.size := h1
    have h2' : i < b.size := h2
    have e := h i h1'
    rw [← bt_at h1', ← bt_at h2'] at e
    have e2 : a[i] = b[i] := by apply UInt8.toNat.inj; omega
    exact e2

/-- A name goes on as far as its bytes do. -/
theorem endN_run {s : ByteArray} {p m : Nat} (hle : p + m ≤ s.size) (h : ∀ j, j < m → inName (bt s (p + j)) = true) (hend : p + m = s.size ∨ inName (bt s (p + m)) = false) : ∀ j, j ≤ m → endN s (p + (m - j)) = p + m
  | 0, _ => by
    rw [Nat.sub_zero]
    refine endN_stop (fun hh => ?_)
    rcases hend with e | e
    · omega
    · rw [e] at hh; cases hh.2
  | j + 1, hj => by
    have ih := endN_run hle h hend j (by omega)
    rw [endN_step (by omega) (h (m - (j + 1)) (by omega)), show p + (m - (j + 1)) + 1 = p + (m - j) by omega]
    exact ih

theorem blank_of {c : Int} (h : inName c = true ∨ markC c = true) : blank c = false := by
  unfold inName small digit at h
  unfold markC at h
  unfold blank
  simp only [Bool.or_eq_true, decide_eq_true_eq] at h
  apply decide_eq_false
  omega
/-- A right token that stands at a place is read there. -/
theorem lex_one {s t : ByteArray} {p : Nat} {kd : Int} {l : List (Int × ByteArray)} (hk : tokOk kd t = true) (hat : ∀ j, j < t.size → bt s (p + j) = bt t j) (hle : p + t.size ≤ s.size) (hend : p + t.size = s.size ∨ bt s (p + t.size) = 32) (hl : l.length ≠ 500) :
    lexF s p l = lexF s (p + t.size) (l ++ [(kd, t)]) := by
  have hext : s.extract p (p + t.size) = t := by
    refine bt_ext (by rw [ByteArray.size_extract]; omega) (fun i hi => ?_)
    rw [ByteArray.size_extract] at hi
    rw [bt_extract hle (by omega), hat i (by omega)]
  have hend2 : p + t.size = s.size ∨ inName (bt s (p + t.size)) = false := by
    rcases hend with e | e
    · exact .inl e
    · right; rw [e]; rfl
  by_cases c1 : kd = 1
  · subst c1
    have hn : nameOk t = true := hk
    unfold nameOk at hn
    simp only [decide_eq_true_eq] at hn
    obtain ⟨h1, h8, hs0, hall⟩ := hn
    have h0 := hat 0 (by omega)
    rw [Nat.add_zero] at h0
    have hka : kindAt s p = 1 := by unfold kindAt; rw [h0, hs0]; rfl
    have hst : stopAt s p = p + t.size := by
      unfold stopAt
      rw [h0, hs0]
      show endN s (p + 1) = _
      have := endN_run (s := s) (p := p) (m := t.size) hle (fun j hj => by rw [hat j hj]; exact hall j hj) hend2 (t.size - 1) (by omega)
      rw [show p + (t.size - (t.size - 1)) = p + 1 by omega] at this
      exact this
    rw [lexF_tok (by omega) (blank_of (.inl (by rw [h0]; exact hall 0 (by omega)))) (by rw [hka, hst, hext]; exact hk) hl, hka, hst, hext]
  · have c2 : kd = 2 := by
      unfold tokOk at hk
      rw [if_neg c1] at hk
      by_cases c2 : kd = 2
      · exact c2
      · rw [if_neg c2] at hk; cases hk
    subst c2
    have hn : markOk t = true := hk
    unfold markOk at hn
    simp only [decide_eq_true_eq] at hn
    obtain ⟨h1, hm⟩ := hn
    have h0 := hat 0 (by omega)
    rw [Nat.add_zero] at h0
    have hsm : small (bt s p) = false := by
      rw [h0]
      unfold markC at hm
      unfold small
      simp only [decide_eq_true_eq] at hm
      apply decide_eq_false
      omega
    have hka : kindAt s p = 2 := by unfold kindAt; rw [hsm]; rfl
    have hst : stopAt s p = p + t.size := by unfold stopAt; rw [hsm, h1]; rfl
    rw [lexF_tok (by omega) (blank_of (.inr (by rw [h0]; exact hm))) (by rw [hka, hst, hext]; exact hk) hl, hka, hst, hext]

/-- Where the k-th token begins. -/
def beg (fs : Nat → ByteArray) (k : Nat) : Nat := (joinT fs k).size + (if 0 < k then 1 else 0)
theorem joinT_end (fs : Nat → ByteArray) (k : Nat) : (joinT fs (k + 1)).size = beg fs k + (fs k).size := by
  unfold beg
  have h2 : (⟨#[32]⟩ : ByteArray).size = 1 := rfl
  rw [joinT, ByteArray.size_append]
  split
  · rw [ByteArray.size_append]; omega
  · omega
theorem joinT_pre (fs : Nat → ByteArray) : ∀ (n m : Nat), m ≤ n → (joinT fs m).size ≤ (joinT fs n).size ∧ ∀ i, i < (joinT fs m).size → bt (joinT fs n) i = bt (joinT fs m) i
  | 0, m, h => by
    obtain rfl : m = 0 := by omega
    exact ⟨Nat.le_refl _, fun _ _ => rfl⟩
  | n + 1, m, h => by
    by_cases e : m = n + 1
    · subst e; exact ⟨Nat.le_refl _, fun _ _ => rfl⟩
    · obtain ⟨h1, h2⟩ := joinT_pre fs n m (by omega)
      have h3 := joinT_end fs n
      have h4 : (joinT fs n).size ≤ beg fs n := by unfold beg; omega
      refine ⟨by omega, fun i hi => ?_⟩
      rw [← h2 i hi, joinT]
      by_cases h0 : 0 < n
      · rw [if_pos h0, bt_left (by rw [ByteArray.size_append]; omega), bt_left (by omega)]
      · rw [if_neg h0, bt_left (by omega)]
/-- The k-th token stands in the joined text. -/
theorem join_at {fs : Nat → ByteArray} {n k : Nat} (hk : k < n) : (∀ j, j < (fs k).size → bt (joinT fs n) (beg fs k + j) = bt (fs k) j) ∧ beg fs k + (fs k).size ≤ (joinT fs n).size ∧ (beg fs k + (fs k).size = (joinT fs n).size ∨ bt (joinT fs n) (beg fs k + (fs k).size) = 32) ∧ (k + 1 < n → bt (joinT fs n) (beg fs k + (fs k).size) = 32 ∧ beg fs (k + 1) = beg fs k + (fs k).size + 1) ∧ (k + 1 = n → beg fs k + (fs k).size = (joinT fs n).size) := by
  have hE := joinT_end fs k
  obtain ⟨h1, h2⟩ := joinT_pre fs n (k + 1) (by omega)
  have ha : ∀ j, j < (fs k).size → bt (joinT fs n) (beg fs k + j) = bt (fs k) j := by
    intro j hj
    rw [h2 _ (by omega), joinT]
    unfold beg
    by_cases h0 : 0 < k
    · rw [if_pos h0, if_pos h0]
      have e : (joinT fs k).size + 1 = (joinT fs k ++ (⟨#[32]⟩ : ByteArray)).size := by rw [ByteArray.size_append]; rfl
      rw [e]
      exact bt_right _ _ _
    · rw [if_neg h0, if_neg h0, Nat.add_zero]
      exact bt_right _ _ _
  have hnx : k + 1 < n → bt (joinT fs n) (beg fs k + (fs k).size) = 32 ∧ beg fs (k + 1) = beg fs k + (fs k).size + 1 := by
    intro hlt
    obtain ⟨h3, h4⟩ := joinT_pre fs n (k + 2) (by omega)
    have hE2 := joinT_end fs (k + 1)
    have hb : beg fs (k + 1) = beg fs k + (fs k).size + 1 := by
      conv => lhs; unfold beg
      rw [if_pos (by omega), hE]
    refine ⟨?_, hb⟩
    rw [h4 _ (by rw [show k + 2 = k + 1 + 1 from rfl, hE2]; omega), show k + 2 = k + 1 + 1 from rfl, joinT, if_pos (by omega), ← hE]
    rw [bt_left (by rw [ByteArray.size_append]; show _ < _ + 1; omega)]
    have := bt_right (joinT fs (k + 1)) (⟨#[32]⟩ : ByteArray) 0
    exact this.trans rfl
  have hlast : k + 1 = n → beg fs k + (fs k).size = (joinT fs n).size := by
    rintro rfl; rw [hE]
  refine ⟨ha, by omega, ?_, hnx, hlast⟩
  by_cases e : k + 1 = n
  · exact .inl (hlast e)
  · exact .inr (hnx (by omega)).1

/-- Tokens that are joined come back. -/
theorem lex_join {l : List (Int × ByteArray)} (hl : l.length ≤ 500) (hok : ∀ i, i < l.length → tokOk (tk l i) (ts l i) = true) : lexF (joinT (ts l) l.length) 0 [] = (l, -1) := by
  have key : ∀ k, k ≤ l.length → lexF (joinT (ts l) l.length) 0 [] = lexF (joinT (ts l) l.length) (if k < l.length then beg (ts l) k else (joinT (ts l) l.length).size) (l.take k) := by
    intro k
    induction k with
    | zero =>
      intro _
      by_cases h0 : 0 < l.length
      · rw [if_pos h0]; rfl
      · have : l = [] := by cases l with
          | nil => rfl
          | cons => simp at h0
        subst this; rfl
    | succ k ih =>
      intro hk
      have hkl : k < l.length := by omega
      rw [ih (by omega), if_pos hkl]
      obtain ⟨ha, hle, hend, hnx, hlast⟩ := join_at (fs := ts l) hkl
      have hlt : (l.take k).length ≠ 500 := by rw [List.length_take]; omega
      rw [lex_one (hok k hkl) ha hle hend hlt]
      have ht : l.take k ++ [(tk l k, ts l k)] = l.take (k + 1) := by
        rw [List.take_add_one, List.getElem?_eq_getElem hkl]
        unfold tk ts
        have h2 : l.getD k (0, ⟨#[]⟩) = l[k] := by simp [List.getD, List.getElem?_eq_getElem hkl]
        rw [h2]; rfl
      rw [ht]
      by_cases e : k + 1 < l.length
      · obtain ⟨h3, h4⟩ := hnx e
        rw [if_pos e, h4]
        refine lexF_blank ?_ (by rw [h3]; rfl)
        rcases Nat.lt_or_ge (beg (ts l) k + (ts l k).size) (joinT (ts l) l.length).size with h5 | h5
        · exact h5
        · unfold bt at h3; rw [dif_neg (by omega)] at h3; cases h3
      · rw [if_neg e, hlast (by omega)]
  rw [key l.length (Nat.le_refl _), if_neg (Nat.lt_irrefl _), List.take_length]
  exact lexF_end (Nat.lt_irrefl _)
end Go.Proofs.YtmibpdnlphdoaaaGreatDoor

/-
  A table's text, plainly.
-/
namespace Go.Proofs.YtmibpdnlphdoaaaGreatDoor
open Go.RowKit
set_option maxRecDepth 4000

def typeW (t : Int) : ByteArray := if t = 1 then ⟨#[105, 110, 116]⟩ else if t = 2 then ⟨#[110, 117, 109]⟩ else if t = 3 then ⟨#[116, 101, 120, 116]⟩ else if t = 4 then ⟨#[98, 111, 111, 108]⟩ else ⟨#[]⟩
/-- The text of the first k parts. -/
def partsT (col : Nat → PCol) (f : Nat → PBy) : Nat → ByteArray
  | 0 => ⟨#[]⟩
  | k + 1 =>
    let s := (if 0 < k then partsT col f k ++ (⟨#[44, 32]⟩ : ByteArray) else partsT col f k) ++ (col (f k).col.toNat).name
    if (f k).desc then s ++ (⟨#[32, 100, 101, 115, 99]⟩ : ByteArray) else s
/-- The text as far as the first k columns. -/
def colsT (name : ByteArray) (col : Nat → PCol) : Nat → ByteArray
  | 0 => (⟨#[116, 97, 98, 108, 101, 32]⟩ : ByteArray) ++ name ++ (⟨#[32, 123, 32]⟩ : ByteArray)
  | k + 1 =>
    let s := colsT name col k ++ (col k).name ++ (⟨#[32]⟩ : ByteArray) ++ typeW (col k).type
    (if (col k).null then s ++ (⟨#[32, 110, 117, 108, 108]⟩ : ByteArray) else s) ++ (⟨#[59, 32]⟩ : ByteArray)
def partsE (col : Nat → PCol) (n : Nat) (f : Nat → PBy) : ByteArray := partsT col f n ++ (⟨#[59, 32]⟩ : ByteArray)
/-- .. and the first k indexes. -/
def idxT (D : PDef) : Nat → ByteArray
  | 0 => colsT D.name D.col D.nc ++ ((⟨#[112, 114, 105, 109, 97, 114, 121, 32]⟩ : ByteArray) ++ partsE D.col D.np D.pri)
  | k + 1 => idxT D k ++ (if (D.idx k).uniq then (⟨#[117, 110, 105, 113, 117, 101, 32]⟩ : ByteArray) else (⟨#[105, 110, 100, 101, 120, 32]⟩ : ByteArray)) ++ (D.idx k).name ++ (⟨#[32]⟩ : ByteArray) ++ partsE D.col (D.idx k).n (D.idx k).part
/-- The text of a table that nothing is wrong with. -/
def textG (D : PDef) : ByteArray := idxT D D.ni ++ (⟨#[125]⟩ : ByteArray)
def defText (D : PDef) : ByteArray := if checkF D = 0 then textG D else ⟨#[]⟩
end Go.Proofs.YtmibpdnlphdoaaaGreatDoor

/-
  Pieces of a text that have their tokens wherever they stand.
-/
namespace Go.Proofs.YtmibpdnlphdoaaaGreatDoor
open Go.RowKit
set_option maxRecDepth 4000

abbrev Tok := Int × ByteArray
/-- A right token that stands at a place, with nothing behind that goes on with a name, is read there. -/
theorem lex_tok {s t : ByteArray} {p : Nat} {kd : Int} {l : List Tok} (hk : tokOk kd t = true) (hat : ∀ j, j < t.size → bt s (p + j) = bt t j) (hle : p + t.size ≤ s.size) (hend2 : kd = 1 → p + t.size = s.size ∨ inName (bt s (p + t.size)) = false) (hl : l.length ≠ 500) :
    lexF s p l = lexF s (p + t.size) (l ++ [(kd, t)]) := by
  have hext : s.extract p (p + t.size) = t := by
    refine bt_ext (by rw [ByteArray.size_extract]; omega) (fun i hi => ?_)
    rw [ByteArray.size_extract] at hi
    rw [bt_extract hle (by omega), hat i (by omega)]
  by_cases c1 : kd = 1
  · subst c1
    have hn : nameOk t = true := hk
    unfold nameOk at hn
    simp only [decide_eq_true_eq] at hn
    obtain ⟨h1, h8, hs0, hall⟩ := hn
    have h0 := hat 0 (by omega)
    rw [Nat.add_zero] at h0
    have hka : kindAt s p = 1 := by unfold kindAt; rw [h0, hs0]; rfl
    have hst : stopAt s p = p + t.size := by
      unfold stopAt
      rw [h0, hs0]
      show endN s (p + 1) = _
      have := endN_run (s := s) (p := p) (m := t.size) hle (fun j hj => by rw [hat j hj]; exact hall j hj) (hend2 rfl) (t.size - 1) (by omega)
      rw [show p + (t.size - (t.size - 1)) = p + 1 by omega] at this
      exact this
    rw [lexF_tok (by omega) (blank_of (.inl (by rw [h0]; exact hall 0 (by omega)))) (by rw [hka, hst, hext]; exact hk) hl, hka, hst, hext]
  · have c2 : kd = 2 := by
      unfold tokOk at hk
      rw [if_neg c1] at hk
      by_cases c2 : kd = 2
      · exact c2
      · rw [if_neg c2] at hk; cases hk
    subst c2
    have hn : markOk t = true := hk
    unfold markOk at hn
    simp only [decide_eq_true_eq] at hn
    obtain ⟨h1, hm⟩ := hn
    have h0 := hat 0 (by omega)
    rw [Nat.add_zero] at h0
    have hsm : small (bt s p) = false := by
      rw [h0]
      unfold markC at hm
      unfold small
      simp only [decide_eq_true_eq] at hm
      apply decide_eq_false
      omega
    have hka : kindAt s p = 2 := by unfold kindAt; rw [hsm]; rfl
    have hst : stopAt s p = p + t.size := by unfold stopAt; rw [hsm, h1]; rfl
    rw [lexF_tok (by omega) (blank_of (.inr (by rw [h0]; exact hm))) (by rw [hka, hst, hext]; exact hk) hl, hka, hst, hext]

/-- t stands in s at p. -/
structure At (s : ByteArray) (p : Nat) (t : ByteArray) : Prop where
  le : p + t.size ≤ s.size
  eq : ∀ j, j < t.size → bt s (p + j) = bt t j
theorem At.left {s a b : ByteArray} {p : Nat} (h : At s p (a ++ b)) : At s p a := by
  have hs : (a ++ b).size = a.size + b.size := ByteArray.size_append
  exact ⟨by have := h.le; omega, fun j hj => by rw [h.eq j (by omega), bt_left hj]⟩
theorem At.right {s a b : ByteArray} {p : Nat} (h : At s p (a ++ b)) : At s (p + a.size) b := by
  have hs : (a ++ b).size = a.size + b.size := ByteArray.size_append
  exact ⟨by have := h.le; omega, fun j hj => by rw [Nat.add_assoc, h.eq (a.size + j) (by omega), bt_right]⟩
theorem At.self (s : ByteArray) : At s 0 s := ⟨by omega, fun j _ => by rw [Nat.zero_add]⟩
/-- A piece whose tokens are l, whatever stands behind it. -/
def Lc (t : ByteArray) (l : List Tok) : Prop := ∀ (s : ByteArray) (p : Nat) (acc : List Tok), At s p t → acc.length + l.length ≤ 500 → lexF s p acc = lexF s (p + t.size) (acc ++ l)
theorem Lc.app {a b : ByteArray} {la lb : List Tok} (ha : Lc a la) (hb : Lc b lb) : Lc (a ++ b) (la ++ lb) := by
  intro s p acc h hl
  rw [List.length_append] at hl
  rw [ha s p acc h.left (by omega), hb s (p + a.size) (acc ++ la) h.right (by rw [List.length_append]; omega), ByteArray.size_append, Nat.add_assoc, List.append_assoc]
theorem Lc.nil : Lc ⟨#[]⟩ [] := by
  intro s p acc _ _
  rw [List.append_nil]; rfl
theorem Lc.blank {c : UInt8} (h : blank (c.toNat : Int) = true) : Lc ⟨#[c]⟩ [] := by
  intro s p acc ha _
  have h1 : (⟨#[c]⟩ : ByteArray).size = 1 := rfl
  have h0 := ha.eq 0 (by omega)
  have hle := ha.le
  rw [Nat.add_zero] at h0
  rw [lexF_blank (by omega) (by rw [h0]; exact h), List.append_nil, h1]
theorem Lc.mark {c : UInt8} (h : tokOk 2 ⟨#[c]⟩ = true) : Lc ⟨#[c]⟩ [(2, ⟨#[c]⟩)] := by
  intro s p acc ha hl
  rw [List.length_singleton] at hl
  exact lex_tok h ha.eq ha.le (fun e => by cases e) (by omega)
/-- A name, and behind it a piece that does not go on with it. -/
theorem Lc.name {n b : ByteArray} {lb : List Tok} (hn : nameOk n = true) (hb : Lc b lb) (h0 : 0 < b.size) (hin : inName (bt b 0) = false) : Lc (n ++ b) ((1, n) :: lb) := by
  intro s p acc h hl
  rw [List.length_cons] at hl
  have hr := h.right
  have hat := hr.eq 0 h0
  rw [Nat.add_zero] at hat
  rw [lex_tok (kd := 1) hn h.left.eq h.left.le (fun _ => .inr (by rw [hat]; exact hin)) (by omega), hb s (p + n.size) (acc ++ [(1, n)]) hr (by rw [List.length_append, List.length_singleton]; omega), ByteArray.size_append, Nat.add_assoc, List.append_assoc]
  rfl
/-- A text that is such a piece has its tokens. -/
theorem Lc.lex {t : ByteArray} {l : List Tok} (h : Lc t l) (hl : l.length ≤ 500) : lexF t 0 [] = (l, -1) := by
  rw [h t 0 [] (At.self t) (by simpa using hl), lexF_end (by omega), List.nil_append]
end Go.Proofs.YtmibpdnlphdoaaaGreatDoor

