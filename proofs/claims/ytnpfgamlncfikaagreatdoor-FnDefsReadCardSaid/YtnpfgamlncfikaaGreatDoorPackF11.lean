/-
  Together: MarkIdx, MPlain, MDefPlain
-/
import Derived.Test.YtnpfgamlncfikaaGreatDoorPackF10
/-
  What the law's own helper markIndexS comes to.
-/
namespace Go.Proofs.YtnpfgamlncfikaaGreatDoor
open Go.RowKit
set_option maxRecDepth 4000

/-- Of what was there only blocks of S may have turned. -/
structure Fr (S : Nat → Prop) (w w' : World) : Prop where
  os : w'.os = w.os
  tape : w'.tape = w.tape
  output : w'.output = w.output
  size : w.heap.size ≤ w'.heap.size
  block : ∀ k, k < w.heap.size → ¬ S k → w'.heap[k]? = w.heap[k]?
theorem Fr.refl (S : Nat → Prop) (w : World) : Fr S w w := ⟨rfl, rfl, rfl, Nat.le_refl _, fun _ _ _ => rfl⟩
theorem Fr.trans {S : Nat → Prop} {a b c : World} (h : Fr S a b) (k : Fr S b c) : Fr S a c :=
  ⟨k.os.trans h.os, k.tape.trans h.tape, k.output.trans h.output, Nat.le_trans h.size k.size, fun i hi hs => (k.block i (Nat.lt_of_lt_of_le hi h.size) hs).trans (h.block i hi hs)⟩
theorem Fr.ofBut {S : Nat → Prop} {g : Nat} {w w' : World} (h : But g w w') (hg : S g) : Fr S w w' := ⟨h.os, h.tape, h.output, h.size, fun k hk hs => h.block k hk (fun e => hs (by rw [e]; exact hg))⟩
theorem Fr.ofBelow {S : Nat → Prop} {w w' : World} (h : Below w.heap.size w w') : Fr S w w' := ⟨h.os, h.tape, h.output, h.size, fun k hk _ => h.block k hk⟩
theorem Fr.mono {S S' : Nat → Prop} {w w' : World} (h : Fr S w w') (hs : ∀ k, S k → S' k) : Fr S' w w' := ⟨h.os, h.tape, h.output, h.size, fun k hk hn => h.block k hk (fun e => hn (hs k e))⟩
theorem own_fr {S : Nat → Prop} {W W' : World} {base T c N : Nat} {v : Value} {xs : List Value} (h : W.ownsRow base T c v N xs) (hf : Fr S W W') (hn : ∀ j, v.ownBlock = some j → ¬ S j) : W'.ownsRow base T c v N xs := by
  refine ⟨h.1, ?_⟩
  rcases h.2 with ⟨e, h0⟩ | ⟨g, k, cur, e, hb0, hg, hr⟩
  · exact .inl ⟨e, h0⟩
  · refine .inr ⟨g, k, cur, e, hb0, (hf.block g (Array.getElem?_eq_some_iff.1 hg).1 (hn g (by rw [e]; rfl))).trans hg, hr⟩
/-- Rows of different types lie in different blocks. -/
theorem own_ne {W : World} {b1 b2 T U c d N M : Nat} {v u : Value} {xs ys : List Value} (h : W.ownsRow b1 T c v N xs) (k : W.ownsRow b2 U d u M ys) (hT : T ≠ U) {i j : Nat} (hi : v.ownBlock = some i) (hj : u.ownBlock = some j) : i ≠ j := by
  rintro rfl
  rcases h.2 with ⟨rfl, _⟩ | ⟨g, cap, cur, rfl, _, hg, _⟩
  · simp [Value.ownBlock] at hi
  · rcases k.2 with ⟨rfl, _⟩ | ⟨g', cap', cur', rfl, _, hg', _⟩
    · simp [Value.ownBlock] at hj
    · obtain rfl : g = i := by simpa [Value.ownBlock] using hi
      obtain rfl : g' = g := by simpa [Value.ownBlock] using hj
      rw [hg] at hg'
      cases hg'
      exact hT rfl

/-- The count ahead of the i-th index. -/
def kI (f : Nat → PIdx) (k : Int) : Nat → Int
  | 0 => k
  | i + 1 => kI f k i + 1 + 1 + 2 * (f i).n
def mkdI (f : Nat → PIdx) (k : Int) (i : Nat) : PIdx := ⟨markT (kI f k i), mB (kI f k i + 1), (f i).n, mkdB (kI f k i + 1 + 1)⟩
theorem kI_le {f : Nat → PIdx} {k : Int} {n : Nat} (h : ∀ i, i < n → (f i).n ≤ 1000) : ∀ i, i ≤ n → k ≤ kI f k i ∧ kI f k i ≤ k + 2002 * i
  | 0, _ => by simp [kI]
  | i + 1, hi => by
    have ih := kI_le (k := k) h i (by omega)
    have := h i (by omega)
    rw [kI]
    push_cast
    omega
def cellI (f : Nat → PIdx) (A C : Nat → Nat) (i j : Nat) : Value := if j = 0 then .string (f i).name else if j = 1 then .bool (f i).uniq else .slice (some ⟨A i, 0, none⟩) (f i).n (C i)
theorem encI_F (f : Nat → PIdx) (A C : Nat → Nat) (i : Nat) : encI f A C i = encF 3 (cellI f A C) i := rfl

set_option maxHeartbeats 4000000 in
theorem markIndexS_own (base b n cap : Nat) (f : Nat → PIdx) (A C : Nat → Nat) (k : Int) (w : World) (hO : w.ownsRow base 73 3 (.slice (some ⟨b, 0, none⟩) n cap) n (rowG (encI f A C) n)) (hP : ∀ i, i < n → w.ownsRow base 70 2 (.slice (some ⟨A i, 0, none⟩) (f i).n (C i)) (f i).n (rowG (encB (f i).part) (f i).n)) (hdj : ∀ i j, i < j → j < n → A i ≠ A j) (hfew : ∀ i, i < n → (f i).n ≤ 1000) (hn : n ≤ 1000) (hk : 0 ≤ k) (hk1 : k ≤ 1000000000) :
    Calls Tryz.prog 53 #[.slice (some ⟨b, 0, none⟩) n cap, .int .i64 k] w fun e w' => e = .returned (.int .i64 (kI f k n)) ∧ Fr (fun q => q = b ∨ ∃ i, i < n ∧ q = A i) w w' ∧ w'.ownsRow base 73 3 (.slice (some ⟨b, 0, none⟩) n cap) n (rowG (encI (mkdI f k) A C) n) ∧ ∀ i, i < n → w'.ownsRow base 70 2 (.slice (some ⟨A i, 0, none⟩) (f i).n (C i)) (f i).n (rowG (encB (mkdI f k i).part) (f i).n) := by
  have hbA : ∀ i, i < n → b ≠ A i := fun i hi => own_ne hO (hP i hi) (by decide) (by simp [Value.ownBlock]) (by simp [Value.ownBlock])
  have hO' := (own_eqF (fun i _ => encI_F f A C i)).1 hO
  clear hO
  go_enter Tryz.func53, Tryz.ntmps53
  go_wp2
  go_loopg [1, 5] n (fun g s i wr => ∃ j : Nat, j ≤ n ∧ g = n - j ∧ s = .int .i64 (kI f k j) ∧ i = .int .i64 j ∧ Fr (fun q => q = b ∨ ∃ i, i < n ∧ q = A i) w wr ∧ wr.ownsRow base 73 3 (.slice (some ⟨b, 0, none⟩) n cap) n (rowG (encF 3 (fun i c => if i < j then cellI (mkdI f k) A C i c else cellI f A C i c)) n) ∧ (∀ i, i < n → wr.ownsRow base 70 2 (.slice (some ⟨A i, 0, none⟩) (f i).n (C i)) (f i).n (rowG (encB (if i < j then (mkdI f k i).part else (f i).part)) (f i).n)))
  case atStart => exact ⟨0, Nat.zero_le _, rfl, rfl, rfl, Fr.refl _ _, own_congrF hO' (fun i j _ _ => by simp), fun i hi => by simpa using hP i hi⟩
  case round =>
    clear hO' hP
    obtain ⟨j, hj, rfl, rfl, rfl, hF, hO, hP⟩ := hrel
    by_cases hlt : j < n
    · have hjz : (j : Int) < (n : Int) := by omega
      have hkj := kI_le (k := k) hfew j hj
      have hfj := hfew j hlt
      have HKN : Hid (kI f k (j + 1) = kI f k j + 1 + 1 + 2 * (f j).n) := rfl
      obtain ⟨K, hK⟩ : ∃ x, Hid (kI f k j = x) := ⟨_, rfl⟩
      have HMK : Hid (mkdI f k j = ⟨markT K, mB (K + 1), (f j).n, mkdB (K + 1 + 1)⟩) := by show _ = _; unfold mkdI; rw [hK.out]
      rw [hK.out] at hkj HKN ⊢
      have hMt := markText_any K wr (by omega)
      go_wp2_with fail
      refine hMt.mono ?_
      rintro e w2 ⟨rfl, hb⟩
      have hO2 := own_belowG9 hO hb
      have hF2 := hF.trans (Fr.ofBelow hb)
      have hP2 : ∀ i, i < n → w2.ownsRow base 70 2 (.slice (some ⟨A i, 0, none⟩) (f i).n (C i)) (f i).n (rowG (encB (if i < j then (mkdI f k i).part else (f i).part)) (f i).n) := fun i hi => own_belowG9 (hP i hi) hb
      have z0 := own_cellF hO2 hlt (show 0 < 3 by decide)
      have z1 := own_cellF hO2 hlt (show 1 < 3 by decide)
      have f0 := own_fz9 hO2 (j * 3)
      have f1 := own_fz9 hO2 (j * 3 + 1)
      simp only [Nat.lt_irrefl, if_false, Nat.add_zero] at z0 z1
      have S0 := own_setF hO2 (.string (markT K)) hlt (show 0 < 3 by decide)
      have S1 := own_setF S0 (.bool ((K + 1) % 3 == 0)) hlt (show 1 < 3 by decide)
      rw [Nat.add_zero] at S1
      obtain ⟨W3, hW3⟩ : ∃ W3, Hid ((w2.setCell ⟨b, j * 3, none⟩ (.string (markT K))).setCell ⟨b, j * 3 + 1, none⟩ (.bool ((K + 1) % 3 == 0)) = W3) := ⟨_, rfl⟩
      have z2 := own_cellF S1 hlt (show 2 < 3 by decide)
      have hbut : But b w2 ((w2.setCell ⟨b, j * 3, none⟩ (.string (markT K))).setCell ⟨b, j * 3 + 1, none⟩ (.bool ((K + 1) % 3 == 0))) := ((But.refl _ _).set _ _).set _ _
      rw [hW3.out] at S1 z2 hbut
      have hF3 := hF2.trans (Fr.ofBut hbut (.inl rfl))
      have hP3 : ∀ i, i < n → W3.ownsRow base 70 2 (.slice (some ⟨A i, 0, none⟩) (f i).n (C i)) (f i).n (rowG (encB (if i < j then (mkdI f k i).part else (f i).part)) (f i).n) := fun i hi => own_fr (S := fun q => q = b) (hP2 i hi) (Fr.ofBut hbut rfl) (fun q hq => by
        have : A i = q := by simpa [Value.ownBlock] using hq
        rw [← this]; exact fun e => hbA i hi e.symm)
      have z2' : W3.cell? ⟨b, j * 3 + 2, none⟩ = some (.slice (some ⟨A j, 0, none⟩) (f j).n (C j)) := by
        rw [z2]; simp [setF, cellI]
      have hPj := hP3 j hlt
      simp only [Nat.lt_irrefl, if_false] at hPj
      have hMb := markByS_own base (A j) (f j).n (C j) (f j).part (K + 1 + 1) W3 hPj (by omega) (by omega)
      have HK3 : Hid (Fr (fun q => q = b ∨ ∃ i, i < n ∧ q = A i) w W3 ∧ W3.ownsRow base 73 3 (.slice (some ⟨b, 0, none⟩) n cap) n (rowG (encF 3 (fun i c => if i < j + 1 then cellI (mkdI f k) A C i c else cellI f A C i c)) n) ∧ ∀ i, i < n → W3.ownsRow base 70 2 (.slice (some ⟨A i, 0, none⟩) (f i).n (C i)) (f i).n (rowG (encB (if i < j then (mkdI f k i).part else (f i).part)) (f i).n)) := by
        refine ⟨hF3, own_congrF S1 (fun i c hi hc => ?_), hP3⟩
        by_cases e : i = j
        · subst e
          have hc' : c = 0 ∨ c = 1 ∨ c = 2 := by omega
          rcases hc' with rfl | rfl | rfl <;> simp [setF, cellI, HMK.out, mB]
        · have h1 : (i < j + 1) = (i < j) := by simp; omega
          simp [setF, e, h1]
      obtain ⟨nj, hnj⟩ : ∃ x, Hid ((f j).n = x) := ⟨_, rfl⟩
      rw [hnj.out] at hMb z2' HKN hfj
      clear hMt hb hO hF hP hO2 hF2 hP2 S0 S1 z2 hbut hF3 hP3 hPj
      go_wp2_with (rw [hW3.out])
      refine hMb.mono ?_
      rintro e w4 ⟨rfl, hB4, hO4⟩
      have HR : Hid (Fr (fun q => q = b ∨ ∃ i, i < n ∧ q = A i) w w4 ∧ w4.ownsRow base 73 3 (.slice (some ⟨b, 0, none⟩) n cap) n (rowG (encF 3 (fun i c => if i < j + 1 then cellI (mkdI f k) A C i c else cellI f A C i c)) n) ∧ ∀ i, i < n → w4.ownsRow base 70 2 (.slice (some ⟨A i, 0, none⟩) (f i).n (C i)) (f i).n (rowG (encB (if i < j + 1 then (mkdI f k i).part else (f i).part)) (f i).n)) := by
        obtain ⟨q1, q2, q3⟩ := HK3.out
        refine ⟨q1.trans (Fr.ofBut hB4 (.inr ⟨j, hlt, rfl⟩)), own_fr (S := fun q => q = A j) q2 (Fr.ofBut hB4 rfl) (fun q hq => ?_), fun i hi => ?_⟩
        · have : b = q := by simpa [Value.ownBlock] using hq
          rw [← this]; exact hbA j hlt
        · by_cases e : i = j
          · subst e
            rw [if_pos (Nat.lt_succ_self _), HMK.out]
            show w4.ownsRow base _ 2 (.slice (some ⟨A i, 0, none⟩) (f i).n (C i)) (f i).n (rowG (encB (mkdB (K + 1 + 1))) (f i).n)
            rw [hnj.out]
            exact hO4
          · have h1 : (i < j + 1) = (i < j) := by simp; omega
            simp only [h1]
            refine own_fr (S := fun q => q = A j) (q3 i hi) (Fr.ofBut hB4 rfl) (fun q hq => ?_)
            have : A i = q := by simpa [Value.ownBlock] using hq
            rw [← this]
            intro e2
            by_cases e3 : i < j
            · exact hdj i j e3 hlt e2
            · exact hdj j i (by omega) hi e2.symm
      clear hMb hB4 hO4 HK3
      go_wp2
      go_roundg (n - (j + 1))
      case measure => omega
      case rel => exact ⟨j + 1, by omega, rfl, by rw [HKN.out], by go_num, HR.out.1, HR.out.2.1, HR.out.2.2⟩
    · obtain rfl : j = n := by omega
      have HR : Hid (Fr (fun q => q = b ∨ ∃ i, i < j ∧ q = A i) w wr ∧ wr.ownsRow base 73 3 (.slice (some ⟨b, 0, none⟩) j cap) j (rowG (encI (mkdI f k) A C) j) ∧ ∀ i, i < j → wr.ownsRow base 70 2 (.slice (some ⟨A i, 0, none⟩) (f i).n (C i)) (f i).n (rowG (encB (mkdI f k i).part) (f i).n)) := ⟨hF, (own_eqF (fun i _ => encI_F (mkdI f k) A C i)).2 (own_congrF hO (fun i c hi _ => by simp [hi])), fun i hi => by simpa [hi] using hP i hi⟩
      clear hO hF hP
      go_wp2
      go_ret
      exact ⟨rfl, HR.out.1, HR.out.2.1, HR.out.2.2⟩
set_option maxHeartbeats 1000000 in
theorem markIndexS_none (a : Option Addr) (cap : Nat) (k : Int) (w : World) : Calls Tryz.prog 53 #[.slice a 0 cap, .int .i64 k] w fun e w' => e = .returned (.int .i64 k) ∧ w' = w := by
  go_enter Tryz.func53, Tryz.ntmps53
  go_wp2
  go_loopg [1, 5] 0 (fun g s i wr => g = 0 ∧ s = .int .i64 k ∧ i = .int .i64 0 ∧ wr = w)
  case atStart => exact ⟨rfl, rfl, rfl, rfl⟩
  case round =>
    obtain ⟨rfl, rfl, rfl, rfl⟩ := hrel
    go_wp2
    go_ret
    exact ⟨rfl, rfl⟩
end Go.Proofs.YtnpfgamlncfikaaGreatDoor

/-
  The model's loops over tokens, plainly: what each round keeps.
-/
namespace Go.Proofs.YtnpfgamlncfikaaGreatDoor
open Go.RowKit
set_option maxRecDepth 4000

def nameO : Option (List Tok) → ByteArray × Option (List Tok)
  | none => (⟨#[]⟩, none)
  | some l => match nameR l with
    | none => (⟨#[]⟩, none)
    | some (n, r) => (n, some r)
theorem nameO_is (st : Option (List Tok)) : st.bind nameR = (nameO st).2.map (fun r => ((nameO st).1, r)) := by
  cases st with
  | none => rfl
  | some l =>
    show nameR l = _
    unfold nameO
    cases h : nameR l with
    | none => simp [h]
    | some x => simp [h]
theorem isR_len (s : ByteArray) (l : List Tok) : (isR s l).2.length ≤ l.length := by
  cases l with
  | nil => exact Nat.le_refl _
  | cons t r =>
    show (if t.2 = s then (true, r) else (false, t :: r)).2.length ≤ _
    split
    · exact Nat.le_succ _
    · exact Nat.le_refl _
theorem isR_hit_len {s : ByteArray} {l : List Tok} (h : (isR s l).1 = true) : (isR s l).2.length < l.length := by
  obtain ⟨k, e⟩ := isR_true (s := s) (l := l) (r := (isR s l).2) (by rw [← h])
  have := congrArg List.length e
  simp only [List.length_cons] at this
  omega
/-- What parts come to, from a round of the loop on. -/
def InvP (cs : List PCol) (T : Option (List PBy × List Tok)) (ag : Bool) (acc : List PBy) : Option (List Tok) → Prop
  | none => T = none
  | some l => if ag then ∃ q, l.length < q ∧ T = (partsR cs q l).map (fun x => (acc ++ x.1, x.2)) else T = (mustR ⟨#[59]⟩ l).map (fun l' => (acc, l'))
/-- How much is left. -/
def mP (ag : Bool) (st : Option (List Tok)) : Nat := if ag then (st.elim 0 List.length) + 1 else 0
def cntP {α : Type} (K : Nat) (acc : List α) : Option (List Tok) → Prop
  | none => acc.length ≤ K + 1
  | some l => acc.length + l.length ≤ K
theorem cntP.le {α : Type} {K : Nat} {acc : List α} {st : Option (List Tok)} (h : cntP K acc st) : acc.length ≤ K + 1 := by
  cases st with
  | none => exact h
  | some l => have : acc.length + l.length ≤ K := h; omega
theorem invP_step {cs : List PCol} {T : Option (List PBy × List Tok)} {acc : List PBy} {l : List Tok} (h : InvP cs T true acc (some l)) {K : Nat} (hc : cntP K acc (some l)) :
    InvP cs T (isO ⟨#[44]⟩ (isO kDesc (nameO (some l)).2).2).1 (acc ++ [⟨colAt (fun i => cs.getD i ⟨⟨#[]⟩, 0, false⟩) cs.length (nameO (some l)).1, (isO kDesc (nameO (some l)).2).1⟩]) (isO ⟨#[44]⟩ (isO kDesc (nameO (some l)).2).2).2
    ∧ mP (isO ⟨#[44]⟩ (isO kDesc (nameO (some l)).2).2).1 (isO ⟨#[44]⟩ (isO kDesc (nameO (some l)).2).2).2 < mP true (some l)
    ∧ cntP K (acc ++ [(⟨colAt (fun i => cs.getD i ⟨⟨#[]⟩, 0, false⟩) cs.length (nameO (some l)).1, (isO kDesc (nameO (some l)).2).1⟩ : PBy)]) (isO ⟨#[44]⟩ (isO kDesc (nameO (some l)).2).2).2 := by
  have hc' : acc.length + l.length ≤ K := hc
  obtain ⟨q, hq, e⟩ : ∃ q, l.length < q ∧ T = (partsR cs q l).map (fun x => (acc ++ x.1, x.2)) := h
  obtain ⟨q', rfl⟩ : ∃ q', q = q' + 1 := ⟨q - 1, by omega⟩
  rw [partsR] at e
  cases hn : nameR l with
  | none =>
    rw [hn] at e
    have hN : nameO (some l) = (⟨#[]⟩, none) := by simp only [nameO, hn]
    rw [hN]
    refine ⟨e, ?_, ?_⟩
    · simp [mP, isO]
    · show (acc ++ [_]).length ≤ K + 1
      rw [List.length_append, List.length_singleton]; omega
  | some x =>
    obtain ⟨n, l1⟩ := x
    rw [hn] at e
    have hN : nameO (some l) = (n, some l1) := by simp only [nameO, hn]
    rw [hN]
    have hl : l.length = l1.length + 1 := by rw [nameR_some hn, List.length_cons]
    simp only [Option.bind_eq_bind, Option.bind_some] at e
    simp only [isO]
    have hlen := isR_len kDesc l1
    cases hb : (isR ⟨#[44]⟩ (isR kDesc l1).2).1 with
    | true =>
      rw [hb, if_pos rfl] at e
      have h3 := isR_hit_len hb
      refine ⟨⟨q', by omega, ?_⟩, ?_, ?_⟩
      · rw [e]
        cases partsR cs q' (isR ⟨#[44]⟩ (isR kDesc l1).2).2 with
        | none => rfl
        | some y => simp
      · simp only [mP, Option.elim, if_true]; omega
      · show (acc ++ [_]).length + _ ≤ K
        rw [List.length_append, List.length_singleton]; omega
    | false =>
      rw [hb, if_neg (by simp)] at e
      have h3 := isR_false (s := ⟨#[44]⟩) (l := (isR kDesc l1).2) (r := (isR ⟨#[44]⟩ (isR kDesc l1).2).2) (by rw [← hb])
      rw [h3]
      refine ⟨?_, ?_, ?_⟩
      · show T = (mustR ⟨#[59]⟩ (isR kDesc l1).2).map _
        rw [e]
        cases mustR ⟨#[59]⟩ (isR kDesc l1).2 with
        | none => rfl
        | some y => simp
      · simp [mP]
      · show (acc ++ [_]).length + _ ≤ K
        rw [List.length_append, List.length_singleton]; omega
theorem invP_end {cs : List PCol} {T : Option (List PBy × List Tok)} {acc : List PBy} {ag : Bool} {st : Option (List Tok)} (h : InvP cs T ag acc st) (he : ag = false ∨ st = none) : T = (mustO ⟨#[59]⟩ st).map (fun r => (acc, r)) := by
  cases st with
  | none => exact h
  | some l =>
    rcases he with rfl | e
    · have h' : T = (mustR ⟨#[59]⟩ l).map (fun l' => (acc, l')) := by simpa [InvP] using h
      exact h'
    · cases e
theorem invP_start (cs : List PCol) (st : Option (List Tok)) : InvP cs (st.bind (fun l => partsR cs (l.length + 1) l)) true [] st := by
  cases st with
  | none => rfl
  | some l =>
    refine ⟨l.length + 1, Nat.lt_succ_self _, ?_⟩
    show partsR cs (l.length + 1) l = _
    cases partsR cs (l.length + 1) l with
    | none => rfl
    | some y => rfl
theorem mkBy_snoc (acc : List PBy) (x : PBy) : mkBy (acc ++ [x]) = upd (mkBy acc) acc.length x := by
  funext i
  unfold mkBy upd
  by_cases h : i = acc.length
  · subst h; simp [List.getD]
  · rw [if_neg h]
    by_cases h2 : i < acc.length
    · simp [List.getD, List.getElem?_append_left h2]
    · simp [List.getD, List.getElem?_eq_none (show acc.length ≤ i by omega), List.getElem?_eq_none (show (acc ++ [x]).length ≤ i by simp; omega)]
theorem mkCol_snoc (acc : List PCol) (x : PCol) : mkCol (acc ++ [x]) = upd (mkCol acc) acc.length x := by
  funext i
  unfold mkCol upd
  by_cases h : i = acc.length
  · subst h; simp [List.getD]
  · rw [if_neg h]
    by_cases h2 : i < acc.length
    · simp [List.getD, List.getElem?_append_left h2]
    · simp [List.getD, List.getElem?_eq_none (show acc.length ≤ i by omega), List.getElem?_eq_none (show (acc ++ [x]).length ≤ i by simp; omega)]
theorem mkIdx_snoc (acc : List (ByteArray × Bool × List PBy)) (x : ByteArray × Bool × List PBy) : mkIdx (acc ++ [x]) = upd (mkIdx acc) acc.length ⟨x.1, x.2.1, x.2.2.length, mkBy x.2.2⟩ := by
  funext i
  unfold mkIdx upd
  by_cases h : i = acc.length
  · subst h; simp [List.getD]
  · rw [if_neg h]
    by_cases h2 : i < acc.length
    · simp [List.getD, List.getElem?_append_left h2]
    · simp [List.getD, List.getElem?_eq_none (show acc.length ≤ i by omega), List.getElem?_eq_none (show (acc ++ [x]).length ≤ i by simp; omega)]
/-- The world grows by a row of its own. -/
theorem But.grownOwn {g : Nat} {w W W' : World} {row : Option Nat} (h : But g w W) (hg : W.grownBy W' row) (ho : ∀ j, row = some j → w.heap.size ≤ j) : But g w W' :=
  ⟨hg.os.trans h.os, hg.tape.trans h.tape, hg.output.trans h.output, Nat.le_trans h.size hg.size, fun k hk hne => (hg.block k (Nat.lt_of_lt_of_le hk h.size) (fun e => by have := ho k e.symm; omega)).trans (h.block k hk hne)⟩
theorem MR.grown {g : Nat} {S : Src} {st : Option (List Tok)} {W W' : World} {row : Option Nat} (h : MR g S st W) (hg : W.grownBy W' row) (h1 : row ≠ some g) (h2 : row ≠ some S.tb) : MR g S st W' :=
  h.kept hg.size (hg.block g h.glt (fun e => h1 e.symm)) (hg.block _ h.lt (fun e => h2 e.symm))
theorem V4.grown {B : Nat} {T : TypeId} {x0 x1 x2 x3 : Value} {W W' : World} {row : Option Nat} (h : V4 W B T x0 x1 x2 x3) (hg : W.grownBy W' row) (h1 : row ≠ some B) : V4 W' B T x0 x1 x2 x3 := h.block (hg.block B h.lt (fun e => h1 e.symm))
theorem V3.grown {B : Nat} {T : TypeId} {x0 x1 x2 : Value} {W W' : World} {row : Option Nat} (h : V3 W B T x0 x1 x2) (hg : W.grownBy W' row) (h1 : row ≠ some B) : V3 W' B T x0 x1 x2 := h.block (hg.block B h.lt (fun e => h1 e.symm))
end Go.Proofs.YtnpfgamlncfikaaGreatDoor

/-
  The model's loops over columns and indexes, plainly.
-/
namespace Go.Proofs.YtnpfgamlncfikaaGreatDoor
open Go.RowKit
set_option maxRecDepth 4000

/-- What columns come to, from a round of the loop on. -/
def InvC (T : Option (List PCol × List Tok)) (acc : List PCol) : Option (List Tok) → Prop
  | none => T = none
  | some l => ∃ q, l.length < q ∧ T = (colsR q l).map (fun x => (acc ++ x.1, x.2))
theorem invC_start (st : Option (List Tok)) : InvC (st.bind (fun l => colsR (l.length + 1) l)) [] st := by
  cases st with
  | none => rfl
  | some l =>
    refine ⟨l.length + 1, Nat.lt_succ_self _, ?_⟩
    show colsR (l.length + 1) l = _
    cases colsR (l.length + 1) l with
    | none => rfl
    | some y => rfl
theorem mustR_len {s : ByteArray} {l r : List Tok} (h : mustR s l = some r) : r.length < l.length := by
  have e := mustR_some h
  have h1 : (isR s l).1 = true := by rw [e]
  have := isR_hit_len h1
  rw [e] at this
  exact this
theorem nameR_len {l r : List Tok} {n : ByteArray} (h : nameR l = some (n, r)) : r.length < l.length := by
  rw [nameR_some h, List.length_cons]; omega
theorem typeR_len (l : List Tok) : (typeR l).2.length ≤ l.length := by
  unfold typeR
  split
  · exact isR_len _ _
  split
  · exact isR_len _ _
  split
  · exact isR_len _ _
  split
  · exact isR_len _ _
  · exact Nat.le_refl _
theorem colR_len {l r : List Tok} {c : PCol} (h : colR l = some (c, r)) : r.length < l.length := by
  unfold colR at h
  simp only [Option.bind_eq_bind, Option.bind_eq_some_iff, Prod.exists] at h
  obtain ⟨n, l1, hn, l4, h4, he⟩ := h
  simp only [Option.pure_def, Option.some.injEq, Prod.mk.injEq] at he
  obtain ⟨-, rfl⟩ := he
  have h1 := nameR_len hn
  have h2 := mustR_len h4
  have h3 := isR_len kNull (typeR l1).2
  have h5 := typeR_len l1
  omega
theorem partsR_len {cs : List PCol} : ∀ (q : Nat) (l r : List Tok) (ps : List PBy), partsR cs q l = some (ps, r) → r.length < l.length
  | 0, _, _, _, h => by simp [partsR] at h
  | q + 1, l, r, ps, h => by
    rw [partsR] at h
    simp only [Option.bind_eq_bind, Option.bind_eq_some_iff, Prod.exists] at h
    obtain ⟨n, l1, hn, h⟩ := h
    have h1 := nameR_len hn
    have h2 := isR_len kDesc l1
    split at h
    · simp only [Option.bind_eq_some_iff, Prod.exists, Option.pure_def, Option.some.injEq, Prod.mk.injEq] at h
      obtain ⟨rs, l4, hr, -, rfl⟩ := h
      have h3 := partsR_len q _ _ _ hr
      have h4 := isR_len ⟨#[44]⟩ (isR kDesc l1).2
      omega
    · simp only [Option.bind_eq_some_iff, Option.pure_def, Option.some.injEq, Prod.mk.injEq] at h
      obtain ⟨l4, h4, -, rfl⟩ := h
      have h3 := mustR_len h4
      omega
theorem invC_end {T : Option (List PCol × List Tok)} {acc : List PCol} {l : List Tok} (h : InvC T acc (some l)) (he : (isR kPrimary l).1 = true) : T = some (acc, (isR kPrimary l).2) := by
  obtain ⟨q, hq, e⟩ : ∃ q, l.length < q ∧ T = (colsR q l).map (fun x => (acc ++ x.1, x.2)) := h
  obtain ⟨q', rfl⟩ : ∃ q', q = q' + 1 := ⟨q - 1, by omega⟩
  rw [e, colsR, if_pos he]
  simp
theorem invC_step {T : Option (List PCol × List Tok)} {acc : List PCol} {l : List Tok} (h : InvC T acc (some l)) (he : (isR kPrimary l).1 = false) {c : PCol} {st' : Option (List Tok)} (hc : colR l = st'.map (fun r => (c, r))) {K : Nat} (hk : cntP K acc (some l)) :
    InvC T (acc ++ [c]) st' ∧ st'.elim 0 (fun l => l.length + 1) < l.length + 1 ∧ cntP K (acc ++ [c]) st' := by
  have hk' : acc.length + l.length ≤ K := hk
  obtain ⟨q, hq, e⟩ : ∃ q, l.length < q ∧ T = (colsR q l).map (fun x => (acc ++ x.1, x.2)) := h
  obtain ⟨q', rfl⟩ : ∃ q', q = q' + 1 := ⟨q - 1, by omega⟩
  rw [colsR, if_neg (by rw [he]; simp), hc] at e
  cases st' with
  | none =>
    refine ⟨e, by simp, ?_⟩
    show (acc ++ [c]).length ≤ K + 1
    rw [List.length_append, List.length_singleton]; omega
  | some r =>
    have hl := colR_len (c := c) (r := r) hc
    refine ⟨⟨q', by omega, ?_⟩, by simp only [Option.elim]; omega, ?_⟩
    · rw [e]
      simp only [Option.map_some, Option.bind_eq_bind, Option.bind_some]
      cases colsR q' r with
      | none => rfl
      | some y => simp
    · show (acc ++ [c]).length + r.length ≤ K
      rw [List.length_append, List.length_singleton]; omega
/-- What indexes come to, from a round of the loop on. -/
def InvI (cs : List PCol) (T : Option (List (ByteArray × Bool × List PBy) × List Tok)) (acc : List (ByteArray × Bool × List PBy)) : Option (List Tok) → Prop
  | none => T = none
  | some l => ∃ q, l.length < q ∧ T = (idxsR cs q l).map (fun x => (acc ++ x.1, x.2))
theorem invI_start (cs : List PCol) (st : Option (List Tok)) : InvI cs (st.bind (fun l => idxsR cs (l.length + 1) l)) [] st := by
  cases st with
  | none => rfl
  | some l =>
    refine ⟨l.length + 1, Nat.lt_succ_self _, ?_⟩
    show idxsR cs (l.length + 1) l = _
    cases idxsR cs (l.length + 1) l with
    | none => rfl
    | some y => rfl
theorem invI_end {cs : List PCol} {T : Option (List (ByteArray × Bool × List PBy) × List Tok)} {acc : List (ByteArray × Bool × List PBy)} {l : List Tok} (h : InvI cs T acc (some l)) (he : (isR ⟨#[125]⟩ l).1 = true) : T = some (acc, (isR ⟨#[125]⟩ l).2) := by
  obtain ⟨q, hq, e⟩ : ∃ q, l.length < q ∧ T = (idxsR cs q l).map (fun x => (acc ++ x.1, x.2)) := h
  obtain ⟨q', rfl⟩ : ∃ q', q = q' + 1 := ⟨q - 1, by omega⟩
  rw [e, idxsR, if_pos he]
  simp
/-- The state behind the word of an index. -/
def idxWO (st : Option (List Tok)) : Option (List Tok) := if (isO kUnique st).1 then (isO kUnique st).2 else mustO kIndex (isO kUnique st).2
theorem invI_step {cs : List PCol} {T : Option (List (ByteArray × Bool × List PBy) × List Tok)} {acc : List (ByteArray × Bool × List PBy)} {l : List Tok} (h : InvI cs T acc (some l)) (he : (isR ⟨#[125]⟩ l).1 = false) {ps : List PBy} {st' : Option (List Tok)}
    (hc : (nameO (idxWO (some l))).2.bind (fun l => partsR cs (l.length + 1) l) = st'.map (fun r => (ps, r))) {K : Nat} (hk : cntP K acc (some l)) :
    InvI cs T (acc ++ [((nameO (idxWO (some l))).1, (isO kUnique (some l)).1, ps)]) st' ∧ st'.elim 0 (fun l => l.length + 1) < l.length + 1 ∧ cntP K (acc ++ [((nameO (idxWO (some l))).1, (isO kUnique (some l)).1, ps)]) st' := by
  have hk' : acc.length + l.length ≤ K := hk
  obtain ⟨q, hq, e⟩ : ∃ q, l.length < q ∧ T = (idxsR cs q l).map (fun x => (acc ++ x.1, x.2)) := h
  obtain ⟨q', rfl⟩ : ∃ q', q = q' + 1 := ⟨q - 1, by omega⟩
  rw [idxsR, if_neg (by rw [he]; simp)] at e
  have e : T = Option.map (fun x => (acc ++ x.1, x.2)) ((idxW (isR kUnique l).1 (isR kUnique l).2).bind fun l2 => (nameR l2).bind fun p => (partsR cs (p.2.length + 1) p.2).bind fun y => (idxsR cs q' y.2).bind fun z => some ((p.1, (isR kUnique l).1, y.1) :: z.1, z.2)) := e
  have hW : idxWO (some l) = idxW (isR kUnique l).1 (isR kUnique l).2 := rfl
  have hL := isR_len kUnique l
  have hbad : ∀ x, T = none → st' = none → InvI cs T (acc ++ [x]) st' ∧ st'.elim 0 (fun l => l.length + 1) < l.length + 1 ∧ cntP K (acc ++ [x]) st' := by
    rintro x rfl rfl
    refine ⟨rfl, by simp, ?_⟩
    show (acc ++ [x]).length ≤ K + 1
    rw [List.length_append, List.length_singleton]; omega
  cases h2 : idxW (isR kUnique l).1 (isR kUnique l).2 with
  | none =>
    rw [hW, h2] at hc ⊢
    rw [h2] at e
    refine hbad _ e ?_
    have hc' : none = st'.map (fun r => (ps, r)) := hc
    cases st' with
    | none => rfl
    | some r => cases hc'
  | some l2 =>
    rw [hW, h2] at hc ⊢
    rw [h2] at e
    simp only [Option.bind_some] at e
    have hl2 : l2.length ≤ l.length := by
      unfold idxW at h2
      split at h2
      · cases h2; exact hL
      · have := mustR_len h2; omega
    cases h3 : nameR l2 with
    | none =>
      have hN : nameO (some l2) = (⟨#[]⟩, none) := by simp only [nameO, h3]
      rw [hN] at hc ⊢
      rw [h3] at e
      refine hbad _ e ?_
      have hc' : none = st'.map (fun r => (ps, r)) := hc
      cases st' with
      | none => rfl
      | some r => cases hc'
    | some x =>
      obtain ⟨n, l3⟩ := x
      have hN : nameO (some l2) = (n, some l3) := by simp only [nameO, h3]
      rw [hN] at hc ⊢
      rw [h3] at e
      have hl3 := nameR_len h3
      have hc' : partsR cs (l3.length + 1) l3 = st'.map (fun r => (ps, r)) := hc
      simp only [Option.bind_some] at e
      rw [hc'] at e
      cases st' with
      | none => exact hbad _ e rfl
      | some r =>
        have hl4 := partsR_len _ _ _ _ (show partsR cs (l3.length + 1) l3 = some (ps, r) from hc')
        refine ⟨⟨q', by omega, ?_⟩, by simp only [Option.elim]; omega, ?_⟩
        · rw [e]
          simp only [Option.map_some, Option.bind_some]
          cases idxsR cs q' r with
          | none => rfl
          | some y => simp [isO]
        · show (acc ++ [_]).length + r.length ≤ K
          rw [List.length_append, List.length_singleton]; omega
end Go.Proofs.YtnpfgamlncfikaaGreatDoor

