/-
  What is read of a text, plainly: the program's road and the model's come to one.
-/
import Derived.Test.YthjddmhcppdleaaDoorValSeen
namespace Go.Proofs.YthjddmhcppdleaaDoor
open Go.Lib

/-- What the program reads ahead of its looks. -/
def readV (l : List UInt8) : Option V × Bool :=
  if l = [110, 117, 108, 108] then (some .null, true)
  else if l = [110, 111] then (some (.bool false), true)
  else if l = [121, 101, 115] then (some (.bool true), true)
  else match l with
    | [] => (none, false)
    | c :: d =>
      if c = 105 then match atoiAll d with
        | .ok n => (some (.int n), true)
        | .«syntax» => (some (.int 0), false)
        | .range => (some (.int (atoiSat d)), false)
      else if c = 110 then match atoiAll d with
        | .ok n => (some (.num n), true)
        | .«syntax» => (some (.num 0), false)
        | .range => (some (.num (atoiSat d)), false)
      else if c = 39 ∧ d ≠ [] ∧ d.getLast? = some 39 then (some (.text (bytesOf d.dropLast)), true)
      else (none, false)

theorem bytes_data (s : ByteArray) : bytesOf s.data.toList = s := by
  obtain ⟨⟨l⟩⟩ := s
  rfl

theorem itoa_ne {n : Int} {c : UInt8} {r : List UInt8} (h1 : c ≠ 45) (h2 : ¬ isDig c) : itoa n ≠ c :: r := fun h => itoa_not h h1 h2

theorem read_txt {u : V} (hu : u.rng = true) (hne : u.txt ≠ []) : readV u.txt = (some u, true) := by
  have d117 : ¬ isDig 117 := by unfold isDig; decide
  have d111 : ¬ isDig 111 := by unfold isDig; decide
  cases u with
  | null => rfl
  | bool b => cases b <;> rfl
  | int n =>
    simp only [V.rng, Bool.and_eq_true, decide_eq_true_eq] at hu
    have := atoiAll_itoa (n := n) (by omega) (by omega)
    simp [readV, V.txt, this]
  | num n =>
    simp only [V.rng, Bool.and_eq_true, decide_eq_true_eq] at hu
    have := atoiAll_itoa (n := n) (by omega) (by omega)
    have e1 : itoa n ≠ [117, 108, 108] := itoa_ne (by decide) d117
    have e2 : itoa n ≠ [111] := itoa_ne (by decide) d111
    simp [readV, V.txt, this, e1, e2]
  | text s =>
    simp only [V.txt, quotedL] at hne ⊢
    by_cases hp : plainL s.data.toList = true
    · rw [if_pos hp]
      have e : bytesOf s.data.toList = s := bytes_data s
      simp [readV, e]
    · rw [if_neg hp] at hne
      exact absurd rfl hne

/-- Where the program's looks let it through. -/
theorem read_some {l : List UInt8} {v : V} (h : readV l = (some v, true)) (hv : v.rng = true) (ht : v.txt = l) : Parsed l v.k v.n v.s true := by
  rw [← ht]
  refine Parsed.some hv ?_
  intro e
  rw [← ht, e] at h
  cases h

theorem read_none {l : List UInt8} (h : ∀ v : V, readV l = (some v, true) → v.rng = true → v.txt ≠ l) : Parsed l 0 0 noBytes false := by
  refine Parsed.none fun u hu e => ?_
  by_cases hl : l = []
  · exact hl
  · subst e
    exact absurd rfl (h u (read_txt hu hl) hu)

/-! The model's number. -/

def p2body (neg : Bool) (r : List UInt8) : Int × Bool :=
  if r.length < 1 ∨ 16 < r.length then (0, false)
  else if r.head? = some 48 ∧ (1 < r.length ∨ neg = true) then (0, false)
  else match decFrom 0 r with
    | none => (0, false)
    | some n => (if neg then -(n : Int) else (n : Int), true)

def p2 (d : List UInt8) : Int × Bool :=
  match d with
  | 45 :: r => p2body true r
  | _ => p2body false d

theorem decFrom_lt : ∀ (l : List UInt8) (acc n k : Nat), acc < 10 ^ k → decFrom acc l = some n → n < 10 ^ (k + l.length)
  | [], acc, n, k, ha, h => by simp only [decFrom, Option.some.injEq] at h; subst h; simpa using ha
  | b :: r, acc, n, k, ha, h => by
    simp only [decFrom] at h
    cases hd : digitVal b with
    | none => rw [hd] at h; cases h
    | some d =>
      rw [hd] at h
      have hlt : d < 10 := by
        unfold digitVal at hd
        split at hd
        · rename_i h; cases hd; omega
        · cases hd
      have := decFrom_lt r (acc * 10 + d) n (k + 1) (by rw [Nat.pow_succ]; omega) h
      rw [List.length_cons]
      rw [show k + (r.length + 1) = k + 1 + r.length by omega]
      exact this

theorem p2body_true {neg : Bool} {r : List UInt8} {n : Int} (h : p2body neg r = (n, true)) : ∃ u : Nat, u < 10000000000000000 ∧ decDigits u = r ∧ n = (if neg then -(u : Int) else u) ∧ (neg = true → u ≠ 0) := by
  unfold p2body at h
  split at h
  · cases h
  · rename_i hl
    split at h
    · cases h
    · rename_i hz
      cases hd : decFrom 0 r with
      | none => rw [hd] at h; cases h
      | some u =>
        rw [hd] at h
        simp only [Prod.mk.injEq, and_true] at h
        cases r with
        | nil => simp at hl
        | cons c r =>
          have hlen : (c :: r).length ≤ 16 := by omega
          have hlt := decFrom_lt (c :: r) 0 u 0 (by simp) hd
          have hu : u < 10 ^ 16 := Nat.lt_of_lt_of_le hlt (Nat.pow_le_pow_right (by decide) (by omega))
          have hown : decDigits u = c :: r := decNat_own (by simp [decNat, hd]) (fun hc => by
            subst hc
            simp only [List.head?_cons, true_and, List.length_cons, not_or] at hz
            cases r with
            | nil => rfl
            | cons a b => simp at hz)
          refine ⟨u, by simpa using hu, hown, h.symm, fun hn h0 => ?_⟩
          subst h0
          rw [decDigits_one (by decide)] at hown
          have hc : c = 48 := by
            have := (List.cons.inj hown).1
            rw [← this]; rfl
          exact hz ⟨by rw [hc]; rfl, .inr hn⟩

theorem p2_true {d : List UInt8} {n : Int} (h : p2 d = (n, true)) : d = itoa n ∧ -10000000000000000 < n ∧ n < 10000000000000000 := by
  unfold p2 at h
  split at h
  · rename_i r
    obtain ⟨u, hu, e, rfl, h0⟩ := p2body_true h
    have := h0 rfl
    simp only [if_true]
    rw [itoa_min (by omega), ← e]
    refine ⟨?_, by omega, by omega⟩
    congr 2
    omega
  · obtain ⟨u, hu, e, rfl, _⟩ := p2body_true h
    simp only [Bool.false_eq_true, if_false]
    rw [itoa_pos (by omega), ← e]
    exact ⟨by simp, by omega, by omega⟩

theorem p2body_digits {neg : Bool} {u : Nat} (hu : u < 10000000000000000) (h0 : neg = true → u ≠ 0) : p2body neg (decDigits u) = (if neg then -(u : Int) else u, true) := by
  unfold p2body
  obtain ⟨c, r, e, hc⟩ := digits_head u
  have hl := digits_len hu
  rw [if_neg (by rw [e] at hl ⊢; simp only [List.length_cons] at hl ⊢; omega), if_neg, decFrom_digits]
  rintro ⟨h1, h2⟩
  rw [e] at h1
  simp only [List.head?_cons, Option.some.injEq] at h1
  subst h1
  by_cases h10 : u < 10
  · rw [decDigits_one h10] at e h2
    have hu0 : u = 0 := by
      have := congrArg UInt8.toNat (List.cons.inj e).1
      rw [UInt8.toNat_ofNat'] at this
      have e48 : (48 : UInt8).toNat = 48 := rfl
      omega
    rcases h2 with h2 | h2
    · simp at h2
    · exact h0 h2 hu0
  · -- the first digit of a number of two digits or more is no nought
    have key : ∀ v : Nat, v ≠ 0 → ∀ a b, decDigits v = a :: b → a ≠ 48 := by
      intro v
      induction v using Nat.strongRecOn with
      | _ v ih =>
        intro hv a b hab
        by_cases hv10 : v < 10
        · rw [decDigits_one hv10] at hab
          rintro rfl
          have := congrArg UInt8.toNat (List.cons.inj hab).1
          rw [UInt8.toNat_ofNat'] at this
          have e48 : (48 : UInt8).toNat = 48 := rfl
          omega
        · rw [decDigits, dif_neg hv10] at hab
          obtain ⟨a', b', e', _⟩ := digits_head (v / 10)
          rw [e'] at hab
          have := (List.cons.inj hab).1
          subst this
          exact ih (v / 10) (by omega) (by omega) _ _ e'
    exact key u (by omega) _ _ e rfl

theorem p2_itoa {n : Int} (h0 : -10000000000000000 < n) (h1 : n < 10000000000000000) : p2 (itoa n) = (n, true) := by
  by_cases hn : n < 0
  · rw [itoa_min hn]
    show p2body true (decDigits n.natAbs) = _
    rw [p2body_digits (by omega) (fun _ => by omega)]
    simp only [if_true, Prod.mk.injEq, and_true]
    omega
  · rw [itoa_pos (by omega)]
    obtain ⟨c, r, e, hc⟩ := digits_head n.toNat
    have : p2 (decDigits n.toNat) = p2body false (decDigits n.toNat) := by
      unfold p2
      split
      · rename_i r' hr
        rw [e] at hr
        have := (List.cons.inj hr).1
        subst this
        exact absurd hc.1 (by decide)
      · rfl
    rw [this, p2body_digits (by omega) (fun h => by cases h)]
    simp only [Bool.false_eq_true, if_false, Prod.mk.injEq, and_true]
    omega

/-- The model's reading, ahead of its look. -/
def readM (l : List UInt8) : Int × Int × ByteArray × Bool :=
  if l = [110, 117, 108, 108] then (0, 0, noBytes, true)
  else if l = [110, 111] then (4, 0, noBytes, true)
  else if l = [121, 101, 115] then (4, 1, noBytes, true)
  else if l.length < 2 then (0, 0, noBytes, false)
  else match l with
    | [] => (0, 0, noBytes, false)
    | c :: d =>
      if c = 39 then (3, 0, bytesOf d.dropLast, decide (d.getLast? = some 39) && plainL d.dropLast)
      else if c = 105 then (1, (p2 d).1, noBytes, (p2 d).2)
      else if c = 110 then (2, (p2 d).1, noBytes, (p2 d).2)
      else (0, 0, noBytes, false)

def finM (r : Int × Int × ByteArray × Bool) : Int × Int × ByteArray × Bool :=
  if r.2.2.2 && okF r.1 r.2.1 r.2.2.1 then (r.1, r.2.1, r.2.2.1, true) else (0, 0, noBytes, false)

theorem readM_txt {u : V} (hu : u.rng = true) (hne : u.txt ≠ []) : readM u.txt = (u.k, u.n, u.s, true) := by
  have d117 : ¬ isDig 117 := by unfold isDig; decide
  have d111 : ¬ isDig 111 := by unfold isDig; decide
  cases u with
  | null => rfl
  | bool b => cases b <;> rfl
  | int n =>
    simp only [V.rng, Bool.and_eq_true, decide_eq_true_eq] at hu
    have := p2_itoa (n := n) (by omega) (by omega)
    obtain ⟨c, r, e, _⟩ := itoa_head n
    have hl : ¬ (105 :: itoa n).length < 2 := by rw [e]; simp
    simp only [readM, V.txt, this, V.k, V.n, V.s]
    rw [if_neg (by simp), if_neg (by simp), if_neg (by simp), if_neg hl]
    simp
  | num n =>
    simp only [V.rng, Bool.and_eq_true, decide_eq_true_eq] at hu
    have := p2_itoa (n := n) (by omega) (by omega)
    have e1 : itoa n ≠ [117, 108, 108] := itoa_ne (by decide) d117
    have e2 : itoa n ≠ [111] := itoa_ne (by decide) d111
    obtain ⟨c, r, e, _⟩ := itoa_head n
    have hl : ¬ (110 :: itoa n).length < 2 := by rw [e]; simp
    simp only [readM, V.txt, this, V.k, V.n, V.s]
    rw [if_neg (by simp [e1]), if_neg (by simp [e2]), if_neg (by simp), if_neg hl]
    simp
  | text s =>
    simp only [V.txt, quotedL] at hne ⊢
    by_cases hp : plainL s.data.toList = true
    · rw [if_pos hp]
      have e : bytesOf s.data.toList = s := bytes_data s
      simp [readM, e, hp, V.k, V.n, V.s]
    · rw [if_neg hp] at hne
      exact absurd rfl hne

theorem textF_ok {k n : Int} {s : ByteArray} (ho : okF k n s = true) {v : V} (h : ofFields k n s = some v) : textF k n s = v.txt := by
  unfold textF
  rw [ho, h]
  rfl

theorem readM_own {l : List UInt8} {k n : Int} {s : ByteArray} (h : readM l = (k, n, s, true)) (ho : okF k n s = true) : textF k n s = l ∧ l ≠ [] := by
  unfold readM at h
  split at h
  · rename_i hl
    simp only [Prod.mk.injEq, and_true] at h
    obtain ⟨rfl, rfl, rfl⟩ := h
    subst hl
    exact ⟨textF_ok ho rfl, by simp⟩
  split at h
  · rename_i hl
    simp only [Prod.mk.injEq, and_true] at h
    obtain ⟨rfl, rfl, rfl⟩ := h
    subst hl
    exact ⟨textF_ok ho rfl, by simp⟩
  split at h
  · rename_i hl
    simp only [Prod.mk.injEq, and_true] at h
    obtain ⟨rfl, rfl, rfl⟩ := h
    subst hl
    exact ⟨textF_ok ho rfl, by simp⟩
  split at h
  · simp at h
  cases l with
  | nil => simp at h
  | cons c d =>
    simp only at h
    refine ⟨?_, by simp⟩
    split at h
    · rename_i hc
      subst hc
      simp only [Prod.mk.injEq, Bool.and_eq_true, decide_eq_true_eq] at h
      obtain ⟨rfl, rfl, rfl, hlast, hp⟩ := h
      rw [textF_ok ho (v := .text (bytesOf d.dropLast)) rfl]
      have e1 : (bytesOf d.dropLast).data.toList = d.dropLast := by simp [bytesOf]
      simp only [V.txt, quotedL]
      rw [e1, if_pos hp]
      congr 1
      obtain ⟨y, hy⟩ := List.getLast?_eq_some_iff.1 hlast
      rw [hy]
      simp
    · split at h
      · rename_i hc
        subst hc
        simp only [Prod.mk.injEq] at h
        obtain ⟨rfl, rfl, rfl, h2⟩ := h
        have := p2_true (d := d) (n := (p2 d).1) (by rw [← h2])
        rw [textF_ok ho (v := .int (p2 d).1) rfl]
        simp only [V.txt]
        rw [← this.1]
      · split at h
        · rename_i hc
          subst hc
          simp only [Prod.mk.injEq] at h
          obtain ⟨rfl, rfl, rfl, h2⟩ := h
          have := p2_true (d := d) (n := (p2 d).1) (by rw [← h2])
          rw [textF_ok ho (v := .num (p2 d).1) rfl]
          simp only [V.txt]
          rw [← this.1]
        · simp at h

/-- The model's reading is the one value that has the text. -/
theorem finM_parsed (l : List UInt8) : Parsed l (finM (readM l)).1 (finM (readM l)).2.1 (finM (readM l)).2.2.1 (finM (readM l)).2.2.2 := by
  by_cases h : ((readM l).2.2.2 && okF (readM l).1 (readM l).2.1 (readM l).2.2.1) = true
  · unfold finM
    rw [if_pos h]
    simp only [Bool.and_eq_true] at h
    have e : readM l = ((readM l).1, (readM l).2.1, (readM l).2.2.1, true) := by rw [← h.1]
    obtain ⟨h1, h2⟩ := readM_own e h.2
    exact .inl ⟨rfl, h.2, h1, h2⟩
  · unfold finM
    rw [if_neg h]
    refine Parsed.none fun u hu e => ?_
    by_cases hl : l = []
    · exact hl
    · exfalso
      subst e
      rw [readM_txt hu hl] at h
      exact h (by simp [okF_v, hu])

end Go.Proofs.YthjddmhcppdleaaDoor
