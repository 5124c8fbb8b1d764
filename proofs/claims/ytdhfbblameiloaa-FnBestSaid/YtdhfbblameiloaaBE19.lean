/-
  Together: MetaPlain, MetaOkW, NumsL, OView, NodeNums, TwoNums, MetaPut, Stored2, MetaBox, MetaDrawL
-/
import Derived.Test.YtdhfbblameiloaaBE15
import Derived.Test.YtdhfbblameiloaaBE18
import Derived.Test.YtdhfbblameiloaaBE13
import Derived.Test.YtdhfbblameiloaaBE6
import Derived.Test.YtdhfbblameiloaaProg
import Derived.Test.YtdhfbblameiloaaBE1
import Derived.Test.YtdhfbblameiloaaBE4
/-
  Roots, plainly: what is put, what is read; they come to each other.
-/
namespace Go.Proofs.Ytdhfbblameiloaa
open Go.RowKit
set_option maxRecDepth 4000

/-- A root that is right; its body; its page, or nothing. -/
def metaOk (g r : Int) : Bool := decide (0 ≤ g ∧ g ≤ 1000000) && decide (r = 0 ∨ 2 ≤ r ∧ r ≤ 47)
def metaB (g r : Int) : List Int := groups g ++ groups r
def metaF (g r : Int) : List Int := if metaOk g r = true then pageL 2 (strOfNums (metaB g r)) else []
theorem metaOk_iff {g r : Int} : metaOk g r = true ↔ (0 ≤ g ∧ g ≤ 1000000) ∧ (r = 0 ∨ 2 ≤ r ∧ r ≤ 47) := by
  unfold metaOk; rw [Bool.and_eq_true, decide_eq_true_eq, decide_eq_true_eq]
theorem metaB_len (g r : Int) : (metaB g r).length = (groups g).length + (groups r).length := by unfold metaB; rw [List.length_append]
theorem metaB_few (g r : Int) : 2 ≤ (metaB g r).length ∧ (metaB g r).length ≤ 6 := by
  have h1 := groups_len g
  have h2 := groups_len r
  rw [metaB_len]; omega
theorem metaB_byte {g r : Int} (h : metaOk g r = true) : ∀ y ∈ metaB g r, 0 ≤ y ∧ y ≤ 255 := by
  have h' := metaOk_iff.1 h
  intro y hy
  unfold metaB at hy
  rcases List.mem_append.1 hy with k | k
  · exact groups_byte g (by omega) (by omega) y k
  · exact groups_byte r (by omega) (by omega) y k
theorem metaF_byte (g r : Int) : ∀ y ∈ metaF g r, 0 ≤ y ∧ y ≤ 255 := by
  unfold metaF
  split
  · refine pageL_byte (by omega) ?_
    rw [str_size]; have := metaB_few g r; omega
  · intro y hy; simp at hy
theorem metaF_page {g r : Int} (h : metaOk g r = true) : pageF 2 (strOfNums (metaB g r)) = metaF g r := by
  unfold pageF metaF
  rw [if_pos h, if_pos ⟨by omega, by rw [str_size]; have := metaB_few g r; omega⟩]
theorem metaF_len (g r : Int) : (metaF g r).length ≤ 16 := by
  unfold metaF
  split
  · rw [pageL_len, innL_len, str_size]
    have := metaB_few g r
    have := (groups_len 2).2
    have : (groups ((metaB g r).length : Int)).length = 1 := by rw [groups_last _ (by omega)]; rfl
    omega
  · simp

/-- What is read as a root. -/
def getMe (n : Nat) (f : Nat → Int) : Int × Int × Bool :=
  let p := getPg n f
  let F : Nat → Int := fun i => (sl p.2.1).getD i 0
  let a := getU p.2.1.size F 0
  let b := getU p.2.1.size F a.2.1
  if p.2.2 = true ∧ a.2.2 = true ∧ b.2.2 = true ∧ p.1 = 2 ∧ b.2.1 = (p.2.1.size : Int) ∧ metaOk a.1 b.1 = true then (a.1, b.1, true) else (0, 0, false)
theorem getMe_is {n : Nat} {f : Nat → Int} {k g q r e : Int} {s : ByteArray} {ok told led : Bool} (hp : getPg n f = (k, s, ok)) (ha : getU s.size (fun i => (sl s).getD i 0) 0 = (g, q, told)) (hb : getU s.size (fun i => (sl s).getD i 0) q = (r, e, led)) :
    getMe n f = if ok = true ∧ told = true ∧ led = true ∧ k = 2 ∧ e = (s.size : Int) ∧ metaOk g r = true then (g, r, true) else (0, 0, false) := by
  unfold getMe
  simp only [hp, ha, hb]
/-- The two numbers stand in the body. -/
theorem meta_inner {g q r e : Int} {s : ByteArray} (ha : getU s.size (fun i => (sl s).getD i 0) 0 = (g, q, true)) (hb : getU s.size (fun i => (sl s).getD i 0) q = (r, e, true)) :
    AtF s.size (fun i => (sl s).getD i 0) 0 (metaB g r) ∧ e = ((metaB g r).length : Int) ∧ (0 ≤ g ∧ g ≤ 1000000) ∧ (0 ≤ r ∧ r ≤ 1000000) := by
  have hf : ∀ i, i < s.size → 0 ≤ (sl s).getD i 0 ∧ (sl s).getD i 0 ≤ 255 := by
    have := bytes_of_list (sl_byte s)
    rwa [sl_len] at this
  obtain ⟨i, e0, hA, hq, hk0, hk1⟩ := getU_read hf ha
  obtain rfl : i = 0 := by omega
  obtain ⟨j, e1, hB, hr, hs0, hs1⟩ := getU_read hf hb
  obtain rfl : j = (groups g).length := by omega
  refine ⟨hA.append (by rw [Nat.zero_add]; exact hB), ?_, ⟨hk0, hk1⟩, ⟨hs0, hs1⟩⟩
  rw [hr, metaB_len]
  push_cast
  omega
/-- What was read as two numbers in a page has the page's bytes just if it is a root's. -/
theorem meta_iff {n : Nat} {f : Nat → Int} {k g q r e : Int} {s : ByteArray} (hf : ∀ i, i < n → 0 ≤ f i ∧ f i ≤ 255) (hp : getPg n f = (k, s, true)) (ha : getU s.size (fun i => (sl s).getD i 0) 0 = (g, q, true)) (hb : getU s.size (fun i => (sl s).getD i 0) q = (r, e, true)) :
    metaF g r = lof n f ↔ (k = 2 ∧ e = (s.size : Int) ∧ metaOk g r = true) := by
  obtain ⟨hA, he, hg, hr⟩ := meta_inner ha hb
  obtain ⟨hk, hs, hL⟩ := getPg_read hf hp
  have hl : (sl s).length = s.size := sl_len s
  constructor
  · intro h
    unfold metaF at h
    split at h
    · rename_i hok
      have hfew := metaB_few g r
      have h6 : (strOfNums (metaB g r)).size ≤ 240 := by rw [str_size]; omega
      have hn : (pageL 2 (strOfNums (metaB g r))).length = n := by rw [h, lof_len]
      have hG := getPg_put (k := 2) (s := strOfNums (metaB g r)) (f := f) (by omega) h6 (fun i hi => by rw [h, lof_get _ _ _ (by omega)])
      rw [hn, hp] at hG
      simp only [Prod.mk.injEq, and_true] at hG
      obtain ⟨rfl, rfl⟩ := hG
      exact ⟨rfl, by rw [he, str_size], hok⟩
    · have hc := congrArg List.length (hL.trans h.symm)
      rw [pageL_len] at hc
      simp at hc
  · rintro ⟨rfl, hes, hok⟩
    unfold metaF
    rw [if_pos hok, ← hL]
    congr 1
    have : metaB g r = sl s := by
      rw [← hA.lof]
      have hlen : (metaB g r).length = (sl s).length := by omega
      rw [hlen]
      simp only [Nat.zero_add]
      exact lof_self (sl s)
    rw [this, strOfNums_sl]
theorem getMe_none {n : Nat} {f : Nat → Int} (h : (getMe n f).2.2 = false) : getMe n f = (0, 0, false) := by
  unfold getMe at h ⊢
  simp only at h ⊢
  split at h
  · cases h
  · rw [if_neg (by assumption)]
/-- What was read as a root is one, and has these bytes. -/
theorem getMe_read {n : Nat} {f : Nat → Int} {g r : Int} (hf : ∀ i, i < n → 0 ≤ f i ∧ f i ≤ 255) (h : getMe n f = (g, r, true)) : metaOk g r = true ∧ metaF g r = lof n f := by
  obtain ⟨⟨k, s, ok⟩, hp⟩ : ∃ x, getPg n f = x := ⟨_, rfl⟩
  obtain ⟨⟨a, q, told⟩, ha⟩ : ∃ x, getU s.size (fun i => (sl s).getD i 0) 0 = x := ⟨_, rfl⟩
  obtain ⟨⟨b, e, led⟩, hb⟩ : ∃ x, getU s.size (fun i => (sl s).getD i 0) q = x := ⟨_, rfl⟩
  rw [getMe_is hp ha hb] at h
  split at h
  · rename_i hc
    obtain ⟨rfl, rfl, rfl, h1, h2, h3⟩ := hc
    simp only [Prod.mk.injEq, and_true] at h
    obtain ⟨rfl, rfl⟩ := h
    exact ⟨h3, (meta_iff hf hp ha hb).2 ⟨h1, h2, h3⟩⟩
  · cases h
/-- A root comes back. -/
theorem getMe_put {g r : Int} {f : Nat → Int} (hok : metaOk g r = true) (hf : ∀ i, i < (metaF g r).length → f i = (metaF g r).getD i 0) : getMe (metaF g r).length f = (g, r, true) := by
  have h' := metaOk_iff.1 hok
  have hm : metaF g r = pageL 2 (strOfNums (metaB g r)) := by unfold metaF; rw [if_pos hok]
  rw [hm] at hf ⊢
  have hfew := metaB_few g r
  have hp := getPg_put (k := 2) (s := strOfNums (metaB g r)) (f := f) (by omega) (by rw [str_size]; omega) hf
  have hsl := sl_strOfNums (metaB_byte hok)
  have hA : AtF (strOfNums (metaB g r)).size (fun i => (sl (strOfNums (metaB g r))).getD i 0) 0 (metaB g r) := by
    rw [hsl, str_size]
    exact ⟨by omega, fun j hj => by rw [Nat.zero_add]⟩
  have e1 := getU_at (x := g) (by omega) (by omega) (AtF.left (L := groups g) (K := groups r) hA)
  have hB := AtF.right (L := groups g) (K := groups r) hA
  have e2 := getU_at (x := r) (by omega) (by omega) hB
  rw [show ((0 : Nat) : Int) = 0 from rfl, Int.zero_add] at e1
  rw [Nat.zero_add] at e2
  rw [getMe_is hp e1 e2, if_pos ⟨rfl, rfl, rfl, rfl, by rw [str_size, metaB_len]; push_cast; rfl, hok⟩]
/-- What is cut is no root. -/
theorem meta_cut {g r : Int} {f : Nat → Int} {j : Nat} (hok : metaOk g r = true) (hf : ∀ i, i < (metaF g r).length → f i = (metaF g r).getD i 0) (hj : j < (metaF g r).length) : getMe j f = (0, 0, false) := by
  have hm : metaF g r = pageL 2 (strOfNums (metaB g r)) := by unfold metaF; rw [if_pos hok]
  rw [hm] at hf hj
  have hfew := metaB_few g r
  have hp := page_cut (k := 2) (s := strOfNums (metaB g r)) (f := f) (by omega) (by rw [str_size]; omega) hf hj
  unfold getMe
  simp [hp]
end Go.Proofs.Ytdhfbblameiloaa

/-
  The program's MetaOk and the model's.
-/
namespace Go.Proofs.Ytdhfbblameiloaa
open Go.RowKit
set_option maxRecDepth 4000

set_option maxHeartbeats 1000000 in
theorem insideI_any (x m : Int) (w : World) : Calls Try.prog 85 #[.int .i64 x, .int .i64 m] w fun e w' => e = .returned (.bool (decide (0 ≤ x ∧ x ≤ m))) ∧ w = w' := by
  go_enter Try.func85, Try.ntmps85
  by_cases h : 0 ≤ x
  · have e1 : decide (0 ≤ x) = true := by simpa using h
    go_wp2
    go_ret
    exact ⟨by simp [h], rfl⟩
  · have e1 : decide (0 ≤ x) = false := by simpa using h
    go_wp2
    go_ret
    exact ⟨by simp, rfl⟩
set_option maxHeartbeats 1000000 in
theorem noTree_any (x : Int) (w : World) : Calls Try.prog 137 #[.int .i64 x] w fun e w' => e = .returned (.bool (!decide (2 ≤ x ∧ x ≤ 47))) ∧ w = w' := by
  go_enter Try.func137, Try.ntmps137
  by_cases h : x < 2
  · have e1 : decide (x < 2) = true := by simpa using h
    go_wp2
    go_ret
    exact ⟨by simp; omega, rfl⟩
  · have e1 : decide (x < 2) = false := by simpa using h
    by_cases h2 : 48 ≤ x
    · go_wp2
      go_ret
      exact ⟨by simp; omega, rfl⟩
    · go_wp2
      go_ret
      exact ⟨by simp; omega, rfl⟩

set_option maxHeartbeats 1000000 in
theorem implMetaOk_any (g r : Int) (w : World) :
    Calls Try.prog 134 #[.agg #[.int .i64 g, .int .i64 r]] w fun e w' => e = .returned (.bool (metaOk g r)) ∧ Below w.heap.size w w' := by
  have hB : Below w.heap.size w (w.alloc (.cells #[.int .i64 g, .int .i64 r] 64)) := (Below.refl _ _).alloc (Nat.le_refl _) _
  have hI := fun W => insideI_any g 1000000 W
  have hT := fun W => noTree_any r W
  by_cases h1 : 0 ≤ g ∧ g ≤ 1000000
  · rw [show decide (0 ≤ g ∧ g ≤ 1000000) = true by simpa using h1] at hI
    by_cases h2 : r = 0
    · have e : metaOk g r = true := metaOk_iff.2 ⟨h1, .inl h2⟩
      have e2 : (r == 0) = true := by simpa using h2
      rw [e]
      clear h1 h2 e hT
      go_enter Try.func134, Try.ntmps134
      go_wp2_with fail
      refine (hI _).mono ?_
      rintro e _ ⟨rfl, rfl⟩
      go_wp2
      go_ret
      exact ⟨rfl, hB⟩
    · have e2 : (r == 0) = false := beq_eq_false_iff_ne.2 h2
      by_cases h3 : 2 ≤ r ∧ r ≤ 47
      · have e : metaOk g r = true := metaOk_iff.2 ⟨h1, .inr h3⟩
        rw [show decide (2 ≤ r ∧ r ≤ 47) = true by simpa using h3] at hT
        rw [e]
        clear h1 h2 h3 e
        go_enter Try.func134, Try.ntmps134
        go_wp2_with fail
        refine (hI _).mono ?_
        rintro e _ ⟨rfl, rfl⟩
        go_wp2_with fail
        refine (hT _).mono ?_
        rintro e _ ⟨rfl, rfl⟩
        go_wp2
        go_ret
        exact ⟨rfl, hB⟩
      · have e : metaOk g r = false := by
          cases hq : metaOk g r with
          | false => rfl
          | true => exact absurd (metaOk_iff.1 hq).2 (by omega)
        rw [show decide (2 ≤ r ∧ r ≤ 47) = false by simpa using h3] at hT
        rw [e]
        clear h1 h2 h3 e
        go_enter Try.func134, Try.ntmps134
        go_wp2_with fail
        refine (hI _).mono ?_
        rintro e _ ⟨rfl, rfl⟩
        go_wp2_with fail
        refine (hT _).mono ?_
        rintro e _ ⟨rfl, rfl⟩
        go_wp2
        go_ret
        exact ⟨rfl, hB⟩
  · have e : metaOk g r = false := by
      cases hq : metaOk g r with
      | false => rfl
      | true => exact absurd (metaOk_iff.1 hq).1 h1
    rw [show decide (0 ≤ g ∧ g ≤ 1000000) = false by simpa using h1] at hI
    rw [e]
    clear h1 e hT
    go_enter Try.func134, Try.ntmps134
    go_wp2_with fail
    refine (hI _).mono ?_
    rintro e _ ⟨rfl, rfl⟩
    go_wp2
    go_ret
    exact ⟨rfl, hB⟩

set_option maxHeartbeats 1000000 in
theorem specMetaOk_any (g r : Int) (w : World) :
    Calls Try.prog 133 #[.agg #[.int .i64 g, .int .i64 r]] w fun e w' => e = .returned (.bool (metaOk g r)) ∧ Below w.heap.size w w' := by
  have hB : Below w.heap.size w (w.alloc (.cells #[.int .i64 g, .int .i64 r] 64)) := (Below.refl _ _).alloc (Nat.le_refl _) _
  have hI := fun W => l1In_any g 0 1000000 W
  have hT := fun W => l1In_any r 2 47 W
  by_cases h1 : 0 ≤ g ∧ g ≤ 1000000
  · rw [show (decide (0 ≤ g) && decide (g ≤ 1000000)) = true by simpa using h1] at hI
    by_cases h2 : r = 0
    · have e : metaOk g r = true := metaOk_iff.2 ⟨h1, .inl h2⟩
      have e2 : (r == 0) = true := by simpa using h2
      rw [e]
      clear h1 h2 e hT
      go_enter Try.func133, Try.ntmps133
      go_wp2_with fail
      refine (hI _).mono ?_
      rintro e _ ⟨rfl, rfl⟩
      go_wp2
      go_ret
      exact ⟨rfl, hB⟩
    · have e2 : (r == 0) = false := beq_eq_false_iff_ne.2 h2
      have e : metaOk g r = (decide (2 ≤ r) && decide (r ≤ 47)) := by
        cases hq : metaOk g r with
        | false =>
          symm
          rw [Bool.and_eq_false_iff, decide_eq_false_iff_not, decide_eq_false_iff_not]
          by_cases h5 : 2 ≤ r
          · by_cases h6 : r ≤ 47
            · have := metaOk_iff.2 ⟨h1, .inr ⟨h5, h6⟩⟩
              rw [hq] at this
              cases this
            · exact .inr h6
          · exact .inl h5
        | true =>
          have h7 := (metaOk_iff.1 hq).2
          symm
          rw [Bool.and_eq_true, decide_eq_true_eq, decide_eq_true_eq]
          omega
      obtain ⟨q, hq⟩ : ∃ q, Hid ((decide (2 ≤ r) && decide (r ≤ 47)) = q) := ⟨_, rfl⟩
      rw [hq.out] at hT e
      rw [e]
      clear h1 h2 e hq
      go_enter Try.func133, Try.ntmps133
      go_wp2_with fail
      refine (hI _).mono ?_
      rintro e _ ⟨rfl, rfl⟩
      go_wp2_with fail
      refine (hT _).mono ?_
      rintro e _ ⟨rfl, rfl⟩
      go_wp2
      go_ret
      exact ⟨rfl, hB⟩
  · have e : metaOk g r = false := by
      cases hq : metaOk g r with
      | false => rfl
      | true => exact absurd (metaOk_iff.1 hq).1 h1
    rw [show (decide (0 ≤ g) && decide (g ≤ 1000000)) = false by rw [Bool.and_eq_false_iff, decide_eq_false_iff_not, decide_eq_false_iff_not]; omega] at hI
    rw [e]
    clear h1 e hT
    go_enter Try.func133, Try.ntmps133
    go_wp2_with fail
    refine (hI _).mono ?_
    rintro e _ ⟨rfl, rfl⟩
    go_wp2
    go_ret
    exact ⟨rfl, hB⟩
end Go.Proofs.Ytdhfbblameiloaa

/-
  Numbers as bytes, one behind the other; rows of bytes that an answer owns, by a list.
-/
namespace Go.Proofs.Ytdhfbblameiloaa
open Go.RowKit
set_option maxRecDepth 4000

/-- The groups of the first k numbers, one behind the other. -/
def numL (g : Nat → Int) : Nat → List Int
  | 0 => []
  | k + 1 => numL g k ++ groups (clampN (g k))
theorem numL_len (g : Nat → Int) : ∀ k, (numL g k).length ≤ 3 * k
  | 0 => by simp [numL]
  | k + 1 => by have := numL_len g k; have := (groups_len (clampN (g k))).2; simp only [numL, List.length_append]; omega
theorem numL_byte (g : Nat → Int) : ∀ k, ∀ y ∈ numL g k, 0 ≤ y ∧ y ≤ 255
  | 0 => by simp [numL]
  | k + 1 => by
    intro y hy
    rw [numL, List.mem_append] at hy
    rcases hy with hy | hy
    · exact numL_byte g k y hy
    · exact groups_byte _ (clampN_bd _).1 (clampN_bd _).2 y hy
/-- Bytes of the call's own, by a list. -/
def BR (w : World) (B : Nat) (v : Value) (L : List Int) : Prop :=
  ∃ g c, v = .slice (some ⟨g, 0, none⟩) L.length c ∧ B ≤ g ∧ L.length ≤ c ∧ Row 5 w g L.length (fun i => L.getD i 0)
theorem BR.below {w w' : World} {B : Nat} {v : Value} {L : List Int} (h : BR w B v L) (hb : Below w.heap.size w w') : BR w' B v L := by
  obtain ⟨g, c, e, hB, hc, hr⟩ := h
  exact ⟨g, c, e, hB, hc, hr.belowAll hb⟩
theorem BR.mono {w : World} {B B' : Nat} {v : Value} {L : List Int} (h : BR w B v L) (hB : B' ≤ B) : BR w B' v L := by
  obtain ⟨g, c, e, h1, hc, hr⟩ := h
  exact ⟨g, c, e, Nat.le_trans hB h1, hc, hr⟩
theorem getD_byteN {L : List Int} (h : ∀ y ∈ L, 0 ≤ y ∧ y ≤ 255) : ∀ i, i < L.length → 0 ≤ L.getD i 0 ∧ L.getD i 0 ≤ 255 := fun i hi => by
  have := h _ (List.getElem_mem hi)
  simpa [hi] using this
theorem BR.view {w : World} {B : Nat} {v : Value} {L : List Int} (h : BR w B v L) (hy : ∀ y ∈ L, 0 ≤ y ∧ y ≤ 255) : ∃ g c, v = .slice (some ⟨g, 0, none⟩) L.length c ∧ View w (some ⟨g, 0, none⟩) L.length c (fun i => L.getD i 0) := by
  obtain ⟨g, c, e, -, hc, hr⟩ := h
  exact ⟨g, c, e, hr.view hc (getD_byteN hy)⟩
end Go.Proofs.Ytdhfbblameiloaa

/-
  Rows of one cell each that read, texts and numbers.
-/
namespace Go.Proofs.Ytdhfbblameiloaa
open Go.RowKit
set_option maxRecDepth 4000

/-- The slice value '.slice ao n cap' reads as the n values f 0 up to f (n - 1), of one cell each. -/
structure OV (w : World) (ao : Option Addr) (n cap : Nat) (f : Nat → Value) : Prop where
  le : n ≤ cap
  cells : 0 < n → ∃ b off, ao = some ⟨b, off, none⟩ ∧ b < w.heap.size ∧ ∀ i, i < n → w.cell? ⟨b, off + i, none⟩ = some (f i)
theorem OV.below {w w' : World} {ao : Option Addr} {n cap : Nat} {f : Nat → Value} (h : OV w ao n cap f) (hb : Below w.heap.size w w') : OV w' ao n cap f := by
  refine ⟨h.le, fun hn => ?_⟩
  obtain ⟨b, off, e, hlt, hc⟩ := h.cells hn
  refine ⟨b, off, e, Nat.lt_of_lt_of_le hlt hb.size, fun i hi => ?_⟩
  rw [hb.cell (p := ⟨b, off + i, none⟩) hlt]
  exact hc i hi
theorem OV.set {w : World} {a n c B : Nat} {f : Nat → Value} (h : OV w (some ⟨a, 0, none⟩) n c f) (hne : a ≠ B) (i : Nat) (u : Value) : OV (w.setCell ⟨B, i, none⟩ u) (some ⟨a, 0, none⟩) n c f := by
  refine ⟨h.le, fun hn => ?_⟩
  obtain ⟨b, off, e, hlt, hc⟩ := h.cells hn
  have hba : b = a := by cases e; rfl
  refine ⟨b, off, e, by simpa using hlt, fun j hj => ?_⟩
  rw [World.cell?_of_block (w := w) (a := ⟨b, off + j, none⟩) (Below.heap_setCell _ _ _ _ (by rw [hba]; exact hne))]
  exact hc j hj
theorem OV.ofIs {w : World} {b : Nat} {t : TypeId} {n cap : Nat} {f : Nat → Value} (h : w.rowIs b t n f) (hc : n ≤ cap) : OV w (some ⟨b, 0, none⟩) n cap f :=
  ⟨hc, fun _ => ⟨b, 0, rfl, h.lt, fun i hi => by rw [Nat.zero_add]; exact h.cell hi⟩⟩
abbrev TxV (w : World) (ao : Option Addr) (n cap : Nat) (f : Nat → ByteArray) : Prop := OV w ao n cap (fun i => .string (f i))
abbrev NuV (w : World) (ao : Option Addr) (n cap : Nat) (f : Nat → Int) : Prop := OV w ao n cap (fun i => .int .i64 (f i))
theorem txv_at {w : World} {ao : Option Addr} {n cap : Nat} {f : Nat → ByteArray} (h : TxV w ao n cap f) {k : Nat} (hk : k < n) : ∃ b off, ao = some ⟨b, off, none⟩ ∧ b < w.heap.size ∧ w.cell? ⟨b, off + k, none⟩ = some (.string (f k)) := by
  obtain ⟨b, off, e, hlt, hc⟩ := h.cells (by omega)
  exact ⟨b, off, e, hlt, hc k hk⟩
theorem nuv_at {w : World} {ao : Option Addr} {n cap : Nat} {f : Nat → Int} (h : NuV w ao n cap f) {k : Nat} (hk : k < n) : ∃ b off, ao = some ⟨b, off, none⟩ ∧ b < w.heap.size ∧ w.cell? ⟨b, off + k, none⟩ = some (.int .i64 (f k)) := by
  obtain ⟨b, off, e, hlt, hc⟩ := h.cells (by omega)
  exact ⟨b, off, e, hlt, hc k hk⟩
end Go.Proofs.Ytdhfbblameiloaa

/-
  The program's putNumbers at as many numbers as there are: what was there, and behind it their groups.
-/
namespace Go.Proofs.Ytdhfbblameiloaa
open Go.RowKit
set_option maxRecDepth 4000

/-- Bytes of the call's own, maybe none, read. -/
theorem view_own_opt {w : World} {base : Nat} {v : Value} {L : List Int} (h : w.ownsRow base 5 1 v L.length (bl L)) (hy : ∀ y ∈ L, 0 ≤ y ∧ y ≤ 255) : ∃ a c, v = .slice a L.length c ∧ (a = none → L.length = 0 ∧ c = 0) ∧ View w a L.length c (fun i => L.getD i 0) := by
  by_cases hv : v = .slice none 0 0
  · have hl : L.length = 0 := by
      obtain ⟨hl, h⟩ := h
      rcases h with ⟨_, h0⟩ | ⟨g, k, cur, e, _⟩
      · exact h0
      · rw [hv] at e; cases e
    refine ⟨none, 0, by rw [hv, hl], fun _ => ⟨hl, rfl⟩, ⟨by omega, fun i hi => by omega, fun hn => by omega⟩⟩
  · obtain ⟨g, c, e, -, hgc, hr⟩ := row_of_own' h hv
    exact ⟨_, c, e, (fun e => by cases e), hr.view hgc (getD_byteN hy)⟩

set_option maxHeartbeats 2000000 in
theorem putNums_many (ai : Option Addr) (L0 : List Int) (cap : Nat) (a : Option Addr) (m c : Nat) (g : Nat → Int) (w : World) (hv : View w ai L0.length cap (fun i => L0.getD i 0)) (hni : ai = none → L0.length = 0 ∧ cap = 0) (hn : L0.length ≤ 35184372088832) (hm : NuV w a m c g) (hm1 : m ≤ 1048577) :
    Calls Try.prog 132 #[.slice ai L0.length cap, .slice a m c] w fun e w' => ∃ v, e = .returned v ∧ BR w' w.heap.size v (L0 ++ numL g m) ∧ Below w.heap.size w w' := by
  obtain ⟨i0, hi, hz0, hz1, hz2⟩ := info_parts Try.info5
  go_enter Try.func132, Try.ntmps132
  go_wp2
  go_loopg [5, 11] m (fun q v i wr => ∃ k : Nat, k ≤ m ∧ q = m - k ∧ i = .int .i64 k ∧ wr.ownsRow w.heap.size 5 1 v (numL g k).length (bl (numL g k)) ∧ Below w.heap.size w wr)
  case atStart => exact ⟨0, Nat.zero_le _, rfl, rfl, World.ownsRow_nil _ _ _ _, Below.refl _ _⟩
  case round =>
    obtain ⟨k, hk, rfl, rfl, hown, hB⟩ := hrel
    by_cases hlt : k < m
    · obtain ⟨b1, o1, rfl, hb1, x0⟩ := nuv_at (hm.below hB) hlt
      have hkz : (k : Int) < (m : Int) := by omega
      have hgl := groups_len (clampN (g k))
      have hkl := numL_len g k
      have HNX : Hid (numL g (k + 1) = numL g k ++ groups (clampN (g k))) := rfl
      obtain ⟨x, hx⟩ : ∃ x, Hid (g k = x) := ⟨_, rfl⟩
      obtain ⟨Q, hQ⟩ : ∃ Q, Hid (numL g k = Q) := ⟨_, rfl⟩
      rw [hx.out] at x0 HNX hgl
      rw [hQ.out] at hown hkl HNX
      have HV : Hid (View w ai L0.length cap (fun i => L0.getD i 0)) := hv
      have HM : Hid (NuV w (some ⟨b1, o1, none⟩) m c g) := hm
      have HB : Hid (Below w.heap.size w wr) := hB
      clear hv hm hB
      go_wp2
      all_goals
        go_loopg [5, 8] (clampN x).toNat (fun gg v s wq => ∃ (y : Int) (ys : List Int), s = .int .i64 y ∧ 0 ≤ y ∧ y ≤ 1000000 ∧ gg = y.toNat ∧ groups (clampN x) = ys ++ groups y ∧ wq.ownsRow w.heap.size 5 1 v (Q ++ ys).length (bl (Q ++ ys)) ∧ Below w.heap.size w wq)
        case atStart => exact ⟨clampN x, [], congrArg (Value.int .i64) (by unfold clampN; split <;> (try split) <;> omega), (clampN_bd x).1, (clampN_bd x).2, rfl, rfl, by rw [List.append_nil]; exact hown, HB.out⟩
        case round =>
          clear hown HB
          obtain ⟨y, ys, rfl, hy0, hy1, rfl, hgr, hown, hB⟩ := hrel
          have HG : Hid (groups (clampN x) = ys ++ groups y) := hgr
          have hlen : (Q ++ ys).length ≤ 3 * k + 3 := by have := hgl; rw [hgr] at this; simp at this ⊢; have := groups_len y; omega
          clear hgr
          by_cases hlt2 : y < 128
          · go_wp2_with (first | (at_builtin; go_must (refine wpList_append_own _ rfl (.tmp 29) (.tmp 32) 27 rfl w.heap.size 5 i0 (.int .u8 0) 1 1 Try.underlying27 hi hz0 hz1 hz2 rfl (by decide) _ _ _ rfl (hown.alloc _) ⟨wr.heap.size, 0, none⟩ 1 1 [.int .u8 y] rfl rfl (cellNew _ _ _) (bl_one [y]) (by unfold maxLen; omega) (by omega) (by have := hB.size; simp; omega) ?_); intro v2 w2 hown2 hgr2 _))
            have hB2 : Below w.heap.size w w2 := (hB.alloc hB.size _).grown hgr2 (by have := hB.size; simp; omega) (fun k hk => (hown.lt k hk).1)
            have hO2 : w2.ownsRow w.heap.size 5 1 v2 (numL g (k + 1)).length (bl (numL g (k + 1))) := by
              rw [HNX.out, HG.out, groups_last y hlt2, ← List.append_assoc, List.length_append, bl_append]
              exact hown2
            clear hgr2 hown hown2 hB
            go_wp2
            go_roundg (m - (k + 1))
            case measure => omega
            case rel => exact ⟨k + 1, by omega, rfl, by go_num, hO2, hB2⟩
          · have hG2 : Hid (groups (clampN x) = (ys ++ [y % 128 + 128]) ++ groups (y / 128)) := by
              have := HG.out
              rw [groups_step y (by omega) hy1] at this
              rw [List.append_assoc]; exact this
            go_wp2_with (at_builtin; go_must (refine wpList_append_own _ rfl (.tmp 20) (.tmp 25) 27 rfl w.heap.size 5 i0 (.int .u8 0) 1 1 Try.underlying27 hi hz0 hz1 hz2 rfl (by decide) _ _ _ rfl (hown.alloc _) ⟨wr.heap.size, 0, none⟩ 1 1 [.int .u8 (y % 128 + 128)] rfl rfl (cellNew _ _ _) (bl_one [y % 128 + 128]) (by unfold maxLen; omega) (by omega) (by have := hB.size; simp; omega) ?_); intro v2 w2 hown2 hgr2 _)
            have hB2 : Below w.heap.size w w2 := (hB.alloc hB.size _).grown hgr2 (by have := hB.size; simp; omega) (fun k hk => (hown.lt k hk).1)
            have hO2 : w2.ownsRow w.heap.size 5 1 v2 (Q ++ (ys ++ [y % 128 + 128])).length (bl (Q ++ (ys ++ [y % 128 + 128]))) := by
              rw [← List.append_assoc, List.length_append, bl_append]
              exact hown2
            clear hgr2 hown hown2 hB
            go_wp2
            go_roundg ((y / 128).toNat)
            case measure => omega
            case rel => exact ⟨y / 128, ys ++ [y % 128 + 128], rfl, by omega, by omega, rfl, hG2.out, hO2, hB2⟩
    · obtain rfl : k = m := by omega
      have hkz : ¬ (k : Int) < (k : Int) := by omega
      have hkl := numL_len g k
      obtain ⟨a2, c2, rfl, hno, hV2⟩ := view_own_opt hown (numL_byte g k)
      have hP := putBytes_opt ai L0.length cap (fun i => L0.getD i 0) a2 (numL g k).length c2 (fun i => (numL g k).getD i 0) wr (hv.below hB) hni hV2 hno (by omega)
      have HB : Hid (Below w.heap.size w wr) := hB
      clear hm hv hown hB hV2
      go_wp2_with fail
      refine hP.mono ?_
      rintro e w3 ⟨rfl, hown3, hb3⟩
      have HO : Hid (BR w3 w.heap.size (.slice (some ⟨wr.heap.size, 0, none⟩) (L0.length + (numL g k).length) (L0.length + (numL g k).length)) (L0 ++ numL g k) ∧ Below w.heap.size w w3) := by
        have hbw := HB.out
        rw [lof_self, lof_self] at hown3
        have hr := row_of_owned hown3
        exact ⟨⟨wr.heap.size, _, by rw [List.length_append], hbw.size, by rw [List.length_append]; exact Nat.le_refl _, by rw [List.length_append]; exact hr⟩, hbw.trans (hb3.mono hbw.size)⟩
      clear hown3 hb3 hP
      go_wp2
      go_ret
      exact ⟨_, rfl, HO.out.1, HO.out.2⟩
end Go.Proofs.Ytdhfbblameiloaa

/-
  Rows of one number, and of two.
-/
namespace Go.Proofs.Ytdhfbblameiloaa
open Go.RowKit
set_option maxRecDepth 4000

theorem nuv_one (w : World) (x : Int) (T : TypeId) : NuV (w.alloc (.cells #[.int .i64 x] T)) (some ⟨w.heap.size, 0, none⟩) 1 1 (fun _ => x) :=
  ⟨Nat.le_refl _, fun _ => ⟨w.heap.size, 0, rfl, by simp, fun i hi => by
    obtain rfl : i = 0 := by omega
    simp⟩⟩
def two (x y : Int) (i : Nat) : Int := if i = 0 then x else y
theorem nuv_two (w : World) (x y : Int) (T : TypeId) : NuV (w.alloc (.cells #[.int .i64 x, .int .i64 y] T)) (some ⟨w.heap.size, 0, none⟩) 2 2 (two x y) :=
  ⟨Nat.le_refl _, fun _ => ⟨w.heap.size, 0, rfl, by simp, fun i hi => by
    have : i = 0 ∨ i = 1 := by omega
    rcases this with rfl | rfl
    · simp [two]
    · simp [two, go_sem]⟩⟩
theorem numL_two (x y : Int) : numL (two x y) 2 = groups (clampN x) ++ groups (clampN y) := by simp [numL, two]
end Go.Proofs.Ytdhfbblameiloaa

/-
  The program's PutMeta and the model's.
-/
namespace Go.Proofs.Ytdhfbblameiloaa
open Go.RowKit
set_option maxRecDepth 4000

theorem clamp_meta {g r : Int} (h : metaOk g r = true) : clampN g = g ∧ clampN r = r := by
  have h' := metaOk_iff.1 h
  exact ⟨clamp_id (by omega) (by omega), clamp_id (by omega) (by omega)⟩
theorem metaF_no {g r : Int} (h : metaOk g r = false) : metaF g r = [] := by unfold metaF; rw [if_neg (by rw [h]; simp)]
set_option maxHeartbeats 1000000 in
theorem implPutMeta_any (g r : Int) (w : World) :
    Calls Try.prog 112 #[.agg #[.int .i64 g, .int .i64 r]] w (PageTo w (metaF g r)) := by
  have hB : Below w.heap.size w (w.alloc (.cells #[.int .i64 g, .int .i64 r] 64)) := (Below.refl _ _).alloc (Nat.le_refl _) _
  have hO := fun W => implMetaOk_any g r W
  have c0 : (w.alloc (.cells #[.int .i64 g, .int .i64 r] 64)).cell? ⟨w.heap.size, 0, none⟩ = some (.int .i64 g) := by simp
  have c1 : (w.alloc (.cells #[.int .i64 g, .int .i64 r] 64)).cell? ⟨w.heap.size, 1, none⟩ = some (.int .i64 r) := by simp [go_sem]
  cases hok : metaOk g r with
  | false =>
    have hF := metaF_no hok
    rw [hok] at hO
    obtain ⟨L, hL⟩ : ∃ L, Hid (metaF g r = L) := ⟨_, rfl⟩
    rw [hL.out] at hF ⊢
    go_enter Try.func112, Try.ntmps112
    go_wp2_with fail
    refine (hO _).mono ?_
    rintro e w1 ⟨rfl, hb1⟩
    have hB1 := hB.trans (hb1.mono hB.size)
    clear hO hb1 hB c0 c1
    go_wp2
    go_ret
    rw [hF]
    exact ⟨_, 0, rfl, hB1.size, Nat.le_refl _, noRow _ _ _, hB1.alloc hB1.size _⟩
  | true =>
    rw [hok] at hO
    have HF : Hid (pageF 2 (strOfNums (metaB g r)) = metaF g r) := metaF_page hok
    obtain ⟨k1, k2⟩ := clamp_meta hok
    have HB : Hid (numL (two g r) 2 = metaB g r) := by show _ = _; rw [numL_two, k1, k2]; rfl
    have hfew := metaB_few g r
    have HY : Hid (∀ y ∈ metaB g r, 0 ≤ y ∧ y ≤ 255) := metaB_byte hok
    obtain ⟨L, hL⟩ : ∃ L, Hid (metaF g r = L) := ⟨_, rfl⟩
    obtain ⟨Q, hQ⟩ : ∃ Q, Hid (metaB g r = Q) := ⟨_, rfl⟩
    rw [hL.out, hQ.out] at HF
    rw [hQ.out] at HB hfew HY
    rw [hL.out]
    have hN : ∀ (W : World) (a : Addr), NuV W (some a) 2 2 (two g r) → Calls Try.prog 132 #[.slice none 0 0, .slice (some a) 2 2] W fun e w' => ∃ v, e = .returned v ∧ BR w' W.heap.size v Q ∧ Below W.heap.size W w' := by
      intro W a h
      have := putNums_many none [] 0 (some a) 2 2 (two g r) W (noView _ _) (fun _ => ⟨rfl, rfl⟩) (by simp) h (by omega)
      rw [List.nil_append, HB.out] at this
      exact this
    have hP : ∀ (W : World) (v : Value) (B : Nat), BR W B v Q → Calls Try.prog 44 #[.int .i64 2, v] W (PageTo W L) := by
      intro W v B h
      obtain ⟨b, c, rfl, hv⟩ := h.view HY.out
      have := putPage_impl b 0 Q.length c (fun i => Q.getD i 0) 2 W hv (by omega) (by omega) (by omega)
      rw [lof_self, HF.out] at this
      exact this
    clear hL hQ HB HY HF k1 k2 hok
    go_enter Try.func112, Try.ntmps112
    go_wp2_with fail
    refine (hO _).mono ?_
    rintro e w1 ⟨rfl, hb1⟩
    have x0 : w1.cell? ⟨w.heap.size, 0, none⟩ = some (.int .i64 g) := by rw [hb1.cell (by simp)]; exact c0
    have x1 : w1.cell? ⟨w.heap.size, 1, none⟩ = some (.int .i64 r) := by rw [hb1.cell (by simp)]; exact c1
    have hB1 := hB.trans (hb1.mono hB.size)
    clear hO hb1 hB c0 c1
    go_wp2_with fail
    refine (hN _ _ (nuv_two _ _ _ _)).mono ?_
    rintro e w2 ⟨v, rfl, hv, hb2⟩
    have hB2 : Below w.heap.size w w2 := (hB1.alloc hB1.size _).trans (hb2.mono (by have := hB1.size; simp; omega))
    clear hN hb2 x0 x1
    go_wp2_with fail
    refine (hP _ _ _ hv).mono ?_
    rintro e w3 ⟨g3, c3, rfl, hg3, hc3, hr3, hb3⟩
    clear hP hv
    go_wp2
    go_ret
    exact ⟨g3, c3, rfl, Nat.le_trans hB2.size hg3, hc3, hr3, hB2.trans (hb3.mono hB2.size)⟩

set_option maxHeartbeats 1000000 in
theorem specPutMeta_any (g r : Int) (w : World) :
    Calls Try.prog 109 #[.agg #[.int .i64 g, .int .i64 r]] w (PageTo w (metaF g r)) := by
  have hB : Below w.heap.size w (w.alloc (.cells #[.int .i64 g, .int .i64 r] 64)) := (Below.refl _ _).alloc (Nat.le_refl _) _
  have hO := fun W => specMetaOk_any g r W
  have c0 : (w.alloc (.cells #[.int .i64 g, .int .i64 r] 64)).cell? ⟨w.heap.size, 0, none⟩ = some (.int .i64 g) := by simp
  have c1 : (w.alloc (.cells #[.int .i64 g, .int .i64 r] 64)).cell? ⟨w.heap.size, 1, none⟩ = some (.int .i64 r) := by simp [go_sem]
  cases hok : metaOk g r with
  | false =>
    have hF := metaF_no hok
    rw [hok] at hO
    obtain ⟨L, hL⟩ : ∃ L, Hid (metaF g r = L) := ⟨_, rfl⟩
    rw [hL.out] at hF ⊢
    go_enter Try.func109, Try.ntmps109
    go_wp2_with fail
    refine (hO _).mono ?_
    rintro e w1 ⟨rfl, hb1⟩
    have hB1 := hB.trans (hb1.mono hB.size)
    clear hO hb1 hB c0 c1
    go_wp2
    go_ret
    rw [hF]
    exact ⟨_, 0, rfl, hB1.size, Nat.le_refl _, noRow _ _ _, hB1.alloc hB1.size _⟩
  | true =>
    rw [hok] at hO
    have HF : Hid (pageF 2 (strOfNums (metaB g r)) = metaF g r) := metaF_page hok
    have h' := metaOk_iff.1 hok
    obtain ⟨k1, k2⟩ := clamp_meta hok
    have hfew := metaB_few g r
    have hge := groups_len g
    have hre := groups_len r
    have HY1 : Hid (∀ y ∈ groups g, 0 ≤ y ∧ y ≤ 255) := groups_byte g (by omega) (by omega)
    have HY : Hid (∀ y ∈ metaB g r, 0 ≤ y ∧ y ≤ 255) := metaB_byte hok
    have HB : Hid (metaB g r = groups g ++ groups r) := rfl
    obtain ⟨L, hL⟩ : ∃ L, Hid (metaF g r = L) := ⟨_, rfl⟩
    obtain ⟨Q, hQ⟩ : ∃ Q, Hid (metaB g r = Q) := ⟨_, rfl⟩
    rw [hL.out, hQ.out] at HF
    rw [hQ.out] at HB hfew HY
    rw [hL.out]
    have hU1 : ∀ (W : World) (b : Nat), Calls Try.prog 129 #[.slice (some ⟨b, 0, none⟩) 0 0, .int .i64 g] W fun e w' => ∃ v, e = .returned v ∧ BR w' W.heap.size v (groups g) ∧ Below W.heap.size W w' := by
      intro W b
      refine (putU_spec b 0 0 0 (fun _ => 0) g W ⟨Nat.le_refl _, fun _ hi => absurd hi (Nat.not_lt_zero _), fun h => absurd h (Nat.lt_irrefl _)⟩ (by omega) (by omega) (by omega)).mono ?_
      rintro e w' ⟨v, rfl, hown, hb⟩
      rw [Nat.zero_add, show lof 0 (fun _ => (0 : Int)) = [] from rfl, List.nil_append, k1] at hown
      obtain ⟨g', c', rfl, hg', hgc', hrow⟩ := row_of_own hown (by omega)
      exact ⟨_, rfl, ⟨g', c', rfl, hg', hgc', hrow⟩, hb⟩
    have hU2 : ∀ (W : World) (v : Value) (B : Nat), BR W B v (groups g) → Calls Try.prog 129 #[v, .int .i64 r] W fun e w' => ∃ v, e = .returned v ∧ BR w' W.heap.size v Q ∧ Below W.heap.size W w' := by
      intro W v B h
      obtain ⟨b, c, rfl, hv⟩ := h.view HY1.out
      refine (putU_spec b 0 (groups g).length c (fun i => (groups g).getD i 0) r W hv (by omega) (by omega) (by omega)).mono ?_
      rintro e w' ⟨v, rfl, hown, hb⟩
      rw [lof_self, k2, ← HB.out, show (groups g).length + (groups r).length = Q.length by rw [HB.out, List.length_append]] at hown
      obtain ⟨g', c', rfl, hg', hgc', hrow⟩ := row_of_own hown (by omega)
      exact ⟨_, rfl, ⟨g', c', rfl, hg', hgc', hrow⟩, hb⟩
    have hP : ∀ (W : World) (v : Value) (B : Nat), BR W B v Q → Calls Try.prog 96 #[.int .i64 2, v] W (PageTo W L) := by
      intro W v B h
      obtain ⟨b, c, rfl, hv⟩ := h.view HY.out
      have := putPage_spec b 0 Q.length c (fun i => Q.getD i 0) 2 W hv (by omega) (by omega) (by omega)
      rw [lof_self, HF.out] at this
      exact this
    clear hL hQ HB HY HY1 HF k1 k2 hok h'
    go_enter Try.func109, Try.ntmps109
    go_wp2_with fail
    refine (hO _).mono ?_
    rintro e w1 ⟨rfl, hb1⟩
    have hB1 := hB.trans (hb1.mono hB.size)
    have HX : Hid (∀ W, Below w1.heap.size w1 W → W.cell? ⟨w.heap.size, 0, none⟩ = some (.int .i64 g) ∧ W.cell? ⟨w.heap.size, 1, none⟩ = some (.int .i64 r)) := by
      intro W hW
      have h1 : (w.alloc (.cells #[.int .i64 g, .int .i64 r] 64)).heap.size ≤ w1.heap.size := hb1.size
      have h2 : w.heap.size < w1.heap.size := by simp at h1; omega
      refine ⟨?_, ?_⟩
      · rw [hW.cell h2, hb1.cell (by simp)]; exact c0
      · rw [hW.cell h2, hb1.cell (by simp)]; exact c1
    have hxl : w.heap.size < w1.heap.size := by have := hb1.size; simp at this; omega
    clear hO hb1 hB c0 c1
    obtain ⟨x0, x1⟩ := HX.out w1 (Below.refl _ _)
    go_wp2_with fail
    go_region_held3 (fun W => W.cell? ⟨w.heap.size, 0, none⟩ = some (.int .i64 g) ∧ W.cell? ⟨w.heap.size, 1, none⟩ = some (.int .i64 r)) (first | assumption | go_keep) (first
      | (go_at_call_of 129 (r); refine (hU2 _ _ _ (by first | exact hv2 | exact hv2.below (Below.refl _ _).drew | exact hv2.below (Below.refl _ _).drew.drew)).mono ?_; rintro e w3 ⟨v3, rfl, hv3, hb3⟩; have hb3' : Hid (Below w1.heap.size w1 w3) := Below.trans (by repeat (first | exact hb2'.out | refine Below.drew ?_)) (hb3.mono (by have := hb2'.out.size; simpa using this)); have hx3 := HX.out w3 hb3'.out)
      | (go_at_call_of 129 (g); refine (hU1 _ _).mono ?_; rintro e w2 ⟨v2, rfl, hv2, hb2⟩; have hb2' : Hid (Below w1.heap.size w1 w2) := Below.trans (by repeat (first | exact Below.refl _ _ | exact (Below.refl _ _).alloc (by simp) _ | refine Below.drew ?_)) (hb2.mono (by simp)); have hx2 := HX.out w2 hb2'.out)
      | (go_at_call 96; refine (hP _ _ _ (by first | exact hv3 | exact hv3.below (Below.refl _ _).drew | exact hv3.below (Below.refl _ _).drew.drew)).mono ?_; rintro e w4 ⟨g4, c4, rfl, hg4, hc4, hr4, hb4⟩; have hb4' : Hid (Below w1.heap.size w1 w4) := Below.trans (by repeat (first | exact hb3'.out | refine Below.drew ?_)) (hb4.mono (by have := hb3'.out.size; simpa using this)); have hx4 := HX.out w4 hb4'.out))
    have hbw := hB1.trans (hb4'.out.mono hB1.size)
    have hs3 : w.heap.size ≤ g4 := Nat.le_trans hB1.size (Nat.le_trans hb3'.out.size hg4)
    clear hx2 hx3 hx4 hv2 hv3 hb2 hb3 hb4 hU1 hU2 hP x0 x1
    go_wp2
    go_ret
    exact ⟨g4, c4, rfl, hs3, hc4, hr4, hbw⟩
end Go.Proofs.Ytdhfbblameiloaa

/-
  Two cells that are laid into a variable.
-/
namespace Go.Proofs.Ytdhfbblameiloaa
open Go.RowKit
set_option maxRecDepth 4000

theorem scT_other (W : World) (B i j : Nat) (v : Value) (h : i ≠ j) : (W.setCell ⟨B, i, none⟩ v).cell? ⟨B, j, none⟩ = W.cell? ⟨B, j, none⟩ :=
  World.cell?_setCell_other W _ _ v (by intro e; exact h (congrArg Addr.off e))
theorem scT_same {W : World} {B i : Nat} {v u : Value} (h : W.cell? ⟨B, i, none⟩ = some u) : (W.setCell ⟨B, i, none⟩ v).cell? ⟨B, i, none⟩ = some v := World.cell?_setCell_same W _ v h
/-- A token that is put into the result's variable. -/
theorem stored2 {W : World} {B : Nat} {x0 x1 : Value} (a b : Value) (c0 : W.cell? ⟨B, 0, none⟩ = some x0) (c1 : W.cell? ⟨B, 1, none⟩ = some x1) :
    ((W.setCell ⟨B, 0, none⟩ a).setCell ⟨B, 1, none⟩ b).cell? ⟨B, 0, none⟩ = some a ∧ ((W.setCell ⟨B, 0, none⟩ a).setCell ⟨B, 1, none⟩ b).cell? ⟨B, 1, none⟩ = some b := by
  refine ⟨?_, ?_⟩
  · rw [scT_other _ _ 1 0 _ (by decide), scT_same c0]
  · rw [scT_same (u := x1) (by rw [scT_other _ _ 0 1 _ (by decide)]; exact c1)]
theorem stored2A {W : World} {B : Nat} {x0 x1 : Value} (a b : Value) (c0 : W.cell? ⟨B, 0, none⟩ = some x0) (c1 : W.cell? ⟨B, 1, none⟩ = some x1) (h : B < W.heap.size) (o : Obj) :
    (((W.setCell ⟨B, 0, none⟩ a).setCell ⟨B, 1, none⟩ b).alloc o).cell? ⟨B, 0, none⟩ = some a ∧ (((W.setCell ⟨B, 0, none⟩ a).setCell ⟨B, 1, none⟩ b).alloc o).cell? ⟨B, 1, none⟩ = some b := by
  have hg := stored2 a b c0 c1
  refine ⟨?_, ?_⟩
  · rw [World.cell?_alloc_lt _ _ _ (by simpa using h)]; exact hg.1
  · rw [World.cell?_alloc_lt _ _ _ (by simpa using h)]; exact hg.2
end Go.Proofs.Ytdhfbblameiloaa

/-
  A root in a variable of the call's own.
-/
namespace Go.Proofs.Ytdhfbblameiloaa
open Go.RowKit
set_option maxRecDepth 4000

/-- The two cells of a root. -/
def metaC (g r : Int) : Nat → Value
  | 0 => .int .i64 g
  | _ => .int .i64 r
/-- A root in a variable of the call's own. -/
def MBox (w : World) (B : Nat) (g r : Int) : Prop := w.rowIs B 64 2 (metaC g r)
theorem MBox.new (w : World) (g r : Int) : MBox (w.alloc (.cells #[.int .i64 g, .int .i64 r] 64)) w.heap.size g r :=
  World.rowIs_alloc w _ 64 (metaC g r) (fun j hj => by match j, hj with | 0, _ => rfl | 1, _ => rfl)
theorem MBox.cells {w : World} {B : Nat} {g r : Int} (h : MBox w B g r) : w.cell? ⟨B, 0, none⟩ = some (.int .i64 g) ∧ w.cell? ⟨B, 1, none⟩ = some (.int .i64 r) :=
  ⟨h.cell (i := 0) (by decide), h.cell (i := 1) (by decide)⟩
theorem MBox.frozen {w : World} {B : Nat} {g r : Int} (h : MBox w B g r) : w.frozen? ⟨B, 0, none⟩ = false ∧ w.frozen? ⟨B, 1, none⟩ = false :=
  ⟨World.rowIs.frozen h 0, World.rowIs.frozen h 1⟩
theorem MBox.lt {w : World} {B : Nat} {g r : Int} (h : MBox w B g r) : B < w.heap.size := World.rowIs.lt h
theorem MBox.below {w w' : World} {B : Nat} {g r : Int} (h : MBox w B g r) (hb : Below w.heap.size w w') : MBox w' B g r := h.of_block (hb.block B h.lt)
theorem MBox.but {w w' : World} {B c : Nat} {g r : Int} (h : MBox w B g r) (hb : But c w w') (hne : B ≠ c) : MBox w' B g r := h.of_block (hb.block B h.lt hne)
theorem MBox.set0 {w : World} {B : Nat} {g r : Int} (h : MBox w B g r) (x : Int) : MBox (w.setCell ⟨B, 0, none⟩ (.int .i64 x)) B x r :=
  (World.rowIs.set h 0 _).congr (fun j hj => by match j, hj with | 0, _ => rfl | 1, _ => rfl)
theorem MBox.set1 {w : World} {B : Nat} {g r : Int} (h : MBox w B g r) (x : Int) : MBox (w.setCell ⟨B, 1, none⟩ (.int .i64 x)) B g x :=
  (World.rowIs.set h 1 _).congr (fun j hj => by match j, hj with | 0, _ => rfl | 1, _ => rfl)
theorem MBox.other {w : World} {B D i : Nat} {g r : Int} (h : MBox w B g r) (hne : B ≠ D) (u : Value) : MBox (w.setCell ⟨D, i, none⟩ u) B g r := h.of_block (Below.heap_setCell _ _ _ _ hne)
end Go.Proofs.Ytdhfbblameiloaa

/-
  A root is drawn; its bytes.
-/
namespace Go.Proofs.Ytdhfbblameiloaa
open Go.RowKit
set_option maxRecDepth 4000

theorem But.setNewM {g B i : Nat} {w w' : World} (h : But g w w') (hB : w.heap.size ≤ B) (u : Value) : But g w (w'.setCell ⟨B, i, none⟩ u) :=
  ⟨h.os, h.tape, h.output, by simpa using h.size, fun k hk hg => by rw [Below.heap_setCell _ _ _ _ (by show k ≠ B; omega)]; exact h.block k hk hg⟩
theorem Cur.setNewM {w : World} {g : Nat} {ao : Option Addr} {n cap : Nat} {f : Nat → Int} (h : Cur w g ao n cap f) {B i : Nat} (u : Value) (hg : g ≠ B) (hc : ∀ a, ao = some a → 0 < n → a.block ≠ B) : Cur (w.setCell ⟨B, i, none⟩ u) g ao n cap f := by
  obtain ⟨j, k, hr, h0, hi⟩ := h.cells
  refine ⟨⟨j, k, hr.of_block (Below.heap_setCell _ _ _ _ hg), h0, hi⟩, ⟨h.view.le, h.view.byte, fun hn => ?_⟩, h.apart⟩
  obtain ⟨b', off, e, hlt, hcc⟩ := h.view.cells hn
  refine ⟨b', off, e, by simpa using hlt, fun j hj => ?_⟩
  rw [World.cell?_of_block (w := w) (Below.heap_setCell _ _ _ _ (hc _ e hn))]
  exact hcc j hj

set_option maxHeartbeats 2000000 in
theorem l15Draw_any (g : Nat) (ao : Option Addr) (n cap : Nat) (f : Nat → Int) (w : World) (hn : n ≤ 1048576) (hC : Cur w g ao n cap f) :
    Calls Try.prog 110 #[.pointer (some ⟨g, 0, none⟩)] w fun e w' => ∃ a r : Int, e = .returned (.agg #[.int .i64 a, .int .i64 r]) ∧ metaOk a r = true ∧ Cur w' g ao n cap f ∧ But g w w' := by
  have hR := MBox.new w 0 0
  have hg := hC.lt
  have HCO : Hid (∀ x, ao = some x → 0 < n → x.block ≠ w.heap.size) := fun x hx h0 => by have := hC.code x hx h0; omega
  have hbA : Below w.heap.size w (w.alloc (.cells #[.int .i64 0, .int .i64 0] 64)) := (Below.refl _ _).alloc (Nat.le_refl _) _
  have hCA := hC.below hbA
  have hwl : w.heap.size < (w.alloc (.cells #[.int .i64 0, .int .i64 0] 64)).heap.size := by simp
  go_enter Try.func110, Try.ntmps110
  go_wp2_with fail
  obtain ⟨W1, hW1⟩ : ∃ x, Hid (w.alloc (.cells #[.int .i64 0, .int .i64 0] 64) = x) := ⟨_, rfl⟩
  have hsz : w.heap.size + 1 = W1.heap.size := by rw [← hW1.out]; simp
  rw [hW1.out] at hR hbA hCA hwl ⊢
  refine (l1Int_mem g ao n cap f [0, 1, 2, 3, 300, 1000000] (w.heap.size + 1) W1 hsz hn (by simp) (by simp) hCA).mono ?_
  rintro e w2 ⟨a, rfl, ha, hC2, hB2⟩
  have HA : Hid (0 ≤ a ∧ a ≤ 1000000) := by simp at ha; show _ ∧ _; omega
  replace hR := hR.but hB2 (by omega)
  have hB := (But.ofBelow (g := g) hbA).trans hB2
  have hl2 := hR.lt
  clear hW1 hsz hbA hCA hwl ha hB2
  have hI := l1Int_mem g ao n cap f [0, 2, 9, 47] w2.heap.size w2 rfl hn (by simp) (by simp) hC2
  go_wp2_with fail
  refine hI.mono ?_
  rintro e w3 ⟨r, rfl, hr, hC3, hB3⟩
  have HR : Hid (r = 0 ∨ 2 ≤ r ∧ r ≤ 47) := by simp at hr; show _ ∨ _; omega
  replace hR := hR.but hB3 (by omega)
  replace hB := hB.trans hB3
  obtain ⟨x0, x1⟩ := hR.cells
  obtain ⟨r0, r1⟩ := hR.frozen
  have hgs := stored2 (.int .i64 a) (.int .i64 r) x0 x1
  have HB : Hid (But g w ((w3.setCell ⟨w.heap.size, 0, none⟩ (.int .i64 a)).setCell ⟨w.heap.size, 1, none⟩ (.int .i64 r))) := (hB.setNewM (Nat.le_refl _) _).setNewM (Nat.le_refl _) _
  have HC : Hid (Cur ((w3.setCell ⟨w.heap.size, 0, none⟩ (.int .i64 a)).setCell ⟨w.heap.size, 1, none⟩ (.int .i64 r)) g ao n cap f) := (hC3.setNewM _ (by omega) HCO.out).setNewM _ (by omega) HCO.out
  clear hI hC2 hC3 hB3 hR hB hr hC
  go_wp2
  exact bodyPost_ret (v := .agg #[.int .i64 a, .int .i64 r]) (by simp [results, Try.results110, go_sem, hgs]) rfl ⟨a, r, rfl, metaOk_iff.2 ⟨HA.out, HR.out⟩, HC.out, HB.out⟩

/-- The model's PutMeta of a root that is right: its bytes are the call's own. -/
theorem putMeta_own (g r : Int) (hok : metaOk g r = true) (w : World) :
    Calls Try.prog 109 #[.agg #[.int .i64 g, .int .i64 r]] w fun e w' => ∃ v, e = .returned v ∧ w'.ownsRow w.heap.size 5 1 v (metaF g r).length (bl (metaF g r)) ∧ Below w.heap.size w w' := by
  have hB : Below w.heap.size w (w.alloc (.cells #[.int .i64 g, .int .i64 r] 64)) := (Below.refl _ _).alloc (Nat.le_refl _) _
  have hO := fun W => specMetaOk_any g r W
  have c0 : (w.alloc (.cells #[.int .i64 g, .int .i64 r] 64)).cell? ⟨w.heap.size, 0, none⟩ = some (.int .i64 g) := by simp
  have c1 : (w.alloc (.cells #[.int .i64 g, .int .i64 r] 64)).cell? ⟨w.heap.size, 1, none⟩ = some (.int .i64 r) := by simp [go_sem]
  rw [hok] at hO
  have HF : Hid (pageF 2 (strOfNums (metaB g r)) = metaF g r) := metaF_page hok
  have h' := metaOk_iff.1 hok
  obtain ⟨k1, k2⟩ := clamp_meta hok
  have hfew := metaB_few g r
  have hge := groups_len g
  have hre := groups_len r
  have HY1 : Hid (∀ y ∈ groups g, 0 ≤ y ∧ y ≤ 255) := groups_byte g (by omega) (by omega)
  have HY : Hid (∀ y ∈ metaB g r, 0 ≤ y ∧ y ≤ 255) := metaB_byte hok
  have HB : Hid (metaB g r = groups g ++ groups r) := rfl
  obtain ⟨L, hL⟩ : ∃ L, Hid (metaF g r = L) := ⟨_, rfl⟩
  obtain ⟨Q, hQ⟩ : ∃ Q, Hid (metaB g r = Q) := ⟨_, rfl⟩
  rw [hL.out, hQ.out] at HF
  rw [hQ.out] at HB hfew HY
  rw [hL.out]
  have hU1 : ∀ (W : World) (b : Nat), Calls Try.prog 129 #[.slice (some ⟨b, 0, none⟩) 0 0, .int .i64 g] W fun e w' => ∃ v, e = .returned v ∧ BR w' W.heap.size v (groups g) ∧ Below W.heap.size W w' := by
    intro W b
    refine (putU_spec b 0 0 0 (fun _ => 0) g W ⟨Nat.le_refl _, fun _ hi => absurd hi (Nat.not_lt_zero _), fun h => absurd h (Nat.lt_irrefl _)⟩ (by omega) (by omega) (by omega)).mono ?_
    rintro e w' ⟨v, rfl, hown, hb⟩
    rw [Nat.zero_add, show lof 0 (fun _ => (0 : Int)) = [] from rfl, List.nil_append, k1] at hown
    obtain ⟨g', c', rfl, hg', hgc', hrow⟩ := row_of_own hown (by omega)
    exact ⟨_, rfl, ⟨g', c', rfl, hg', hgc', hrow⟩, hb⟩
  have hU2 : ∀ (W : World) (v : Value) (B : Nat), BR W B v (groups g) → Calls Try.prog 129 #[v, .int .i64 r] W fun e w' => ∃ v, e = .returned v ∧ BR w' W.heap.size v Q ∧ Below W.heap.size W w' := by
    intro W v B h
    obtain ⟨b, c, rfl, hv⟩ := h.view HY1.out
    refine (putU_spec b 0 (groups g).length c (fun i => (groups g).getD i 0) r W hv (by omega) (by omega) (by omega)).mono ?_
    rintro e w' ⟨v, rfl, hown, hb⟩
    rw [lof_self, k2, ← HB.out, show (groups g).length + (groups r).length = Q.length by rw [HB.out, List.length_append]] at hown
    obtain ⟨g', c', rfl, hg', hgc', hrow⟩ := row_of_own hown (by omega)
    exact ⟨_, rfl, ⟨g', c', rfl, hg', hgc', hrow⟩, hb⟩
  have hP : ∀ (W : World) (v : Value) (B : Nat), BR W B v Q → Calls Try.prog 96 #[.int .i64 2, v] W fun e w' => ∃ v, e = .returned v ∧ w'.ownsRow W.heap.size 5 1 v L.length (bl L) ∧ Below W.heap.size W w' := by
    intro W v B h
    obtain ⟨b, c, rfl, hv⟩ := h.view HY.out
    have := putPage_own b 0 Q.length c (fun i => Q.getD i 0) 2 W hv (by omega) (by omega)
    rw [lof_self, HF.out] at this
    exact this
  clear hL hQ HB HY HY1 HF k1 k2 hok h'
  go_enter Try.func109, Try.ntmps109
  go_wp2_with fail
  refine (hO _).mono ?_
  rintro e w1 ⟨rfl, hb1⟩
  have hB1 := hB.trans (hb1.mono hB.size)
  have HX : Hid (∀ W, Below w1.heap.size w1 W → W.cell? ⟨w.heap.size, 0, none⟩ = some (.int .i64 g) ∧ W.cell? ⟨w.heap.size, 1, none⟩ = some (.int .i64 r)) := by
    intro W hW
    have h1 : (w.alloc (.cells #[.int .i64 g, .int .i64 r] 64)).heap.size ≤ w1.heap.size := hb1.size
    have h2 : w.heap.size < w1.heap.size := by simp at h1; omega
    refine ⟨?_, ?_⟩
    · rw [hW.cell h2, hb1.cell (by simp)]; exact c0
    · rw [hW.cell h2, hb1.cell (by simp)]; exact c1
  have hxl : w.heap.size < w1.heap.size := by have := hb1.size; simp at this; omega
  clear hO hb1 hB c0 c1
  obtain ⟨x0, x1⟩ := HX.out w1 (Below.refl _ _)
  go_wp2_with fail
  go_region_held3 (fun W => W.cell? ⟨w.heap.size, 0, none⟩ = some (.int .i64 g) ∧ W.cell? ⟨w.heap.size, 1, none⟩ = some (.int .i64 r)) (first | assumption | go_keep) (first
    | (go_at_call_of 129 (r); refine (hU2 _ _ _ (by first | exact hv2 | exact hv2.below (Below.refl _ _).drew | exact hv2.below (Below.refl _ _).drew.drew)).mono ?_; rintro e w3 ⟨v3, rfl, hv3, hb3⟩; have hb3' : Hid (Below w1.heap.size w1 w3) := Below.trans (by repeat (first | exact hb2'.out | refine Below.drew ?_)) (hb3.mono (by have := hb2'.out.size; simpa using this)); have hx3 := HX.out w3 hb3'.out)
    | (go_at_call_of 129 (g); refine (hU1 _ _).mono ?_; rintro e w2 ⟨v2, rfl, hv2, hb2⟩; have hb2' : Hid (Below w1.heap.size w1 w2) := Below.trans (by repeat (first | exact Below.refl _ _ | exact (Below.refl _ _).alloc (by simp) _ | refine Below.drew ?_)) (hb2.mono (by simp)); have hx2 := HX.out w2 hb2'.out)
    | (go_at_call 96; refine (hP _ _ _ (by first | exact hv3 | exact hv3.below (Below.refl _ _).drew | exact hv3.below (Below.refl _ _).drew.drew)).mono ?_; rintro e w4 ⟨v4, rfl, hr4, hb4⟩; have hb4' : Hid (Below w1.heap.size w1 w4) := Below.trans (by repeat (first | exact hb3'.out | refine Below.drew ?_)) (hb4.mono (by have := hb3'.out.size; simpa using this)); have hx4 := HX.out w4 hb4'.out))
  have hbw := hB1.trans (hb4'.out.mono hB1.size)
  have HO : Hid (w4.ownsRow w.heap.size 5 1 v4 L.length (bl L)) := own_loK hr4 (Nat.le_trans hB1.size hb3'.out.size)
  clear hx2 hx3 hx4 hv2 hv3 hb2 hb3 hb4 hU1 hU2 hP x0 x1 hr4
  go_wp2
  go_ret
  exact ⟨v4, rfl, HO.out, hbw⟩
end Go.Proofs.Ytdhfbblameiloaa

