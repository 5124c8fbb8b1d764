/-
  Together: ValRow, Conv, Ahead, NumOrder, NumBack, EscOrder, EscRead, PartBack, KeyDec, ValGrow, PutFixSpec, PutEscSpec
-/
import Derived.Test.YtclegljalndaearPack2
import Derived.Test.YtclegljalndaearPack1
import Derived.Laws.BytesArg
import Derived.Test.YtclegljalndaearPack3
import Derived.WalkSpells
/-
  Rows of values of the call's own, that grow by one value at a time.
-/
namespace Go.Proofs.Ytclegljalndaear
open Go.RowKit
set_option maxRecDepth 4000

/-- The cells of the first k values. -/
def rowC (gk gn : Nat → Int) (gs : Nat → ByteArray) : Nat → List Value
  | 0 => []
  | k + 1 => rowC gk gn gs k ++ [.int .i64 (gk k), .int .i64 (gn k), .string (gs k)]
theorem rowC_len (gk gn : Nat → Int) (gs : Nat → ByteArray) : ∀ k, (rowC gk gn gs k).length = k * 3
  | 0 => rfl
  | k + 1 => by rw [rowC, List.length_append, rowC_len gk gn gs k]; simp; omega
theorem rowC_get (gk gn : Nat → Int) (gs : Nat → ByteArray) : ∀ k i, i < k → (rowC gk gn gs k)[i * 3]? = some (.int .i64 (gk i)) ∧ (rowC gk gn gs k)[i * 3 + 1]? = some (.int .i64 (gn i)) ∧ (rowC gk gn gs k)[i * 3 + 2]? = some (.string (gs i))
  | k + 1, i, hi => by
    have hl := rowC_len gk gn gs k
    by_cases e : i < k
    · obtain ⟨h1, h2, h3⟩ := rowC_get gk gn gs k i e
      rw [rowC, List.getElem?_append_left (by omega), List.getElem?_append_left (by omega), List.getElem?_append_left (by omega)]
      exact ⟨h1, h2, h3⟩
    · obtain rfl : i = k := by omega
      rw [rowC, List.getElem?_append_right (by omega), List.getElem?_append_right (by omega), List.getElem?_append_right (by omega), hl]
      simp [show i * 3 + 1 - i * 3 = 1 by omega, show i * 3 + 2 - i * 3 = 2 by omega]
theorem rowC_congr {gk gn : Nat → Int} {gs : Nat → ByteArray} {hk hn : Nat → Int} {hs : Nat → ByteArray} : ∀ {k : Nat}, (∀ i, i < k → gk i = hk i ∧ gn i = hn i ∧ gs i = hs i) → rowC gk gn gs k = rowC hk hn hs k
  | 0, _ => rfl
  | k + 1, e => by
    obtain ⟨h1, h2, h3⟩ := e k (by omega)
    rw [rowC, rowC, rowC_congr (fun i hi => e i (by omega)), h1, h2, h3]

/-- A row of values of the call's own reads. -/
theorem vview_of_own {w : World} {base : Nat} {v : Value} {N : Nat} {gk gn : Nat → Int} {gs : Nat → ByteArray} (h : w.ownsRow base 59 3 v N (rowC gk gn gs N)) : ∃ a c, v = .slice a N c ∧ VView w a N c gk gn gs ∧ (v ≠ .slice none 0 0 → ∃ g, a = some ⟨g, 0, none⟩ ∧ base ≤ g) := by
  obtain ⟨hl, h⟩ := h
  rcases h with ⟨rfl, h0⟩ | ⟨g, c, cur, rfl, hb, hg, hnc, _, hcs, ht⟩
  · have hN : N = 0 := by have := h0; have := rowC_len gk gn gs N; omega
    subst hN
    exact ⟨none, 0, rfl, ⟨Nat.le_refl _, fun hn => absurd hn (Nat.lt_irrefl _)⟩, fun hne => absurd rfl hne⟩
  · refine ⟨_, c, rfl, ⟨hnc, fun hn => ⟨g, 0, rfl, ?_, fun i hi => ?_⟩⟩, fun _ => ⟨g, rfl, hb⟩⟩
    · exact (Array.getElem?_eq_some_iff.1 hg).1
    · have key : ∀ j x, j < N * 3 → (rowC gk gn gs N)[j]? = some x → w.cell? ⟨g, 0 + j, none⟩ = some x := by
        intro j x hj hx
        rw [← ht, List.getElem?_take, if_pos hj] at hx
        simp only [World.cell?, hg, Nat.zero_add]
        simpa using hx
      obtain ⟨h1, h2, h3⟩ := rowC_get gk gn gs N i hi
      have k0 := key _ _ (by omega) h1
      have k1 := key _ _ (by omega) h2
      have k2 := key _ _ (by omega) h3
      simp only [Nat.zero_add] at k0 k1 k2 ⊢
      exact ⟨k0, k1, k2⟩
end Go.Proofs.Ytclegljalndaear

/-
  Bytes as a string: what 'string(b)' comes to at a slice of bytes that reads.
-/
namespace Go.Proofs.Ytclegljalndaear
open Go.RowKit
set_option maxRecDepth 4000

theorem conv_view {w : World} {b off n cap : Nat} {f : Nat → Int} (hv : View w (some ⟨b, off, none⟩) n cap f) :
    (convert 36 9 (.slice (some ⟨b, off, none⟩) n cap)).run Try.prog w = .ok (.string (strOfNums (lof n f))) w := by
  refine run_convert_bytes_arg w 36 5 Try.underlying36 Try.underlying5 b off n cap (lof n f) (lof_len n f) ?_ 9 Try.underlying9
  intro i hi
  obtain ⟨b', off', e, _, hc⟩ := hv.cells (by omega)
  simp only [Option.some.injEq, Addr.mk.injEq, and_true] at e
  obtain ⟨rfl, rfl⟩ := e
  rw [hc i hi, lof_get n f i hi]

theorem strOfNums_inj {xs ys : List Int} (hx : ∀ y ∈ xs, 0 ≤ y ∧ y ≤ 255) (hy : ∀ y ∈ ys, 0 ≤ y ∧ y ≤ 255) (h : strOfNums xs = strOfNums ys) : xs = ys := by
  have h1 : xs.map (fun n => UInt8.ofNat n.toNat) = ys.map (fun n => UInt8.ofNat n.toNat) := by
    rw [← strOfNums_data, ← strOfNums_data, h]
  have key : ∀ a b : Int, 0 ≤ a ∧ a ≤ 255 → 0 ≤ b ∧ b ≤ 255 → UInt8.ofNat a.toNat = UInt8.ofNat b.toNat → a = b := by
    intro a b ha hb e
    have := congrArg UInt8.toNat e
    simp at this
    omega
  clear h
  induction xs generalizing ys with
  | nil => cases ys with
    | nil => rfl
    | cons y ys => simp at h1
  | cons x xs ih => cases ys with
    | nil => simp at h1
    | cons y ys =>
      simp only [List.map_cons, List.cons.injEq] at h1
      rw [key x y (hx x (by simp)) (hy y (by simp)) h1.1, ih (fun z hz => hx z (by simp [hz])) (fun z hz => hy z (by simp [hz])) h1.2]

end Go.Proofs.Ytclegljalndaear

/-
  Whether bytes are ahead of others, as texts are.
-/
namespace Go.Proofs.Ytclegljalndaear
open Go.RowKit
set_option maxRecDepth 4000

/-- Whether the bytes of the one are ahead of the other's. -/
def ahead (l k : List Int) : Bool := Op.bytesLess (strOfNums l).toList (strOfNums k).toList
theorem toList_data (s : ByteArray) : s.toList = s.data.toList := ByteArray.toList_eq s
end Go.Proofs.Ytclegljalndaear

/-
  Numbers in order, plainly: the order of their bytes is theirs, none is the beginning of another one, and they come back.
-/
namespace Go.Proofs.Ytclegljalndaear
open Go.RowKit
set_option maxRecDepth 4000

def u8 (z : Int) : UInt8 := UInt8.ofNat z.toNat
theorem u8_lt {a b : Int} (ha : 0 ≤ a ∧ a ≤ 255) (hb : 0 ≤ b ∧ b ≤ 255) : u8 a < u8 b ↔ a < b := by
  unfold u8
  rw [UInt8.lt_iff_toNat_lt, UInt8.toNat_ofNat', UInt8.toNat_ofNat']
  omega
theorem u8_inj {a b : Int} (ha : 0 ≤ a ∧ a ≤ 255) (hb : 0 ≤ b ∧ b ≤ 255) : u8 a = u8 b ↔ a = b := by
  constructor
  · intro h
    have := congrArg UInt8.toNat h
    unfold u8 at this
    rw [UInt8.toNat_ofNat', UInt8.toNat_ofNat'] at this
    omega
  · intro h; rw [h]

theorem less_snoc (x y : UInt8) : ∀ a b : List UInt8, a.length = b.length → Op.bytesLess (a ++ [x]) (b ++ [y]) = (Op.bytesLess a b || (decide (a = b) && decide (x < y)))
  | [], [], _ => by
    by_cases h : x < y
    · simp [Op.bytesLess, h]
    · simp [Op.bytesLess, h]
  | p :: ps, q :: qs, h => by
    have ih := less_snoc x y ps qs (by simpa using h)
    simp only [List.cons_append, Op.bytesLess]
    by_cases h1 : p < q
    · simp [h1]
    · by_cases h2 : p = q
      · subst h2
        simp [h1, ih]
      · have hb : (p == q) = false := by simpa using h2
        simp [h1, h2, hb]

theorem ahead_eq (l k : List Int) : ahead l k = Op.bytesLess (l.map u8) (k.map u8) := by
  unfold ahead
  rw [toList_data, toList_data, strOfNums_data, strOfNums_data]
  rfl
theorem lof_snoc (k : Nat) (f : Nat → Int) : lof (k + 1) f = lof k f ++ [f k] := by simp [lof, List.range_succ]

theorem map_u8_inj : ∀ (l k : List Int), (∀ y ∈ l, 0 ≤ y ∧ y ≤ 255) → (∀ y ∈ k, 0 ≤ y ∧ y ≤ 255) → (l.map u8 = k.map u8 ↔ l = k)
  | [], [], _, _ => by simp
  | [], _ :: _, _, _ => by simp
  | _ :: _, [], _, _ => by simp
  | x :: xs, y :: ys, h1, h2 => by
    have ih := map_u8_inj xs ys (fun z hz => h1 z (by simp [hz])) (fun z hz => h2 z (by simp [hz]))
    simp only [List.map_cons, List.cons.injEq, ih, u8_inj (h1 x (by simp)) (h2 y (by simp))]

section
variable {f g : Nat → Int}
theorem valF_inj (k : Nat) (hf : ∀ i, i < k → 0 ≤ f i ∧ f i ≤ 255) (hg : ∀ i, i < k → 0 ≤ g i ∧ g i ≤ 255) : lof k f = lof k g ↔ valF k f = valF k g := by
  constructor
  · intro h
    apply valF_congr
    intro i hi
    rw [← lof_get k f i hi, ← lof_get k g i hi, h]
  · intro h
    unfold lof
    apply List.map_congr_left
    intro i hi
    have hi := List.mem_range.1 hi
    rw [← be_valF k f hf i hi, ← be_valF k g hg i hi, h]

/-- Of as many bytes the order is that of the numbers. -/
theorem ahead_valF : ∀ (k : Nat), (∀ i, i < k → 0 ≤ f i ∧ f i ≤ 255) → (∀ i, i < k → 0 ≤ g i ∧ g i ≤ 255) → ahead (lof k f) (lof k g) = decide (valF k f < valF k g)
  | 0, _, _ => by rw [ahead_eq]; rfl
  | k + 1, hf, hg => by
    have ih := ahead_valF k (fun i hi => hf i (by omega)) (fun i hi => hg i (by omega))
    have hj := valF_inj k (fun i hi => hf i (by omega)) (fun i hi => hg i (by omega))
    have hfk := hf k (by omega)
    have hgk := hg k (by omega)
    rw [ahead_eq] at ih ⊢
    rw [lof_snoc, lof_snoc, List.map_append, List.map_append]
    show Op.bytesLess ((lof k f).map u8 ++ [u8 (f k)]) ((lof k g).map u8 ++ [u8 (g k)]) = _
    rw [less_snoc _ _ _ _ (by simp [lof_len]), ih]
    have e1 : ((lof k f).map u8 = (lof k g).map u8) = (valF k f = valF k g) := propext ((map_u8_inj _ _ (lof_byte (fun i hi => hf i (by omega))) (lof_byte (fun i hi => hg i (by omega)))).trans hj)
    have e2 : (u8 (f k) < u8 (g k)) = (f k < g k) := propext (u8_lt hfk hgk)
    simp only [e1, e2, valF]
    rw [← Bool.decide_and, ← Bool.decide_or]
    apply decide_eq_decide.2
    omega
end

theorem ahead_cons (x y : Int) (l k : List Int) (hx : 0 ≤ x ∧ x ≤ 255) (hy : 0 ≤ y ∧ y ≤ 255) : ahead (x :: l) (y :: k) = if x < y then true else if x = y then ahead l k else false := by
  rw [ahead_eq, ahead_eq]
  simp only [List.map_cons, Op.bytesLess]
  by_cases h1 : x < y
  · simp [h1, (u8_lt hx hy).2 h1]
  · have n1 : ¬ u8 x < u8 y := fun h => h1 ((u8_lt hx hy).1 h)
    by_cases h2 : x = y
    · subst h2; simp
    · have n2 : u8 x ≠ u8 y := fun h => h2 ((u8_inj hx hy).1 h)
      simp [h1, h2, n1, n2]

theorem clampF_self (x : Int) (h : -2147483648 ≤ x ∧ x ≤ 2147483647) : clampF x = x := by unfold clampF; rw [if_neg (by omega), if_neg (by omega)]
theorem clampV_self (x : Int) (h : -1000000000000000 ≤ x ∧ x ≤ 1000000000000000) : clampV x = x := by unfold clampV; rw [if_neg (by omega), if_neg (by omega)]
theorem valF_fix (x : Int) : valF 4 (be 4 (clampF x + 2147483648)) = clampF x + 2147483648 := by
  have := clampF_bd x
  have e : (256 : Int) ^ 4 = 4294967296 := by decide
  exact valF_be 4 _ (by omega) (by omega)
theorem fix_ahead (x y : Int) : ahead (fixL x) (fixL y) = decide (clampF x < clampF y) := by
  unfold fixL
  rw [ahead_valF 4 (fun i _ => be_bd _ _ i) (fun i _ => be_bd _ _ i), valF_fix, valF_fix]
  apply decide_eq_decide.2
  omega
theorem fixL_clamp (x : Int) : fixL (clampF x) = fixL x := by unfold fixL; rw [clampF_self _ (clampF_bd x)]
theorem varL_clamp (x : Int) : varL (clampV x) = varL x := by unfold varL; rw [clampV_self _ (clampV_bd x)]

theorem behind (l k : List Int) (m i : Nat) (h : l.length = m) : (l ++ k).getD (m + i) 0 = k.getD i 0 := by
  rw [List.getD_eq_getElem?_getD, List.getD_eq_getElem?_getD, List.getElem?_append_right (by omega), show m + i - l.length = i by omega]

section
variable {x y : Int} (hx : -1000000000000000 ≤ x ∧ x ≤ 1000000000000000) (hy : -1000000000000000 ≤ y ∧ y ≤ 1000000000000000)
include hx
theorem size_lt : sizeV x < 256 ^ cnt (sizeV x) := cnt_lt _ (by have := sizeV_bd x hx; omega)
theorem size_back : valF (cnt (sizeV x)) (be (cnt (sizeV x)) (sizeV x)) = sizeV x := valF_be _ _ (sizeV_bd x hx).1 (size_lt hx)
/-- The digits, turned or not, as a number. -/
theorem tail_val : valF (cnt (sizeV x)) (tailV x) = if x < 0 then 256 ^ cnt (sizeV x) + x else x := by
  have hb := size_back hx
  by_cases h : x < 0
  · rw [if_pos h]
    have e : sizeV x = -1 - x := by unfold sizeV; rw [if_pos h]
    have key : ∀ k, valF k (tailV x) = 256 ^ k - 1 - valF k (be (cnt (sizeV x)) (sizeV x)) := by
      intro k
      induction k with
      | zero => rfl
      | succ k ih =>
        rw [valF, valF, ih, Int.pow_succ]
        unfold tailV
        rw [if_pos h]
        omega
    rw [key, hb, e]
    omega
  · rw [if_neg h]
    have e : sizeV x = x := by unfold sizeV; rw [if_neg h]
    have : valF (cnt (sizeV x)) (tailV x) = valF (cnt (sizeV x)) (be (cnt (sizeV x)) (sizeV x)) := by
      apply valF_congr
      intro i _
      unfold tailV
      rw [if_neg h]
    rw [this, hb, e]

include hy
theorem head_lt (h : headV x < headV y) : x < y := by
  have lx := size_lt hx
  have ly := size_lt hy
  unfold headV at h
  by_cases h1 : x < 0
  · by_cases h2 : y < 0
    · rw [if_pos h1, if_pos h2] at h
      have e1 : sizeV x = -1 - x := by unfold sizeV; rw [if_pos h1]
      have e2 : sizeV y = -1 - y := by unfold sizeV; rw [if_pos h2]
      have hg := cnt_ge (sizeV x) (by omega)
      have hm : (256 : Int) ^ cnt (sizeV y) ≤ 256 ^ (cnt (sizeV x) - 1) := pow_mono (by omega)
      omega
    · omega
  · by_cases h2 : y < 0
    · rw [if_neg h1, if_pos h2] at h
      omega
    · rw [if_neg h1, if_neg h2] at h
      have e1 : sizeV x = x := by unfold sizeV; rw [if_neg h1]
      have e2 : sizeV y = y := by unfold sizeV; rw [if_neg h2]
      have hg := cnt_ge (sizeV y) (by omega)
      have hm : (256 : Int) ^ cnt (sizeV x) ≤ 256 ^ (cnt (sizeV y) - 1) := pow_mono (by omega)
      omega
omit hx hy in
theorem head_same (h : headV x = headV y) : cnt (sizeV x) = cnt (sizeV y) ∧ (x < 0 ↔ y < 0) := by
  unfold headV at h
  (repeat' split at h) <;> omega
theorem kept_ahead : ahead (keptL x) (keptL y) = decide (x < y) := by
  unfold keptL
  rw [ahead_cons _ _ _ _ (headV_bd x) (headV_bd y)]
  by_cases h1 : headV x < headV y
  · rw [if_pos h1, decide_eq_true (head_lt hx hy h1)]
  · rw [if_neg h1]
    by_cases h2 : headV x = headV y
    · rw [if_pos h2]
      obtain ⟨hc, hs⟩ := head_same h2
      have tx := tail_val hx
      have ty := tail_val hy
      rw [← hc] at ty ⊢
      rw [ahead_valF _ (fun i _ => tailV_bd x i) (fun i _ => tailV_bd y i), tx, ty]
      apply decide_eq_decide.2
      by_cases h : x < 0
      · rw [if_pos h, if_pos (hs.1 h)]; omega
      · rw [if_neg h, if_neg (fun h' => h (hs.2 h'))]
    · rw [if_neg h2, decide_eq_false]
      intro h
      rcases Int.lt_trichotomy (headV x) (headV y) with h3 | h3 | h3
      · exact h1 h3
      · exact h2 h3
      · have := head_lt hy hx h3
        omega
theorem kept_same (h : headV x = headV y) (ht : lof (cnt (sizeV x)) (tailV x) = lof (cnt (sizeV y)) (tailV y)) : x = y := by
  obtain ⟨hc, hs⟩ := head_same h
  have tx := tail_val hx
  have ty := tail_val hy
  rw [← hc] at ty ht
  have e := (valF_inj _ (fun i _ => tailV_bd x i) (fun i _ => tailV_bd y i)).1 ht
  rw [tx, ty] at e
  by_cases h : x < 0
  · rw [if_pos h, if_pos (hs.1 h)] at e; omega
  · rw [if_neg h, if_neg (fun h' => h (hs.2 h'))] at e; exact e
theorem kept_prefix {r : List Int} (h : keptL x = keptL y ++ r) : x = y := by
  have hh : headV x = headV y := by unfold keptL at h; simpa using (List.cons.inj h).1
  have hl := congrArg List.length h
  rw [List.length_append, keptL_len, keptL_len, (head_same hh).1] at hl
  have : r = [] := List.eq_nil_of_length_eq_zero (by omega)
  rw [this, List.append_nil] at h
  unfold keptL at h
  exact kept_same hx hy hh (List.cons.inj h).2
end
end Go.Proofs.Ytclegljalndaear

/-
  Numbers in order, plainly: they come back of their bytes, and what is read of bytes has these.
-/
namespace Go.Proofs.Ytclegljalndaear
open Go.RowKit
set_option maxRecDepth 4000

theorem getF_put (l : List Int) (m : Nat) (x : Int) (hl : l.length = m) : getF (m + 4) (fun i => (l ++ fixL x).getD i 0) (m : Int) = (clampF x, (m : Int) + 4, true) := by
  rw [getF_is _ _ _ (Nat.le_refl _)]
  have e : valF 4 (fun i => (l ++ fixL x).getD (m + i) 0) = clampF x + 2147483648 := by
    rw [← valF_fix x]
    apply valF_congr
    intro i hi
    rw [behind _ _ _ _ hl]
    unfold fixL
    rw [lof_get 4 _ i hi]
  rw [e]
  simp only [Prod.mk.injEq, and_true]
  omega

theorem fix_read {n : Nat} {F : Nat → Int} {p a q : Int} (hb : ∀ i, i < n → 0 ≤ F i ∧ F i ≤ 255) (h : getF n F p = (a, q, true)) :
    ∃ i : Nat, p = (i : Int) ∧ q = (i : Int) + 4 ∧ i + 4 ≤ n ∧ -2147483648 ≤ a ∧ a ≤ 2147483647 ∧ fixL a = lof 4 (fun j => F (i + j)) := by
  unfold getF at h
  split at h
  · simp at h
  · obtain ⟨i, rfl⟩ := Int.eq_ofNat_of_zero_le (a := p) (by omega)
    simp only [Prod.mk.injEq, and_true, Int.toNat_natCast] at h
    obtain ⟨rfl, rfl⟩ := h
    have hbi : ∀ j, j < 4 → 0 ≤ F (i + j) ∧ F (i + j) ≤ 255 := fun j hj => hb _ (by omega)
    have hv := valF4_bd (fun j => F (i + j)) hbi
    refine ⟨i, rfl, rfl, by omega, by omega, by omega, ?_⟩
    unfold fixL
    rw [clampF_self _ (by omega), Int.sub_add_cancel]
    unfold lof
    apply List.map_congr_left
    intro j hj
    exact be_valF 4 _ hbi j (List.mem_range.1 hj)

theorem hcnt_head (x : Int) : hcnt (headV x) = cnt (sizeV x) ∧ (headV x < 128 ↔ x < 0) := by
  unfold headV hcnt
  (repeat' split) <;> omega

theorem getV_put (l : List Int) (m : Nat) (x : Int) (hl : l.length = m) : getV (m + (varL x).length) (fun i => (l ++ varL x).getD i 0) (m : Int) = (clampV x, (m : Int) + ((varL x).length : Int), true) := by
  have hy := clampV_bd x
  unfold varL
  generalize clampV x = y at *
  have hlen := keptL_len y
  obtain ⟨hh, hs⟩ := hcnt_head y
  have hF0 : (l ++ keptL y).getD m 0 = headV y := by
    have := behind l (keptL y) m 0 hl
    rw [Nat.add_zero] at this
    rw [this]
    rfl
  have hFt : ∀ j, j < cnt (sizeV y) → (l ++ keptL y).getD (m + 1 + j) 0 = tailV y j := by
    intro j hj
    rw [Nat.add_assoc, behind _ _ _ _ hl, Nat.add_comm 1 j]
    show (lof (cnt (sizeV y)) (tailV y)).getD j 0 = _
    exact lof_get _ _ j hj
  have hD : ∀ j, j < cnt (sizeV y) → digF (fun i => (l ++ keptL y).getD i 0) m j = be (cnt (sizeV y)) (sizeV y) j := by
    intro j hj
    unfold digF turnF
    simp only [hF0, hFt j hj]
    unfold tailV
    by_cases h : y < 0
    · rw [if_pos (by simpa using hs.2 h), if_pos h]; omega
    · rw [if_neg (by simpa using fun h' => h (hs.1 h')), if_neg h]
  have hv : valF (cnt (sizeV y)) (digF (fun i => (l ++ keptL y).getD i 0) m) = sizeV y := by
    rw [valF_congr _ _ _ hD]
    exact size_back hy
  have hn : numV (fun i => (l ++ keptL y).getD i 0) m = y := by
    unfold numV
    simp only [hF0, hh, hv]
    unfold sizeV
    by_cases h : y < 0
    · rw [if_pos (hs.2 h), if_pos h]; omega
    · rw [if_neg (fun h' => h (hs.1 h')), if_neg h]
  rw [getV_is]
  · simp only [hF0, hh, hn, hlen, Prod.mk.injEq, and_true, true_and]
    omega
  · omega
  · simp only [hF0, hh, hlen]
    have := cnt_le (sizeV y)
    omega
  · unfold badV
    simp only [hF0, hh, hn]
    have hc := (cnt_valF (cnt (sizeV y)) (be (cnt (sizeV y)) (sizeV y)) (cnt_le _) (fun i _ => be_bd _ _ i)).1 (by rw [size_back hy])
    rintro (⟨h0, h1⟩ | h | h)
    · rw [hD 0 h0] at h1
      exact hc ⟨h0, h1⟩
    · omega
    · omega

theorem var_read {n : Nat} {F : Nat → Int} {p a q : Int} (hb : ∀ i, i < n → 0 ≤ F i ∧ F i ≤ 255) (h : getV n F p = (a, q, true)) :
    ∃ i : Nat, p = (i : Int) ∧ q = (i : Int) + ((varL a).length : Int) ∧ i + (varL a).length ≤ n ∧ -1000000000000000 ≤ a ∧ a ≤ 1000000000000000 ∧ varL a = lof (varL a).length (fun j => F (i + j)) := by
  by_cases h1 : p < 0 ∨ (n : Int) ≤ p
  · rw [getV_out n F p h1] at h; simp at h
  obtain ⟨i, rfl⟩ := Int.eq_ofNat_of_zero_le (a := p) (by omega)
  have hin : i < n := by omega
  by_cases h2 : 7 < hcnt (F i) ∨ n < i + 1 + hcnt (F i)
  · rw [getV_few n F i hin h2] at h; simp at h
  by_cases h3 : badV F i
  · rw [getV_bad n F i hin h2 h3] at h; simp at h
  rw [getV_is n F i hin h2 h3] at h
  simp only [Prod.mk.injEq, and_true] at h
  obtain ⟨rfl, rfl⟩ := h
  unfold badV at h3
  have hhi := hb i hin
  have hD : ∀ j, j < hcnt (F i) → 0 ≤ digF F i j ∧ digF F i j ≤ 255 := turnF_bd _ (fun j hj => hb _ (by omega))
  have hv := valF7 (hcnt (F i)) (digF F i) (by omega) hD
  have hcv := (cnt_valF (hcnt (F i)) (digF F i) (by omega) hD).2 (fun h => h3 (Or.inl h))
  have hbe := be_valF (hcnt (F i)) (digF F i) hD
  have hrange : -1000000000000000 ≤ numV F i ∧ numV F i ≤ 1000000000000000 := by omega
  have hneg : numV F i < 0 ↔ F i < 128 := by unfold numV; split <;> omega
  have hsz : sizeV (numV F i) = valF (hcnt (F i)) (digF F i) := by
    unfold sizeV
    by_cases h : F i < 128
    · rw [if_pos (hneg.2 h)]; unfold numV; rw [if_pos h]; omega
    · rw [if_neg (fun h' => h (hneg.1 h'))]; unfold numV; rw [if_neg h]
  have hlen : (varL (numV F i)).length = hcnt (F i) + 1 := by unfold varL; rw [clampV_self _ hrange, keptL_len, hsz, hcv]
  refine ⟨i, rfl, by rw [hlen]; omega, by rw [hlen]; omega, hrange.1, hrange.2, ?_⟩
  rw [hlen, Nat.add_comm (hcnt (F i)) 1, lof_cons]
  unfold varL keptL
  rw [clampV_self _ hrange, hsz, hcv]
  congr 1
  · unfold headV
    rw [hsz, hcv, Nat.add_zero]
    unfold hcnt
    by_cases h : F i < 128
    · rw [if_pos (hneg.2 h), if_pos h]; omega
    · rw [if_neg (fun h' => h (hneg.1 h')), if_neg h]; omega
  · unfold lof
    apply List.map_congr_left
    intro j hj
    have hj := List.mem_range.1 hj
    unfold tailV
    rw [hsz, hcv, hbe j hj, show i + (j + 1) = i + 1 + j by omega]
    unfold digF turnF
    by_cases h : F i < 128
    · rw [if_pos (hneg.2 h), if_pos (by simpa using h)]
      show 255 - (255 - F (i + 1 + j)) = F (i + 1 + j)
      omega
    · rw [if_neg (fun h' => h (hneg.1 h')), if_neg (by simpa using h)]
end Go.Proofs.Ytclegljalndaear

/-
  Texts in order, plainly: they come back of their bytes; the order of the bytes is theirs; none is the beginning of another one.
-/
namespace Go.Proofs.Ytclegljalndaear
open Go.RowKit
set_option maxRecDepth 4000

theorem byteBack (b : UInt8) : UInt8.ofNat ((b.toNat : Int)).toNat = b := by simp
theorem strOfNums_sl (s : ByteArray) : strOfNums (sl s) = s := by
  apply ByteArray.ext
  apply Array.toList_inj.1
  rw [strOfNums_data]
  unfold sl
  rw [List.map_map]
  conv => rhs; rw [← List.map_id s.data.toList]
  apply List.map_congr_left
  intro b _
  exact byteBack b
theorem sl_inj {s t : ByteArray} (h : sl s = sl t) : s = t := by rw [← strOfNums_sl s, ← strOfNums_sl t, h]

def escU : List UInt8 → List UInt8
  | [] => []
  | x :: xs => (if x = 0 then [0, 255] else [x]) ++ escU xs

theorem less_esc : ∀ a b : List UInt8, Op.bytesLess (escU a ++ [0, 1]) (escU b ++ [0, 1]) = Op.bytesLess a b
  | [], [] => by decide
  | [], y :: ys => by
    by_cases h : y = 0
    · subst h; simp [escU, Op.bytesLess]
    · have h0 : (0 : UInt8) < y := by
        rw [UInt8.lt_iff_toNat_lt]
        have : y.toNat ≠ 0 := fun e => h (UInt8.toNat_inj.1 e)
        show 0 < y.toNat
        omega
      simp [escU, Op.bytesLess, h, h0]
  | x :: xs, [] => by
    by_cases h : x = 0
    · subst h; simp [escU, Op.bytesLess]
    · simp [escU, Op.bytesLess, h]
  | x :: xs, y :: ys => by
    have ih := less_esc xs ys
    by_cases hx : x = 0
    · by_cases hy : y = 0
      · subst hx hy
        simp [escU, Op.bytesLess, ih]
      · subst hx
        have h0 : (0 : UInt8) < y := by
          rw [UInt8.lt_iff_toNat_lt]
          have : y.toNat ≠ 0 := fun e => hy (UInt8.toNat_inj.1 e)
          show 0 < y.toNat
          omega
        simp [escU, Op.bytesLess, hy, h0]
    · by_cases hy : y = 0
      · subst hy
        have hb : (x == 0) = false := by simpa using hx
        simp [escU, Op.bytesLess, hx, hb]
      · simp [escU, Op.bytesLess, hx, hy, ih]

theorem escL_U : ∀ l : List UInt8, (escL (l.map (fun b => (b.toNat : Int)))).map (fun n => UInt8.ofNat n.toNat) = escU l
  | [] => rfl
  | x :: xs => by
    have ih := escL_U xs
    simp only [List.map_cons, escL, List.map_append, ih, escU]
    congr 1
    by_cases h : x = 0
    · subst h; simp [esc1]
    · have : ((x.toNat : Int)) ≠ 0 := by
        intro e
        apply h
        apply UInt8.toNat_inj.1
        show x.toNat = 0
        omega
      unfold esc1
      rw [if_neg this, if_neg h]
      simp

theorem esc_ahead (s t : ByteArray) : ahead (escL (sl s) ++ [0, 1]) (escL (sl t) ++ [0, 1]) = Op.bytesLess s.toList t.toList := by
  unfold ahead
  rw [toList_data, toList_data, toList_data, toList_data, strOfNums_data, strOfNums_data, List.map_append, List.map_append]
  unfold sl
  rw [escL_U, escL_U]
  exact less_esc _ _

theorem esc_prefix {a b rest : List Int} (h : escL a ++ [0, 1] = (escL b ++ [0, 1]) ++ rest) : a = b := by
  have h1 := readE_put a []
  have h2 := readE_put b rest
  rw [h, List.append_assoc] at h1
  rw [show [0, 1] ++ rest = 0 :: 1 :: rest from rfl, h2] at h1
  cases h1
  rfl

theorem fromL_drop (l : List Int) (k : Nat) : fromL l.length (fun i => l.getD i 0) k = l.drop k := by
  unfold fromL lof
  apply List.ext_getElem
  · simp
  · intro i h1 h2
    simp at h1
    have : k + i < l.length := by omega
    simp [this]

theorem getE_putE (m : Nat) (f : Nat → Int) (s : ByteArray) : getE (m + escN s) (fun i => (escT m f s).getD i 0) (m : Int) = (s, ((m + escN s : Nat) : Int), true) := by
  have h := fromL_drop (escT m f s) m
  rw [escT_len] at h
  have h2 : readE (fromL (m + escN s) (fun i => (escT m f s).getD i 0) m) = some (sl s, escN s) := by
    rw [h]
    unfold escT
    rw [List.drop_left' (lof_len m f)]
    exact readE_put (sl s) []
  rw [getE_some h2, strOfNums_sl]
  simp

end Go.Proofs.Ytclegljalndaear

/-
  What is read as a text in order has these bytes.
-/
namespace Go.Proofs.Ytclegljalndaear
open Go.RowKit
set_option maxRecDepth 4000

theorem mem_escL {t : List Int} {y : Int} (h : y ∈ t) : y ∈ escL t := by
  induction t with
  | nil => cases h
  | cons x xs ih =>
    rcases List.mem_cons.1 h with rfl | h
    · refine List.mem_append_left _ ?_
      unfold esc1
      split
      · rename_i e; subst e; simp
      · simp
    · exact List.mem_append_right _ (ih h)

theorem sl_strOfNums {t : List Int} (h : ∀ y ∈ t, 0 ≤ y ∧ y ≤ 255) : sl (strOfNums t) = t :=
  strOfNums_inj (sl_byte _) h (strOfNums_sl _)

theorem fromL_len (n : Nat) (f : Nat → Int) (k : Nat) : (fromL n f k).length = n - k := by unfold fromL; rw [lof_len]

theorem getE_back {m : Nat} {F : Nat → Int} {x : Int} {s : ByteArray} {q : Int} (hF : ∀ i, i < m → 0 ≤ F i ∧ F i ≤ 255) (h : getE m F x = (s, q, true)) :
    ∃ p K : Nat, x = (p : Int) ∧ q = (p : Int) + (K : Int) ∧ p + K ≤ m ∧ 2 ≤ K ∧ s.size ≤ K ∧ lof K (fun i => F (p + i)) = escL (sl s) ++ [0, 1] := by
  unfold getE at h
  by_cases hx : x < 0
  · rw [if_pos hx] at h; cases h
  · rw [if_neg hx] at h
    cases hr : readE (fromL m F x.toNat) with
    | none => rw [hr] at h; cases h
    | some r =>
      obtain ⟨t, K⟩ := r
      rw [hr] at h
      cases h
      obtain ⟨h1, h2⟩ := readE_is _ _ _ hr
      rw [fromL_len] at h1
      have hK : K = (escL t).length + 2 := by
        have := congrArg List.length h2
        rw [List.length_take, fromL_len, List.length_append] at this
        simp at this
        omega
      have hle := escL_len t
      have e1 : (fromL m F x.toNat).take K = lof K (fun i => F (x.toNat + i)) := by
        unfold fromL lof
        rw [← List.map_take, List.take_range, Nat.min_eq_left h1]
      rw [e1] at h2
      have hby : ∀ y ∈ t, 0 ≤ y ∧ y ≤ 255 := by
        intro y hy
        have hm : y ∈ lof K (fun i => F (x.toNat + i)) := by rw [h2]; exact List.mem_append_left _ (mem_escL hy)
        simp only [lof, List.mem_map, List.mem_range] at hm
        obtain ⟨j, hj, rfl⟩ := hm
        exact hF _ (by omega)
      refine ⟨x.toNat, K, by omega, by omega, by omega, by omega, ?_, ?_⟩
      · show (strOfNums t).size ≤ K
        rw [strOfNums_size]; omega
      · rw [sl_strOfNums hby]; exact h2
end Go.Proofs.Ytclegljalndaear

/-
  One value in a key, plainly: it comes back of its bytes, and what is read of bytes fits and has these.
-/
namespace Go.Proofs.Ytclegljalndaear
open Go.RowKit
set_option maxRecDepth 4000

theorem turned_twice (d : Bool) (f : Nat → Int) : turned d (turned d f) = f := by
  unfold turned
  cases d
  · rfl
  · funext i
    show 255 - (255 - f i) = f i
    omega

/-- What a value is of its kind. -/
theorem okF_cases {k n : Int} {s : ByteArray} (h : okF k n s = true) :
    (k = 0 ∧ n = 0 ∧ s = noBytes) ∨ (k = 1 ∧ (-2147483648 ≤ n ∧ n ≤ 2147483647) ∧ s = noBytes) ∨ (k = 2 ∧ (-1000000000000000 ≤ n ∧ n ≤ 1000000000000000) ∧ s = noBytes) ∨ (k = 3 ∧ n = 0 ∧ s.size ≤ 30) ∨ (k = 4 ∧ (n = 0 ∨ n = 1) ∧ s = noBytes) := by
  obtain ⟨v, hr, rfl, rfl, rfl⟩ := okF_iff.1 h
  cases v with
  | null => left; exact ⟨rfl, rfl, rfl⟩
  | int n => right; left; exact ⟨rfl, by simpa [V.rng, V.n] using hr, rfl⟩
  | num n => right; right; left; exact ⟨rfl, by simpa [V.rng, V.n] using hr, rfl⟩
  | text s => right; right; right; left; exact ⟨rfl, rfl, by simpa [V.rng, V.s] using hr⟩
  | bool b => right; right; right; right; exact ⟨rfl, by cases b <;> simp [V.n], rfl⟩

theorem rawT_put (l : List Int) (m : Nat) (k n : Int) (s : ByteArray) (hl : l.length = m) (hok : okF k n s = true) (h0 : k ≠ 0) :
    rawT (m + (valL k n s).length) (fun i => (l ++ valL k n s).getD i 0) k (m : Int) = ⟨k, n, s, (m : Int) + ((valL k n s).length : Int), true⟩ := by
  unfold rawT
  rcases okF_cases hok with ⟨rfl, -⟩ | ⟨rfl, hn, rfl⟩ | ⟨rfl, hn, rfl⟩ | ⟨rfl, rfl, hs⟩ | ⟨rfl, hn, rfl⟩
  · exact absurd rfl h0
  · have hv : valL 1 n noBytes = fixL n := rfl
    rw [hv, if_pos rfl, fixL_len, getF_put l m n hl, clampF_self n hn]
    rfl
  · have hv : valL 2 n noBytes = varL n := rfl
    rw [hv, if_neg (by decide), if_pos rfl, getV_put l m n hl, clampV_self n hn]
  · have hv : valL 3 0 s = escL (sl s) ++ [0, 1] := rfl
    rw [hv, if_neg (by decide), if_neg (by decide), if_pos rfl]
    have e := getE_putE m (fun i => l.getD i 0) s
    have hlf : lof m (fun i => l.getD i 0) = l := by have := lof_self l; rw [hl] at this; exact this
    unfold escT escN at e
    rw [hlf] at e
    have hlen : (escL (sl s) ++ [0, 1]).length = (escL (sl s)).length + 2 := by simp
    rw [hlen, e]
    simp
  · have hv : valL 4 n noBytes = [n % 256] := rfl
    rw [hv, if_neg (by decide), if_neg (by decide), if_neg (by decide)]
    have e : (l ++ [n % 256]).getD m 0 = n := by
      have := behind l [n % 256] m 0 hl
      rw [Nat.add_zero] at this
      rw [this]
      show n % 256 = n
      omega
    have hlen : ([n % 256] : List Int).length = 1 := rfl
    rw [hlen, if_pos (by omega), Int.toNat_natCast]
    simp only [e]
    rfl

theorem chk_self (g : Got) (h1 : g.ok = true) (h2 : okF g.k g.n g.s = true) : g.chk = g := by unfold Got.chk; rw [h1, h2]; rfl

/-- What fits comes back. -/
theorem part_back (l : List Int) (m : Nat) (c t : Int) (nul d : Bool) (k n : Int) (s : ByteArray) (hl : l.length = m) (hp : partOk c t = true) (hf : fitsP t nul k n s = true) :
    getP (m + (partL nul k n s).length) (turned d (fun i => (l ++ partL nul k n s).getD i 0)) c t nul d (m : Int) = ⟨k, n, s, (m : Int) + ((partL nul k n s).length : Int), true⟩ := by
  unfold getP
  rw [if_neg (by rw [hp]; simp; omega), turned_twice]
  unfold fitsP at hf
  simp only [Bool.and_eq_true, Bool.or_eq_true, decide_eq_true_eq] at hf
  obtain ⟨hok, hk⟩ := hf
  unfold getN partL
  rcases hk with ⟨rfl, h0⟩ | ⟨rfl, rfl⟩
  · rw [if_neg h0]
    cases nul with
    | false =>
      simp only [Bool.false_eq_true, if_false]
      unfold getT
      rw [rawT_put l m k n s hl hok h0]
      exact chk_self _ rfl hok
    | true =>
      simp only [if_true]
      have e1 : (l ++ 1 :: valL k n s).getD m 0 = 1 := by
        have := behind l (1 :: valL k n s) m 0 hl
        rw [Nat.add_zero] at this
        rw [this]
        rfl
      have hlen : (1 :: valL k n s).length = (valL k n s).length + 1 := rfl
      rw [Int.toNat_natCast, e1, if_neg (by rw [hlen]; omega), if_neg (by decide)]
      unfold getT
      have e := rawT_put (l ++ [1]) (m + 1) k n s (by simp [hl]) hok h0
      rw [List.append_assoc] at e
      have e' : ([1] ++ valL k n s : List Int) = 1 :: valL k n s := rfl
      rw [e'] at e
      rw [show ((m + 1 : Nat) : Int) = (m : Int) + 1 by omega] at e
      rw [show m + (1 :: valL k n s).length = m + 1 + (valL k n s).length by rw [hlen]; omega, e]
      rw [show (m : Int) + 1 + ((valL k n s).length : Int) = (m : Int) + ((1 :: valL k n s).length : Int) by rw [hlen]; omega]
      exact chk_self _ rfl hok
  · rcases okF_cases hok with ⟨-, rfl, rfl⟩ | ⟨h, -⟩ | ⟨h, -⟩ | ⟨h, -⟩ | ⟨h, -⟩
    · simp only [if_true]
      have e1 : (l ++ [0]).getD m 0 = 0 := by
        have := behind l [0] m 0 hl
        rw [Nat.add_zero] at this
        rw [this]
        rfl
      rw [Int.toNat_natCast, e1, if_neg (by simp; omega), if_pos rfl]
      rfl
    all_goals exact absurd h (by decide)

theorem chk_ok {g h : Got} (e : g.chk = h) (ho : h.ok = true) : g = h ∧ okF g.k g.n g.s = true ∧ g.ok = true := by
  unfold Got.chk at e
  by_cases hc : g.ok = true ∧ okF g.k g.n g.s = true
  · rw [if_pos (by rw [hc.1, hc.2]; rfl)] at e
    exact ⟨e, hc.2, hc.1⟩
  · rw [if_neg (by rw [Bool.and_eq_true]; exact hc)] at e
    subst e
    cases ho

theorem rawT_read {N : Nat} {F : Nat → Int} {t p k n q : Int} {s : ByteArray} (hb : ∀ i, i < N → 0 ≤ F i ∧ F i ≤ 255) (ht : 1 ≤ t ∧ t ≤ 4) (h : rawT N F t p = ⟨k, n, s, q, true⟩) (hok : okF k n s = true) :
    k = t ∧ ∃ i : Nat, p = (i : Int) ∧ q = (i : Int) + ((valL k n s).length : Int) ∧ i + (valL k n s).length ≤ N ∧ valL k n s = lof (valL k n s).length (fun j => F (i + j)) := by
  unfold rawT at h
  obtain rfl | rfl | rfl | rfl : t = 1 ∨ t = 2 ∨ t = 3 ∨ t = 4 := by omega
  · rw [if_pos rfl] at h
    simp only [Got.mk.injEq] at h
    obtain ⟨rfl, h1, rfl, h2, h3⟩ := h
    obtain ⟨i, rfl, rfl, hi, -, -, hL⟩ := fix_read hb (p := p) (a := n) (q := q) (by rw [← h1, ← h2, ← h3])
    have hv : valL 1 n noBytes = fixL n := rfl
    rw [hv, fixL_len]
    exact ⟨rfl, i, rfl, rfl, hi, hL⟩
  · rw [if_neg (by decide), if_pos rfl] at h
    simp only [Got.mk.injEq] at h
    obtain ⟨rfl, h1, rfl, h2, h3⟩ := h
    obtain ⟨i, rfl, rfl, hi, -, -, hL⟩ := var_read hb (p := p) (a := n) (q := q) (by rw [← h1, ← h2, ← h3])
    have hv : valL 2 n noBytes = varL n := rfl
    rw [hv]
    exact ⟨rfl, i, rfl, rfl, hi, hL⟩
  · rw [if_neg (by decide), if_neg (by decide), if_pos rfl] at h
    simp only [Got.mk.injEq] at h
    obtain ⟨rfl, rfl, h1, h2, h3⟩ := h
    obtain ⟨i, K, rfl, rfl, hi, -, -, hL⟩ := getE_back hb (x := p) (s := s) (q := q) (by rw [← h1, ← h2, ← h3])
    have hv : valL 3 0 s = escL (sl s) ++ [0, 1] := rfl
    have hK : (valL 3 0 s).length = K := by rw [hv, ← hL, lof_len]
    rw [hK, hv]
    exact ⟨rfl, i, rfl, rfl, hi, hL.symm⟩
  · rw [if_neg (by decide), if_neg (by decide), if_neg (by decide)] at h
    by_cases hp : 0 ≤ p ∧ p < N
    · rw [if_pos hp] at h
      simp only [Got.mk.injEq] at h
      obtain ⟨rfl, rfl, rfl, rfl, -⟩ := h
      obtain ⟨i, rfl⟩ := Int.eq_ofNat_of_zero_le hp.1
      have hbi := hb i (by omega)
      have hv : valL 4 (F i) noBytes = [F i % 256] := rfl
      rw [Int.toNat_natCast, hv]
      refine ⟨rfl, i, rfl, rfl, by show i + 1 ≤ N; omega, ?_⟩
      show [F i % 256] = [F (i + 0)]
      rw [Nat.add_zero, Int.emod_eq_of_lt hbi.1 (by omega)]
    · rw [if_neg hp] at h
      simp at h

theorem turned_bd {d : Bool} {N : Nat} {F : Nat → Int} (hb : ∀ i, i < N → 0 ≤ F i ∧ F i ≤ 255) : ∀ i, i < N → 0 ≤ turned d F i ∧ turned d F i ≤ 255 := by
  intro i hi
  have := hb i hi
  unfold turned
  cases d
  · exact this
  · show 0 ≤ 255 - F i ∧ 255 - F i ≤ 255; omega
theorem turnL_lof (d : Bool) (k : Nat) (F : Nat → Int) (i : Nat) : turnL d (lof k (fun j => turned d F (i + j))) = lof k (fun j => F (i + j)) := by
  unfold turnL turned
  cases d
  · rfl
  · simp only [if_true]
    unfold lof
    rw [List.map_map]
    apply List.map_congr_left
    intro j _
    show 255 - (255 - F (i + j)) = F (i + j)
    omega

/-- What is read fits, and has these bytes. -/
theorem part_read {N : Nat} {F : Nat → Int} {c t : Int} {nul d : Bool} {p k n q : Int} {s : ByteArray} (hb : ∀ i, i < N → 0 ≤ F i ∧ F i ≤ 255) (h : getP N F c t nul d p = ⟨k, n, s, q, true⟩) :
    partOk c t = true ∧ fitsP t nul k n s = true ∧ ∃ i : Nat, p = (i : Int) ∧ q = (i : Int) + ((putPL c t nul d k n s).length : Int) ∧ i + (putPL c t nul d k n s).length ≤ N ∧ putPL c t nul d k n s = lof (putPL c t nul d k n s).length (fun j => F (i + j)) := by
  unfold getP at h
  by_cases h1 : partOk c t = false ∨ p < 0 ∨ (N : Int) < p
  · rw [if_pos h1] at h
    exact absurd (congrArg Got.ok h) (fun e => by cases e)
  rw [if_neg h1] at h
  have hp : partOk c t = true := by simpa using fun e => h1 (Or.inl e)
  obtain ⟨i, rfl⟩ := Int.eq_ofNat_of_zero_le (a := p) (by omega)
  have hbt := turned_bd (d := d) hb
  have ht : 1 ≤ t ∧ t ≤ 4 := by unfold partOk at hp; simp at hp; omega
  -- what is to be shown, of the bytes ahead of a turn
  have key : ∀ K : Nat, fitsP t nul k n s = true → q = (i : Int) + (K : Int) → i + K ≤ N → partL nul k n s = lof K (fun j => turned d F (i + j)) →
      partOk c t = true ∧ fitsP t nul k n s = true ∧ ∃ i' : Nat, (i : Int) = (i' : Int) ∧ q = (i' : Int) + ((putPL c t nul d k n s).length : Int) ∧ i' + (putPL c t nul d k n s).length ≤ N ∧ putPL c t nul d k n s = lof (putPL c t nul d k n s).length (fun j => F (i' + j)) := by
    intro K hf hq hi hL
    have e : putPL c t nul d k n s = lof K (fun j => F (i + j)) := by
      unfold putPL
      rw [hp, hf, hL]
      exact turnL_lof d K F i
    rw [e, lof_len]
    exact ⟨hp, hf, i, rfl, hq, hi, rfl⟩
  unfold getN at h
  cases nul with
  | false =>
    simp only [Bool.false_eq_true, if_false] at h
    obtain ⟨h2, hok, -⟩ := chk_ok h rfl
    rw [h2] at hok
    obtain ⟨rfl, i', hi', hq, hle, hL⟩ := rawT_read hbt ht h2 hok
    obtain rfl : i = i' := by omega
    have hf : fitsP k false k n s = true := by unfold fitsP; rw [hok]; simp; omega
    refine key _ hf hq hle ?_
    have : partL false k n s = valL k n s := by unfold partL; rw [if_neg (by omega)]; rfl
    rw [this]
    exact hL
  | true =>
    simp only [if_true, Int.toNat_natCast] at h
    by_cases h3 : (i : Int) = N ∨ 1 < turned d F i
    · rw [if_pos h3] at h
      exact absurd (congrArg Got.ok h) (fun e => by cases e)
    rw [if_neg h3] at h
    have hin : i < N := by omega
    have hbi := hbt i hin
    by_cases h4 : turned d F i = 0
    · rw [if_pos h4] at h
      simp only [Got.mk.injEq, and_true] at h
      obtain ⟨rfl, rfl, rfl, rfl⟩ := h
      have h0 : okF 0 0 noBytes = true := by simp [okF, ofFields, V.rng, V.k, V.n, V.s]
      refine key 1 (by unfold fitsP; rw [h0]; simp) rfl (by omega) ?_
      show [0] = [turned d F (i + 0)]
      rw [Nat.add_zero, h4]
    · rw [if_neg h4] at h
      have h5 : turned d F i = 1 := by omega
      obtain ⟨h2, hok, -⟩ := chk_ok h rfl
      rw [h2] at hok
      obtain ⟨rfl, i', hi', hq, hle, hL⟩ := rawT_read hbt ht h2 hok
      obtain rfl : i' = i + 1 := by omega
      have hf : fitsP k true k n s = true := by unfold fitsP; rw [hok]; simp
      refine key (1 + (valL k n s).length) hf (by omega) (by omega) ?_
      have : partL true k n s = 1 :: valL k n s := by unfold partL; rw [if_neg (by omega)]; rfl
      rw [this, lof_cons, Nat.add_zero, h5]
      congr 1
      rw [hL, lof_len]
      unfold lof
      apply List.map_congr_left
      intro j _
      rw [show i + (j + 1) = i + 1 + j by omega]
end Go.Proofs.Ytclegljalndaear

/-
  What DecodeKey comes to.
-/
namespace Go.Proofs.Ytclegljalndaear
open Go.RowKit
set_option maxRecDepth 4000

theorem decQ_none {N : Nat} {F : Nat → Int} {fc ft : Nat → Int} {fu fd : Nat → Bool} {k : Nat} (h : decQ N F fc ft fu fd k = none) : ∀ j, decQ N F fc ft fu fd (k + j) = none
  | 0 => h
  | j + 1 => by rw [← Nat.add_assoc, decQ, decQ_none h j]; rfl
/-- The places lie within. -/
theorem decQ_bd {N : Nat} {F : Nat → Int} {fc ft : Nat → Int} {fu fd : Nat → Bool} (hb : ∀ i, i < N → 0 ≤ F i ∧ F i ≤ 255) : ∀ {k : Nat} {p : Int}, decQ N F fc ft fu fd k = some p → 0 ≤ p ∧ p ≤ N
  | 0, p, h => by rw [decQ] at h; have := Option.some.inj h; omega
  | k + 1, p, h => by
    obtain ⟨p', h1, h2, h3⟩ := decQ_succ h
    obtain ⟨kk, y, s, q, ok, hg⟩ : ∃ kk y s q ok, getP N F (fc k) (ft k) (fu k) (fd k) p' = ⟨kk, y, s, q, ok⟩ := ⟨_, _, _, _, _, rfl⟩
    rw [hg] at h2 h3
    simp only at h2 h3
    subst h2 h3
    obtain ⟨_, _, i, _, hq, hi, _⟩ := part_read hb hg
    omega

section
variable (N : Nat) (F : Nat → Int) (fc ft : Nat → Int) (fu fd : Nat → Bool)
def decK (i : Nat) : Int := (decG N F fc ft fu fd i).k
def decNm (i : Nat) : Int := (decG N F fc ft fu fd i).n
def decS (i : Nat) : ByteArray := (decG N F fc ft fu fd i).s
end

/-- What DecodeKey comes to. -/
def Decs (w : World) (n N : Nat) (F : Nat → Int) (fc ft : Nat → Int) (fu fd : Nat → Bool) (e : Ending) (w' : World) : Prop :=
  ∃ v M, e = .returned (.tuple #[v, .bool (decOk N F fc ft fu fd n)]) ∧ v ≠ .slice none 0 0 ∧ M = (if decOk N F fc ft fu fd n then n else 0) ∧ w'.ownsRow w.heap.size 59 3 v M (rowC (decK N F fc ft fu fd) (decNm N F fc ft fu fd) (decS N F fc ft fu fd) M) ∧ Below w.heap.size w w'
end Go.Proofs.Ytclegljalndaear

/-
  A row of values grows by one value.
-/

namespace Go.Proofs.Ytclegljalndaear
open Go.RowKit
set_option maxRecDepth 4000

theorem infoVal3 : ∃ i, Try.prog.info? 59 = some i ∧ i.zero = some (.agg #[.int .i64 0, .int .i64 0, .string ⟨#[]⟩]) ∧ i.size = 3 ∧ i.bytes = 32 := by
  have h : (Try.prog.info? 59).map (fun i => (i.zero, i.size, i.bytes)) = some (some (.agg #[.int .i64 0, .int .i64 0, .string ⟨#[]⟩]), 3, 32) := by kernel_rfl
  obtain ⟨i, hi, hz⟩ := Option.map_eq_some_iff.1 h
  simp only [Prod.mk.injEq] at hz
  exact ⟨i, hi, hz.1, hz.2.1, hz.2.2⟩

/-- The cells of a new row of one value. -/
theorem cells_one (W : World) (k n : Int) (s : ByteArray) : ∀ j u, [Value.int .i64 k, .int .i64 n, .string s][j]? = some u → (W.alloc (.cells #[.int .i64 k, .int .i64 n, .string s] 59)).cell? ((⟨W.heap.size, 0, none⟩ : Addr).add j) = some u := by
  intro j u h
  obtain ⟨c0, c1, c2⟩ := (Box.new W k n s).cells
  have ea : ∀ j, (⟨W.heap.size, 0, none⟩ : Addr).add j = ⟨W.heap.size, 0 + j, none⟩ := fun j => by unfold Addr.add; split <;> simp_all
  match j, h with
  | 0, h => cases h; rw [ea]; exact c0
  | 1, h => cases h; rw [ea]; exact c1
  | 2, h => cases h; rw [ea]; exact c2
  | j + 3, h => simp at h
theorem one_cells (k n : Int) (s : ByteArray) : ∀ u ∈ [Value.int .i64 k, .int .i64 n, .string s], u.oneCell' = true := by
  intro u hu
  simp at hu
  rcases hu with rfl | rfl | rfl <;> rfl

theorem own_below3 {w w' : World} {base : Nat} {t : TypeId} {v : Value} {n : Nat} {l : List Value} (h : w.ownsRow base t 3 v n l) (hb : Below w.heap.size w w') : w'.ownsRow base t 3 v n l := by
  refine h.kept (row := none) ⟨hb.os, hb.tape, hb.output, hb.size, fun k hk _ => hb.block k hk⟩ ?_
  cases hv : v.ownBlock with
  | none => exact Or.inl rfl
  | some k => exact Or.inr (fun e => by cases e)
/-- The value of a part's column. -/
def pickK (fc : Nat → Int) (m : Nat) (f : Nat → Int) (i : Nat) : Int := if 0 ≤ fc i ∧ fc i < m then f (fc i).toNat else 0
def pickS (fc : Nat → Int) (m : Nat) (f : Nat → ByteArray) (i : Nat) : ByteArray := if 0 ≤ fc i ∧ fc i < m then f (fc i).toNat else ⟨#[]⟩
end Go.Proofs.Ytclegljalndaear

/-
  The model's PutFix: what was there, and behind it the number's four bytes, in memory of its own.
-/
namespace Go.Proofs.Ytclegljalndaear
open Go.RowKit
set_option maxRecDepth 4000

theorem cellsNew4 (w : World) (a b c d : Value) (t : TypeId) : ∀ j u, [a, b, c, d][j]? = some u → (w.alloc (.cells #[a, b, c, d] t)).cell? ((⟨w.heap.size, 0, none⟩ : Addr).add j) = some u := by
  intro j u hj
  match j, hj with
  | 0, hj => simp at hj; subst hj; simp [Addr.add]
  | 1, hj => simp at hj; subst hj; simp [Addr.add]
  | 2, hj => simp at hj; subst hj; simp [Addr.add]
  | 3, hj => simp at hj; subst hj; simp [Addr.add]

theorem fixL_is (x y : Int) (hy : y = clampF x + 2147483648) : fixL x = [y / 16777216 % 256, y / 65536 % 256, y / 256 % 256, y % 256] := by
  subst hy
  unfold fixL
  simp [lof, be, dg, List.range_succ]

set_option maxHeartbeats 1000000 in
theorem putFix_own (b off n cap : Nat) (f : Nat → Int) (x : Int) (w : World) (hv : View w (some ⟨b, off, none⟩) n cap f) (hn : n ≤ 70368744170000) (hx0 : -9223372036854775808 ≤ x) (hx1 : x ≤ 9223372036854775807) :
    Calls Try.prog 73 #[.slice (some ⟨b, off, none⟩) n cap, .int .i64 x] w fun e w' => ∃ v, e = .returned v ∧ w'.ownsRow w.heap.size 5 1 v (n + 4) (bl (lof n f ++ fixL x)) ∧ Below w.heap.size w w' := by
  obtain ⟨i0, hi, hz0, hz1, hz2⟩ := info_parts Try.info5
  have hown0 := World.ownsRow_lit (base := w.heap.size) (e := 5) (size := 1) w #[] 0 (Nat.le_refl _) (Nat.zero_le _) rfl
  have hb0 : Below w.heap.size w (w.alloc (.cells #[] 5)) := (Below.refl _ _).alloc (Nat.le_refl _) _
  have hcl := cells_of_view (hv.below hb0)
  have hsz : (w.alloc (.cells #[] 5)).heap.size = w.heap.size + 1 := by simp
  obtain ⟨y, hy⟩ : ∃ y, y = clampF x := ⟨_, rfl⟩
  have hyb := clampF_bd x
  rw [← hy] at hyb
  have HL : Hid (fixL x = [(y + 2147483648) / 16777216 % 256, (y + 2147483648) / 65536 % 256, (y + 2147483648) / 256 % 256, (y + 2147483648) % 256]) := fixL_is x _ (by omega)
  have hcase : (2147483647 < x ∧ y = 2147483647) ∨ (x < -2147483648 ∧ y = -2147483648) ∨ (-2147483648 ≤ x ∧ x ≤ 2147483647 ∧ y = x) := by
    rw [hy]; unfold clampF; split
    · right; left; omega
    · split
      · left; omega
      · right; right; omega
  clear hy
  go_enter Try.func73, Try.ntmps73
  rcases hcase with ⟨h1, rfl⟩ | ⟨h1, rfl⟩ | ⟨h1, h2, rfl⟩
  ·
    go_wp2_with (first | (at_builtin; (refine wpList_append_own _ rfl (.tmp 11) (.tmp 12) 36 rfl w.heap.size 5 i0 (.int .u8 0) 1 1 Try.underlying36 hi hz0 hz1 hz2 rfl (by decide) (.slice (some ⟨w.heap.size, 0, none⟩) 0 0) 0 [] rfl hown0 ⟨b, off, none⟩ n cap (bl (lof n f)) rfl (by rw [bl_len, lof_len]; omega) hcl (bl_one _) (by unfold maxLen; omega) (by omega) (by rw [hsz]; omega) ?_); intro v1 w1 hown1 hgr1 _; simp only [Nat.zero_add, List.nil_append] at hown1; have hb1 : Below w.heap.size w w1 := hb0.grown hgr1 (by simp) (fun k hk => by simp only [Value.ownBlock, Option.some.injEq] at hk; omega); clear hown0 hcl hsz hgr1 hb0 hv) | (at_builtin; refine wpList_append_own _ rfl (.tmp 13) (.tmp 25) 36 rfl w.heap.size 5 i0 (.int .u8 0) 1 1 Try.underlying36 hi hz0 hz1 hz2 rfl (by decide) v1 _ _ rfl (hown1.alloc _) ⟨w1.heap.size, 0, none⟩ 4 4 [.int .u8 (255), .int .u8 (255), .int .u8 (255), .int .u8 (255)] rfl rfl (cellsNew4 _ _ _ _ _ _) (bl_one [255, 255, 255, 255]) (by unfold maxLen; omega) (by omega) (by have := hb1.size; simp; omega) ?_; intro v2 w2 hown2 hgr2 _))
    go_ret
    refine ⟨v2, rfl, ?_, (hb1.alloc hb1.size _).grown hgr2 (by have := hb1.size; simp; omega) (fun k hk => (hown1.lt k hk).1)⟩
    rw [HL.out, bl_append]
    exact hown2
  ·
    go_wp2_with (first | (at_builtin; (refine wpList_append_own _ rfl (.tmp 11) (.tmp 12) 36 rfl w.heap.size 5 i0 (.int .u8 0) 1 1 Try.underlying36 hi hz0 hz1 hz2 rfl (by decide) (.slice (some ⟨w.heap.size, 0, none⟩) 0 0) 0 [] rfl hown0 ⟨b, off, none⟩ n cap (bl (lof n f)) rfl (by rw [bl_len, lof_len]; omega) hcl (bl_one _) (by unfold maxLen; omega) (by omega) (by rw [hsz]; omega) ?_); intro v1 w1 hown1 hgr1 _; simp only [Nat.zero_add, List.nil_append] at hown1; have hb1 : Below w.heap.size w w1 := hb0.grown hgr1 (by simp) (fun k hk => by simp only [Value.ownBlock, Option.some.injEq] at hk; omega); clear hown0 hcl hsz hgr1 hb0 hv) | (at_builtin; refine wpList_append_own _ rfl (.tmp 13) (.tmp 25) 36 rfl w.heap.size 5 i0 (.int .u8 0) 1 1 Try.underlying36 hi hz0 hz1 hz2 rfl (by decide) v1 _ _ rfl (hown1.alloc _) ⟨w1.heap.size, 0, none⟩ 4 4 [.int .u8 (0), .int .u8 (0), .int .u8 (0), .int .u8 (0)] rfl rfl (cellsNew4 _ _ _ _ _ _) (bl_one [0, 0, 0, 0]) (by unfold maxLen; omega) (by omega) (by have := hb1.size; simp; omega) ?_; intro v2 w2 hown2 hgr2 _))
    go_ret
    refine ⟨v2, rfl, ?_, (hb1.alloc hb1.size _).grown hgr2 (by have := hb1.size; simp; omega) (fun k hk => (hown1.lt k hk).1)⟩
    rw [HL.out, bl_append]
    exact hown2
  ·
    go_wp2_with (first | (at_builtin; (refine wpList_append_own _ rfl (.tmp 11) (.tmp 12) 36 rfl w.heap.size 5 i0 (.int .u8 0) 1 1 Try.underlying36 hi hz0 hz1 hz2 rfl (by decide) (.slice (some ⟨w.heap.size, 0, none⟩) 0 0) 0 [] rfl hown0 ⟨b, off, none⟩ n cap (bl (lof n f)) rfl (by rw [bl_len, lof_len]; omega) hcl (bl_one _) (by unfold maxLen; omega) (by omega) (by rw [hsz]; omega) ?_); intro v1 w1 hown1 hgr1 _; simp only [Nat.zero_add, List.nil_append] at hown1; have hb1 : Below w.heap.size w w1 := hb0.grown hgr1 (by simp) (fun k hk => by simp only [Value.ownBlock, Option.some.injEq] at hk; omega); clear hown0 hcl hsz hgr1 hb0 hv) | (at_builtin; refine wpList_append_own _ rfl (.tmp 13) (.tmp 25) 36 rfl w.heap.size 5 i0 (.int .u8 0) 1 1 Try.underlying36 hi hz0 hz1 hz2 rfl (by decide) v1 _ _ rfl (hown1.alloc _) ⟨w1.heap.size, 0, none⟩ 4 4 [.int .u8 ((y + 2147483648) / 16777216), .int .u8 ((y + 2147483648) / 65536 % 256), .int .u8 ((y + 2147483648) / 256 % 256), .int .u8 ((y + 2147483648) % 256)] rfl rfl (cellsNew4 _ _ _ _ _ _) (bl_one [(y + 2147483648) / 16777216, (y + 2147483648) / 65536 % 256, (y + 2147483648) / 256 % 256, (y + 2147483648) % 256]) (by unfold maxLen; omega) (by omega) (by have := hb1.size; simp; omega) ?_; intro v2 w2 hown2 hgr2 _))
    go_ret
    refine ⟨v2, rfl, ?_, (hb1.alloc hb1.size _).grown hgr2 (by have := hb1.size; simp; omega) (fun k hk => (hown1.lt k hk).1)⟩
    rw [HL.out, show (y + 2147483648) / 16777216 % 256 = (y + 2147483648) / 16777216 by omega, bl_append]
    exact hown2
end Go.Proofs.Ytclegljalndaear

/-
  The model's PutEsc: what was there, and behind it the text as it is put, in memory of its own.
-/
namespace Go.Proofs.Ytclegljalndaear
open Go.RowKit
set_option maxRecDepth 4000

theorem sl_take (s : ByteArray) (k : Nat) (h : k < s.size) : (sl s).take (k + 1) = (sl s).take k ++ [(s[k].toNat : Int)] := by
  have hd : k < (sl s).length := by rw [sl_len]; exact h
  rw [List.take_succ_eq_append_getElem hd]
  simp [sl]
  rfl
theorem sl_all (s : ByteArray) : (sl s).take s.size = sl s := by rw [← sl_len]; exact List.take_length
theorem escK_len (s : ByteArray) (k : Nat) (h : k ≤ s.size) : (escL ((sl s).take k)).length ≤ 2 * k := by
  have := (escL_len ((sl s).take k)).2
  rw [List.length_take, sl_len] at this
  omega

/-- Two new cells. -/
theorem cellsTwo (w : World) (x y : Value) (t : TypeId) : ∀ j u, [x, y][j]? = some u → (w.alloc (.cells #[x, y] t)).cell? ((⟨w.heap.size, 0, none⟩ : Addr).add j) = some u := by
  intro j u hj
  match j, hj with
  | 0, hj => simp at hj; subst hj; simp [Addr.add]
  | 1, hj => simp at hj; subst hj; simp [Addr.add]
  | (j + 2), hj => simp at hj

set_option maxHeartbeats 1000000 in
theorem putEsc_own (b off n cap : Nat) (f : Nat → Int) (s : ByteArray) (w : World) (hv : View w (some ⟨b, off, none⟩) n cap f) (hn : n ≤ 17592186044416) (hs : s.size ≤ 17592186044416) :
    Calls Try.prog 75 #[.slice (some ⟨b, off, none⟩) n cap, .string s] w fun e w' => ∃ v, e = .returned v ∧ w'.ownsRow w.heap.size 5 1 v (n + escN s) (bl (escT n f s)) ∧ Below w.heap.size w w' := by
  obtain ⟨i0, hi, hz0, hz1, hz2⟩ := info_parts Try.info5
  have hown0 := World.ownsRow_lit (base := w.heap.size) (e := 5) (size := 1) w #[] 0 (Nat.le_refl _) (Nat.zero_le _) rfl
  have hb0 : Below w.heap.size w (w.alloc (.cells #[] 5)) := (Below.refl _ _).alloc (Nat.le_refl _) _
  have hcl := cells_of_view (hv.below hb0)
  have hsz : (w.alloc (.cells #[] 5)).heap.size = w.heap.size + 1 := by simp
  go_enter Try.func75, Try.ntmps75
  go_wp2_with (at_builtin; go_must (refine wpList_append_own _ rfl (.tmp 7) (.tmp 8) 36 rfl w.heap.size 5 i0 (.int .u8 0) 1 1 Try.underlying36 hi hz0 hz1 hz2 rfl (by decide) (.slice (some ⟨w.heap.size, 0, none⟩) 0 0) 0 [] rfl hown0 ⟨b, off, none⟩ n cap (bl (lof n f)) rfl (by rw [bl_len, lof_len]; omega) hcl (bl_one _) (by unfold maxLen; omega) (by omega) (by rw [hsz]; omega) ?_); intro v1 w1 hown1 hgr1 _)
  have hb1 : Below w.heap.size w w1 := hb0.grown hgr1 (by simp) (fun k hk => by simp only [Value.ownBlock, Option.some.injEq] at hk; omega)
  clear hown0 hcl hsz hgr1 hb0 hv
  simp only [Nat.zero_add, List.nil_append] at hown1
  go_loopg [5, 6] s.size (fun g v i wr => ∃ (k : Nat) (l : List Int), k ≤ s.size ∧ g = s.size - k ∧ i = .int .i64 k ∧ l = escL ((sl s).take k) ∧ wr.ownsRow w.heap.size 5 1 v (n + l.length) (bl (lof n f ++ l)) ∧ Below w.heap.size w wr)
  case atStart => exact ⟨0, [], Nat.zero_le _, rfl, rfl, by simp [escL], by rw [List.append_nil]; exact hown1, hb1⟩
  case round =>
    obtain ⟨k, l, hk, rfl, rfl, hl, hown, hB⟩ := hrel
    clear hown1 hb1
    have hlen : l.length ≤ 2 * k := by rw [hl]; exact escK_len s k hk
    have HL : Hid (l = escL ((sl s).take k)) := hl
    clear hl
    by_cases hlt : k < s.size
    · have hkz : (k : Int) < (s.size : Int) := by omega
      have hub : (s[k].toNat : Int) ≤ 255 := by have := s[k].toNat_lt; omega
      have HS : Hid (escL ((sl s).take (k + 1)) = l ++ esc1 (s[k].toNat : Int)) := by
        show _ = _
        rw [sl_take s k hlt, escL_append, escL_one, HL.out]
      by_cases h0 : (s[k].toNat : Int) = 0
      · have hq : ((s[k].toNat : Int) == 0) = true := by simpa using h0
        have HE : Hid (esc1 (s[k].toNat : Int) = [0] ++ [255]) := by show _ = _; unfold esc1; rw [if_pos h0]; rfl
        go_wp2_with (first | (at_builtin; refine wpList_append_own _ rfl (.tmp 16) (.tmp 20) 36 rfl w.heap.size 5 i0 (.int .u8 0) 1 1 Try.underlying36 hi hz0 hz1 hz2 rfl (by decide) u5 _ _ rfl (hown.alloc _) ⟨wr.heap.size, 0, none⟩ 1 1 [.int .u8 0] rfl rfl (cellNew _ _ _) (bl_one [0]) (by unfold maxLen; omega) (by omega) (by have := hB.size; simp; omega) ?_; intro v2 w2 hown2 hgr2 _) | (at_builtin; refine wpList_append_own _ rfl (.tmp 26) (.tmp 27) 36 rfl w.heap.size 5 i0 (.int .u8 0) 1 1 Try.underlying36 hi hz0 hz1 hz2 rfl (by decide) v2 _ _ rfl (hown2.alloc _) ⟨w2.heap.size, 0, none⟩ 1 1 [.int .u8 255] rfl rfl (cellNew _ _ _) (bl_one [255]) (by unfold maxLen; omega) (by omega) (by have := hB.size; have := hgr2.size; simp at *; omega) ?_; intro v3 w3 hown3 hgr3 _))
        have hB2 : Below w.heap.size w w2 := (hB.alloc hB.size _).grown hgr2 (by have := hB.size; simp; omega) (fun k hk => (hown.lt k hk).1)
        have hB3 : Below w.heap.size w w3 := (hB2.alloc hB2.size _).grown hgr3 (by have := hB2.size; simp; omega) (fun k hk => (hown2.lt k hk).1)
        have hO3 : w3.ownsRow w.heap.size 5 1 v3 (n + (l ++ esc1 (s[k].toNat : Int)).length) (bl (lof n f ++ (l ++ esc1 (s[k].toNat : Int)))) := by
          rw [HE.out, ← List.append_assoc l, List.length_append, List.length_append, ← List.append_assoc, ← List.append_assoc, bl_append, bl_append]
          rw [show n + (l.length + [(0 : Int)].length + [(255 : Int)].length) = n + l.length + 1 + 1 by simp; omega]
          exact hown3
        clear hgr2 hgr3 hown hown2 hown3 hB
        go_wp2
        go_roundg (s.size - (k + 1))
        case measure => omega
        case rel => exact ⟨k + 1, _, by omega, rfl, by go_num, HS.out.symm, hO3, hB3⟩
      · have hq : ((s[k].toNat : Int) == 0) = false := by simpa using h0
        have HE : Hid (esc1 (s[k].toNat : Int) = [(s[k].toNat : Int)]) := by show _ = _; unfold esc1; rw [if_neg h0]
        go_wp2_with (at_builtin; go_must (refine wpList_append_own _ rfl (.tmp 16) (.tmp 20) 36 rfl w.heap.size 5 i0 (.int .u8 0) 1 1 Try.underlying36 hi hz0 hz1 hz2 rfl (by decide) u5 _ _ rfl (hown.alloc _) ⟨wr.heap.size, 0, none⟩ 1 1 [.int .u8 (s[k].toNat : Int)] rfl rfl (cellNew _ _ _) (bl_one [(s[k].toNat : Int)]) (by unfold maxLen; omega) (by omega) (by have := hB.size; simp; omega) ?_); intro v2 w2 hown2 hgr2 _)
        have hB2 : Below w.heap.size w w2 := (hB.alloc hB.size _).grown hgr2 (by have := hB.size; simp; omega) (fun k hk => (hown.lt k hk).1)
        have hO2 : w2.ownsRow w.heap.size 5 1 v2 (n + (l ++ esc1 (s[k].toNat : Int)).length) (bl (lof n f ++ (l ++ esc1 (s[k].toNat : Int)))) := by
          rw [HE.out, List.length_append, ← List.append_assoc, bl_append]
          exact hown2
        clear hgr2 hown hown2 hB
        go_wp2
        go_roundg (s.size - (k + 1))
        case measure => omega
        case rel => exact ⟨k + 1, _, by omega, rfl, by go_num, HS.out.symm, hO2, hB2⟩
    · obtain rfl : k = s.size := by omega
      go_wp2_with (at_builtin; go_must (refine wpList_append_own _ rfl (.tmp 29) (.tmp 30) 36 rfl w.heap.size 5 i0 (.int .u8 0) 1 1 Try.underlying36 hi hz0 hz1 hz2 rfl (by decide) u5 _ _ rfl (hown.alloc _) ⟨wr.heap.size, 0, none⟩ 2 2 [.int .u8 0, .int .u8 1] rfl rfl (cellsTwo _ _ _ _) (bl_one [0, 1]) (by unfold maxLen; omega) (by omega) (by have := hB.size; simp; omega) ?_); intro v2 w2 hown2 hgr2 _)
      have hB2 : Below w.heap.size w w2 := (hB.alloc hB.size _).grown hgr2 (by have := hB.size; simp; omega) (fun k hk => (hown.lt k hk).1)
      go_ret
      have hL := HL.out
      rw [sl_all] at hL
      have e1 : escN s = l.length + 2 := by rw [hL]; rfl
      have e2 : escT n f s = lof n f ++ (l ++ [0, 1]) := by rw [hL]; rfl
      have hown3 : w2.ownsRow w.heap.size 5 1 v2 (n + escN s) (bl (escT n f s)) := by
        rw [e1, e2, ← List.append_assoc, bl_append]
        exact hown2
      exact ⟨v2, rfl, hown3, hB2⟩

theorem putEsc_spec (b off n cap : Nat) (f : Nat → Int) (s : ByteArray) (w : World) (hv : View w (some ⟨b, off, none⟩) n cap f) (hn : n ≤ 17592186044416) (hs : s.size ≤ 17592186044416) :
    Calls Try.prog 75 #[.slice (some ⟨b, off, none⟩) n cap, .string s] w fun e w' => ∃ g c, e = .returned (.slice (some ⟨g, 0, none⟩) (n + escN s) c) ∧ w.heap.size ≤ g ∧ n + escN s ≤ c ∧ Row 5 w' g (n + escN s) (fun i => (escT n f s).getD i 0) ∧ Below w.heap.size w w' := by
  refine (putEsc_own b off n cap f s w hv hn hs).mono ?_
  rintro e w' ⟨v, rfl, hown, hB⟩
  obtain ⟨g, c, rfl, hg, hgc, hrow⟩ := row_of_own hown (by unfold escN; omega)
  exact ⟨g, c, rfl, hg, hgc, hrow, hB⟩
end Go.Proofs.Ytclegljalndaear

