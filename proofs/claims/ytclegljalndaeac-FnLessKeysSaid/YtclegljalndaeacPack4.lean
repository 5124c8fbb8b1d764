/-
  Together: PartBack, PartBackI, KeyMore, KeyBack, LessPlain, LessImpl, OrderPlain, LessSpec, PartBox, PartLess, PartOrder, KeyOrder
-/
import Derived.Test.YtclegljalndaeacPack2
import Derived.Test.YtclegljalndaeacPack3
import Derived.Deep.RegionWith
import Derived.Deep.RegionHeld3
import Derived.Test.YtclegljalndaeacPack1
/-
  One value in a key, plainly: it comes back of its bytes, and what is read of bytes fits and has these.
-/
namespace Go.Proofs.Ytclegljalndaeac
open Go.RowKit
set_option maxRecDepth 4000

theorem turned_twice (d : Bool) (f : Nat → Int) : turned d (turned d f) = f := by
  unfold turned
  cases d
  · rfl
  · funext i
    show 255 - (255 - f i) = f i
    omega

/-- What a value is of its kind. -/
theorem okF_cases {k n : Int} {s : ByteArray} (h : okF k n s = true) :
    (k = 0 ∧ n = 0 ∧ s = noBytes) ∨ (k = 1 ∧ (-2147483648 ≤ n ∧ n ≤ 2147483647) ∧ s = noBytes) ∨ (k = 2 ∧ (-1000000000000000 ≤ n ∧ n ≤ 1000000000000000) ∧ s = noBytes) ∨ (k = 3 ∧ n = 0 ∧ s.size ≤ 30) ∨ (k = 4 ∧ (n = 0 ∨ n = 1) ∧ s = noBytes) := by
  obtain ⟨v, hr, rfl, rfl, rfl⟩ := okF_iff.1 h
  cases v with
  | null => left; exact ⟨rfl, rfl, rfl⟩
  | int n => right; left; exact ⟨rfl, by simpa [V.rng, V.n] using hr, rfl⟩
  | num n => right; right; left; exact ⟨rfl, by simpa [V.rng, V.n] using hr, rfl⟩
  | text s => right; right; right; left; exact ⟨rfl, rfl, by simpa [V.rng, V.s] using hr⟩
  | bool b => right; right; right; right; exact ⟨rfl, by cases b <;> simp [V.n], rfl⟩

theorem rawT_put (l : List Int) (m : Nat) (k n : Int) (s : ByteArray) (hl : l.length = m) (hok : okF k n s = true) (h0 : k ≠ 0) :
    rawT (m + (valL k n s).length) (fun i => (l ++ valL k n s).getD i 0) k (m : Int) = ⟨k, n, s, (m : Int) + ((valL k n s).length : Int), true⟩ := by
  unfold rawT
  rcases okF_cases hok with ⟨rfl, -⟩ | ⟨rfl, hn, rfl⟩ | ⟨rfl, hn, rfl⟩ | ⟨rfl, rfl, hs⟩ | ⟨rfl, hn, rfl⟩
  · exact absurd rfl h0
  · have hv : valL 1 n noBytes = fixL n := rfl
    rw [hv, if_pos rfl, fixL_len, getF_put l m n hl, clampF_self n hn]
    rfl
  · have hv : valL 2 n noBytes = varL n := rfl
    rw [hv, if_neg (by decide), if_pos rfl, getV_put l m n hl, clampV_self n hn]
  · have hv : valL 3 0 s = escL (sl s) ++ [0, 1] := rfl
    rw [hv, if_neg (by decide), if_neg (by decide), if_pos rfl]
    have e := getE_putE m (fun i => l.getD i 0) s
    have hlf : lof m (fun i => l.getD i 0) = l := by have := lof_self l; rw [hl] at this; exact this
    unfold escT escN at e
    rw [hlf] at e
    have hlen : (escL (sl s) ++ [0, 1]).length = (escL (sl s)).length + 2 := by simp
    rw [hlen, e]
    simp
  · have hv : valL 4 n noBytes = [n % 256] := rfl
    rw [hv, if_neg (by decide), if_neg (by decide), if_neg (by decide)]
    have e : (l ++ [n % 256]).getD m 0 = n := by
      have := behind l [n % 256] m 0 hl
      rw [Nat.add_zero] at this
      rw [this]
      show n % 256 = n
      omega
    have hlen : ([n % 256] : List Int).length = 1 := rfl
    rw [hlen, if_pos (by omega), Int.toNat_natCast]
    simp only [e]
    rfl

theorem chk_self (g : Got) (h1 : g.ok = true) (h2 : okF g.k g.n g.s = true) : g.chk = g := by unfold Got.chk; rw [h1, h2]; rfl

/-- What fits comes back. -/
theorem part_back (l : List Int) (m : Nat) (c t : Int) (nul d : Bool) (k n : Int) (s : ByteArray) (hl : l.length = m) (hp : partOk c t = true) (hf : fitsP t nul k n s = true) :
    getP (m + (partL nul k n s).length) (turned d (fun i => (l ++ partL nul k n s).getD i 0)) c t nul d (m : Int) = ⟨k, n, s, (m : Int) + ((partL nul k n s).length : Int), true⟩ := by
  unfold getP
  rw [if_neg (by rw [hp]; simp; omega), turned_twice]
  unfold fitsP at hf
  simp only [Bool.and_eq_true, Bool.or_eq_true, decide_eq_true_eq] at hf
  obtain ⟨hok, hk⟩ := hf
  unfold getN partL
  rcases hk with ⟨rfl, h0⟩ | ⟨rfl, rfl⟩
  · rw [if_neg h0]
    cases nul with
    | false =>
      simp only [Bool.false_eq_true, if_false]
      unfold getT
      rw [rawT_put l m k n s hl hok h0]
      exact chk_self _ rfl hok
    | true =>
      simp only [if_true]
      have e1 : (l ++ 1 :: valL k n s).getD m 0 = 1 := by
        have := behind l (1 :: valL k n s) m 0 hl
        rw [Nat.add_zero] at this
        rw [this]
        rfl
      have hlen : (1 :: valL k n s).length = (valL k n s).length + 1 := rfl
      rw [Int.toNat_natCast, e1, if_neg (by rw [hlen]; omega), if_neg (by decide)]
      unfold getT
      have e := rawT_put (l ++ [1]) (m + 1) k n s (by simp [hl]) hok h0
      rw [List.append_assoc] at e
      have e' : ([1] ++ valL k n s : List Int) = 1 :: valL k n s := rfl
      rw [e'] at e
      rw [show ((m + 1 : Nat) : Int) = (m : Int) + 1 by omega] at e
      rw [show m + (1 :: valL k n s).length = m + 1 + (valL k n s).length by rw [hlen]; omega, e]
      rw [show (m : Int) + 1 + ((valL k n s).length : Int) = (m : Int) + ((1 :: valL k n s).length : Int) by rw [hlen]; omega]
      exact chk_self _ rfl hok
  · rcases okF_cases hok with ⟨-, rfl, rfl⟩ | ⟨h, -⟩ | ⟨h, -⟩ | ⟨h, -⟩ | ⟨h, -⟩
    · simp only [if_true]
      have e1 : (l ++ [0]).getD m 0 = 0 := by
        have := behind l [0] m 0 hl
        rw [Nat.add_zero] at this
        rw [this]
        rfl
      rw [Int.toNat_natCast, e1, if_neg (by simp; omega), if_pos rfl]
      rfl
    all_goals exact absurd h (by decide)

theorem chk_ok {g h : Got} (e : g.chk = h) (ho : h.ok = true) : g = h ∧ okF g.k g.n g.s = true ∧ g.ok = true := by
  unfold Got.chk at e
  by_cases hc : g.ok = true ∧ okF g.k g.n g.s = true
  · rw [if_pos (by rw [hc.1, hc.2]; rfl)] at e
    exact ⟨e, hc.2, hc.1⟩
  · rw [if_neg (by rw [Bool.and_eq_true]; exact hc)] at e
    subst e
    cases ho

theorem rawT_read {N : Nat} {F : Nat → Int} {t p k n q : Int} {s : ByteArray} (hb : ∀ i, i < N → 0 ≤ F i ∧ F i ≤ 255) (ht : 1 ≤ t ∧ t ≤ 4) (h : rawT N F t p = ⟨k, n, s, q, true⟩) (hok : okF k n s = true) :
    k = t ∧ ∃ i : Nat, p = (i : Int) ∧ q = (i : Int) + ((valL k n s).length : Int) ∧ i + (valL k n s).length ≤ N ∧ valL k n s = lof (valL k n s).length (fun j => F (i + j)) := by
  unfold rawT at h
  obtain rfl | rfl | rfl | rfl : t = 1 ∨ t = 2 ∨ t = 3 ∨ t = 4 := by omega
  · rw [if_pos rfl] at h
    simp only [Got.mk.injEq] at h
    obtain ⟨rfl, h1, rfl, h2, h3⟩ := h
    obtain ⟨i, rfl, rfl, hi, -, -, hL⟩ := fix_read hb (p := p) (a := n) (q := q) (by rw [← h1, ← h2, ← h3])
    have hv : valL 1 n noBytes = fixL n := rfl
    rw [hv, fixL_len]
    exact ⟨rfl, i, rfl, rfl, hi, hL⟩
  · rw [if_neg (by decide), if_pos rfl] at h
    simp only [Got.mk.injEq] at h
    obtain ⟨rfl, h1, rfl, h2, h3⟩ := h
    obtain ⟨i, rfl, rfl, hi, -, -, hL⟩ := var_read hb (p := p) (a := n) (q := q) (by rw [← h1, ← h2, ← h3])
    have hv : valL 2 n noBytes = varL n := rfl
    rw [hv]
    exact ⟨rfl, i, rfl, rfl, hi, hL⟩
  · rw [if_neg (by decide), if_neg (by decide), if_pos rfl] at h
    simp only [Got.mk.injEq] at h
    obtain ⟨rfl, rfl, h1, h2, h3⟩ := h
    obtain ⟨i, K, rfl, rfl, hi, -, -, hL⟩ := getE_back hb (x := p) (s := s) (q := q) (by rw [← h1, ← h2, ← h3])
    have hv : valL 3 0 s = escL (sl s) ++ [0, 1] := rfl
    have hK : (valL 3 0 s).length = K := by rw [hv, ← hL, lof_len]
    rw [hK, hv]
    exact ⟨rfl, i, rfl, rfl, hi, hL.symm⟩
  · rw [if_neg (by decide), if_neg (by decide), if_neg (by decide)] at h
    by_cases hp : 0 ≤ p ∧ p < N
    · rw [if_pos hp] at h
      simp only [Got.mk.injEq] at h
      obtain ⟨rfl, rfl, rfl, rfl, -⟩ := h
      obtain ⟨i, rfl⟩ := Int.eq_ofNat_of_zero_le hp.1
      have hbi := hb i (by omega)
      have hv : valL 4 (F i) noBytes = [F i % 256] := rfl
      rw [Int.toNat_natCast, hv]
      refine ⟨rfl, i, rfl, rfl, by show i + 1 ≤ N; omega, ?_⟩
      show [F i % 256] = [F (i + 0)]
      rw [Nat.add_zero, Int.emod_eq_of_lt hbi.1 (by omega)]
    · rw [if_neg hp] at h
      simp at h

theorem turned_bd {d : Bool} {N : Nat} {F : Nat → Int} (hb : ∀ i, i < N → 0 ≤ F i ∧ F i ≤ 255) : ∀ i, i < N → 0 ≤ turned d F i ∧ turned d F i ≤ 255 := by
  intro i hi
  have := hb i hi
  unfold turned
  cases d
  · exact this
  · show 0 ≤ 255 - F i ∧ 255 - F i ≤ 255; omega
theorem turnL_lof (d : Bool) (k : Nat) (F : Nat → Int) (i : Nat) : turnL d (lof k (fun j => turned d F (i + j))) = lof k (fun j => F (i + j)) := by
  unfold turnL turned
  cases d
  · rfl
  · simp only [if_true]
    unfold lof
    rw [List.map_map]
    apply List.map_congr_left
    intro j _
    show 255 - (255 - F (i + j)) = F (i + j)
    omega

/-- What is read fits, and has these bytes. -/
theorem part_read {N : Nat} {F : Nat → Int} {c t : Int} {nul d : Bool} {p k n q : Int} {s : ByteArray} (hb : ∀ i, i < N → 0 ≤ F i ∧ F i ≤ 255) (h : getP N F c t nul d p = ⟨k, n, s, q, true⟩) :
    partOk c t = true ∧ fitsP t nul k n s = true ∧ ∃ i : Nat, p = (i : Int) ∧ q = (i : Int) + ((putPL c t nul d k n s).length : Int) ∧ i + (putPL c t nul d k n s).length ≤ N ∧ putPL c t nul d k n s = lof (putPL c t nul d k n s).length (fun j => F (i + j)) := by
  unfold getP at h
  by_cases h1 : partOk c t = false ∨ p < 0 ∨ (N : Int) < p
  · rw [if_pos h1] at h
    exact absurd (congrArg Got.ok h) (fun e => by cases e)
  rw [if_neg h1] at h
  have hp : partOk c t = true := by simpa using fun e => h1 (Or.inl e)
  obtain ⟨i, rfl⟩ := Int.eq_ofNat_of_zero_le (a := p) (by omega)
  have hbt := turned_bd (d := d) hb
  have ht : 1 ≤ t ∧ t ≤ 4 := by unfold partOk at hp; simp at hp; omega
  -- what is to be shown, of the bytes ahead of a turn
  have key : ∀ K : Nat, fitsP t nul k n s = true → q = (i : Int) + (K : Int) → i + K ≤ N → partL nul k n s = lof K (fun j => turned d F (i + j)) →
      partOk c t = true ∧ fitsP t nul k n s = true ∧ ∃ i' : Nat, (i : Int) = (i' : Int) ∧ q = (i' : Int) + ((putPL c t nul d k n s).length : Int) ∧ i' + (putPL c t nul d k n s).length ≤ N ∧ putPL c t nul d k n s = lof (putPL c t nul d k n s).length (fun j => F (i' + j)) := by
    intro K hf hq hi hL
    have e : putPL c t nul d k n s = lof K (fun j => F (i + j)) := by
      unfold putPL
      rw [hp, hf, hL]
      exact turnL_lof d K F i
    rw [e, lof_len]
    exact ⟨hp, hf, i, rfl, hq, hi, rfl⟩
  unfold getN at h
  cases nul with
  | false =>
    simp only [Bool.false_eq_true, if_false] at h
    obtain ⟨h2, hok, -⟩ := chk_ok h rfl
    rw [h2] at hok
    obtain ⟨rfl, i', hi', hq, hle, hL⟩ := rawT_read hbt ht h2 hok
    obtain rfl : i = i' := by omega
    have hf : fitsP k false k n s = true := by unfold fitsP; rw [hok]; simp; omega
    refine key _ hf hq hle ?_
    have : partL false k n s = valL k n s := by unfold partL; rw [if_neg (by omega)]; rfl
    rw [this]
    exact hL
  | true =>
    simp only [if_true, Int.toNat_natCast] at h
    by_cases h3 : (i : Int) = N ∨ 1 < turned d F i
    · rw [if_pos h3] at h
      exact absurd (congrArg Got.ok h) (fun e => by cases e)
    rw [if_neg h3] at h
    have hin : i < N := by omega
    have hbi := hbt i hin
    by_cases h4 : turned d F i = 0
    · rw [if_pos h4] at h
      simp only [Got.mk.injEq, and_true] at h
      obtain ⟨rfl, rfl, rfl, rfl⟩ := h
      have h0 : okF 0 0 noBytes = true := by simp [okF, ofFields, V.rng, V.k, V.n, V.s]
      refine key 1 (by unfold fitsP; rw [h0]; simp) rfl (by omega) ?_
      show [0] = [turned d F (i + 0)]
      rw [Nat.add_zero, h4]
    · rw [if_neg h4] at h
      have h5 : turned d F i = 1 := by omega
      obtain ⟨h2, hok, -⟩ := chk_ok h rfl
      rw [h2] at hok
      obtain ⟨rfl, i', hi', hq, hle, hL⟩ := rawT_read hbt ht h2 hok
      obtain rfl : i' = i + 1 := by omega
      have hf : fitsP k true k n s = true := by unfold fitsP; rw [hok]; simp
      refine key (1 + (valL k n s).length) hf (by omega) (by omega) ?_
      have : partL true k n s = 1 :: valL k n s := by unfold partL; rw [if_neg (by omega)]; rfl
      rw [this, lof_cons, Nat.add_zero, h5]
      congr 1
      rw [hL, lof_len]
      unfold lof
      apply List.map_congr_left
      intro j _
      rw [show i + (j + 1) = i + 1 + j by omega]
end Go.Proofs.Ytclegljalndaeac

/-
  What was put behind bytes that were there comes back of it.
-/
namespace Go.Proofs.Ytclegljalndaeac
open Go.RowKit
set_option maxRecDepth 4000

/-- The bytes that were there, and behind them those of the part. -/
def backF (l : List Int) (m : Nat) (d : Bool) (L : List Int) (i : Nat) : Int := if i < m then l.getD i 0 else turned d (fun j => (l ++ L).getD j 0) i

theorem backF_is {l L : List Int} {m : Nat} {d : Bool} (hl : l.length = m) : ∀ i, i < m + L.length → (l ++ turnL d L).getD i 0 = backF l m d L i := by
  intro i hi
  unfold backF
  by_cases h : i < m
  · rw [if_pos h, List.getD_eq_getElem?_getD, List.getElem?_append_left (by omega), ← List.getD_eq_getElem?_getD]
  · rw [if_neg h, List.getD_eq_getElem?_getD, List.getElem?_append_right (by omega)]
    cases d with
    | false =>
      show _ = (l ++ L).getD i 0
      rw [List.getD_eq_getElem?_getD, List.getElem?_append_right (by omega)]
      rfl
    | true =>
      show _ = 255 - (l ++ L).getD i 0
      rw [List.getD_eq_getElem?_getD, List.getElem?_append_right (by omega)]
      have hj : i - l.length < L.length := by omega
      simp [turnL, hj]

theorem turned_at {d : Bool} {f g : Nat → Int} {i : Nat} (h : f i = g i) : turned d f i = turned d g i := by
  cases d with
  | false => exact h
  | true =>
    show 255 - f i = 255 - g i
    rw [h]

theorem part_backI {l : List Int} {m : Nat} {c t : Int} {nul d : Bool} {k n : Int} {s : ByteArray} (hl : l.length = m) (hb : ∀ y ∈ l, 0 ≤ y ∧ y ≤ 255) (hp : partOk c t = true) (hf : fitsP t nul k n s = true) :
    getP (m + (partL nul k n s).length) (backF l m d (partL nul k n s)) c t nul d (m : Int) = ⟨k, n, s, (m : Int) + ((partL nul k n s).length : Int), true⟩ := by
  have ht : 1 ≤ t ∧ t ≤ 4 := by unfold partOk at hp; simp at hp; omega
  have hB1 : ∀ i, i < m + (partL nul k n s).length → 0 ≤ (l ++ partL nul k n s).getD i 0 ∧ (l ++ partL nul k n s).getD i 0 ≤ 255 := fun i hi =>
    (List.forall_mem_append.2 ⟨hb, partL_byte nul k n s⟩) _ (getD_in (by rw [List.length_append]; omega))
  have hT : ∀ i, i < m + (partL nul k n s).length → 0 ≤ turned d (fun j => (l ++ partL nul k n s).getD j 0) i ∧ turned d (fun j => (l ++ partL nul k n s).getD j 0) i ≤ 255 := by
    intro i hi
    have := hB1 i hi
    unfold turned
    split
    · dsimp only; omega
    · exact this
  have hBk : ∀ i, i < m + (partL nul k n s).length → 0 ≤ backF l m d (partL nul k n s) i ∧ backF l m d (partL nul k n s) i ≤ 255 := by
    intro i hi
    unfold backF
    split
    · exact hb _ (getD_in (by omega))
    · exact hT i hi
  rw [← part_back l m c t nul d k n s hl hp hf]
  rw [← nextI_is (F := turned d (backF l m d (partL nul k n s))) hp ht hBk (fun _ _ => rfl)]
  refine nextI_is hp ht hT (fun i hi => ?_)
  have e : backF l m d (partL nul k n s) i = turned d (fun j => (l ++ partL nul k n s).getD j 0) i := by unfold backF; rw [if_neg (by omega)]
  exact turned_at e
end Go.Proofs.Ytclegljalndaeac

/-
  What was read of bytes is read of them with others behind, too.
-/
namespace Go.Proofs.Ytclegljalndaeac
open Go.RowKit
set_option maxRecDepth 4000

section
variable {N M : Nat} {F G : Nat → Int} {p : Int}
theorem getF_more {a q : Int} (hN : N ≤ M) (hFG : ∀ i, i < N → F i = G i) (h : getF N F p = (a, q, true)) : getF M G p = (a, q, true) := by
  unfold getF at h ⊢
  by_cases hp : p < 0 ∨ (N : Int) - p < 4
  · rw [if_pos hp] at h; simp at h
  · rw [if_neg hp] at h
    rw [if_neg (by omega), ← h]
    rw [valF_congr 4 (fun i => F (p.toNat + i)) (fun i => G (p.toNat + i)) (fun i hi => hFG _ (by omega))]
theorem getV_more {a q : Int} (hN : N ≤ M) (hFG : ∀ i, i < N → F i = G i) (h : getV N F p = (a, q, true)) : getV M G p = (a, q, true) := by
  unfold getV at h ⊢
  by_cases hp : p < 0 ∨ (N : Int) ≤ p
  · rw [if_pos hp] at h; simp at h
  · rw [if_neg hp] at h
    rw [if_neg (by omega)]
    have h0 : F p.toNat = G p.toNat := hFG _ (by omega)
    by_cases h1 : 7 < hcnt (F p.toNat) ∨ N < p.toNat + 1 + hcnt (F p.toNat)
    · rw [if_pos h1] at h; simp at h
    · rw [if_neg h1] at h
      have hd : ∀ j, j < hcnt (F p.toNat) → digF F p.toNat j = digF G p.toNat j := by
        intro j hj
        have e : F (p.toNat + 1 + j) = G (p.toNat + 1 + j) := hFG _ (by omega)
        unfold digF turnF
        dsimp only
        rw [h0, e]
      have hm : numV F p.toNat = numV G p.toNat := by
        unfold numV
        rw [valF_congr _ (digF F p.toNat) (digF G p.toNat) hd, h0]
      have hb : badV F p.toNat ↔ badV G p.toNat := by
        unfold badV
        rw [← hm, ← h0]
        constructor
        · rintro (⟨h2, h3⟩ | h2)
          · exact .inl ⟨h2, by rw [← hd 0 h2]; exact h3⟩
          · exact .inr h2
        · rintro (⟨h2, h3⟩ | h2)
          · exact .inl ⟨h2, by rw [hd 0 h2]; exact h3⟩
          · exact .inr h2
      by_cases h2 : badV F p.toNat
      · rw [if_pos h2] at h; simp at h
      · rw [if_neg h2] at h
        rw [← h0, if_neg (by omega), if_neg (fun e => h2 (hb.2 e)), ← hm]
        exact h
end

theorem readE_more : ∀ (l rest : List Int) (r : List Int × Nat), readE l = some r → readE (l ++ rest) = some r
  | [], _, _, h => by simp [readE] at h
  | [_], _, _, h => by simp [readE] at h
  | x :: y :: ys, rest, r, h => by
    unfold readE at h
    show readE (x :: y :: (ys ++ rest)) = some r
    unfold readE
    by_cases hx : x ≠ 0
    · rw [if_pos hx] at h ⊢
      obtain ⟨r', h1, h2⟩ := Option.map_eq_some_iff.1 h
      have := readE_more (y :: ys) rest r' h1
      rw [List.cons_append] at this
      rw [this, ← h2]; rfl
    · rw [if_neg hx] at h ⊢
      by_cases hy : y = 1
      · rw [if_pos hy] at h ⊢; exact h
      · rw [if_neg hy] at h ⊢
        by_cases hz : y = 255
        · rw [if_pos hz] at h ⊢
          obtain ⟨r', h1, h2⟩ := Option.map_eq_some_iff.1 h
          rw [readE_more ys rest r' h1, ← h2]; rfl
        · rw [if_neg hz] at h; cases h

section
variable {N M : Nat} {F G : Nat → Int} {p : Int}
theorem fromL_more (k : Nat) (hN : N ≤ M) (hFG : ∀ i, i < N → F i = G i) (hk : k ≤ N) : ∃ rest, fromL M G k = fromL N F k ++ rest := by
  unfold fromL
  refine ⟨lof (M - N) (fun i => G (k + ((N - k) + i))), ?_⟩
  apply List.ext_getElem?
  intro i
  by_cases h1 : i < N - k
  · rw [List.getElem?_append_left (by rw [lof_len]; exact h1)]
    simp only [lof, List.getElem?_map, List.getElem?_range (show i < M - k by omega), List.getElem?_range h1, Option.map_some]
    rw [hFG _ (by omega)]
  · rw [List.getElem?_append_right (by rw [lof_len]; omega), lof_len]
    by_cases h2 : i < M - k
    · simp only [lof, List.getElem?_map, List.getElem?_range h2, List.getElem?_range (show i - (N - k) < M - N by omega), Option.map_some]
      rw [show k + (N - k + (i - (N - k))) = k + i by omega]
    · rw [List.getElem?_eq_none (by rw [lof_len]; omega), List.getElem?_eq_none (by rw [lof_len]; omega)]
theorem getE_more {s : ByteArray} {q : Int} (hN : N ≤ M) (hFG : ∀ i, i < N → F i = G i) (h : getE N F p = (s, q, true)) : getE M G p = (s, q, true) := by
  unfold getE at h ⊢
  by_cases hp : p < 0
  · rw [if_pos hp] at h; simp at h
  · rw [if_neg hp] at h ⊢
    by_cases hk : p.toNat ≤ N
    · obtain ⟨rest, hr⟩ := fromL_more p.toNat hN hFG hk
      cases hE : readE (fromL N F p.toNat) with
      | none => rw [hE] at h; simp at h
      | some r =>
        rw [hE] at h
        rw [hr, readE_more _ rest r hE]
        exact h
    · rw [fromL_end N F p.toNat (by omega)] at h
      simp [readE] at h
theorem rawT_more {t k y q : Int} {s : ByteArray} (hN : N ≤ M) (hFG : ∀ i, i < N → F i = G i) (h : rawT N F t p = ⟨k, y, s, q, true⟩) : rawT M G t p = ⟨k, y, s, q, true⟩ := by
  unfold rawT at h ⊢
  by_cases h1 : t = 1
  · rw [if_pos h1] at h ⊢
    simp only [Got.mk.injEq] at h
    have := getF_more (a := (getF N F p).1) (q := (getF N F p).2.1) hN hFG (by rw [← h.2.2.2.2])
    rw [this]
    simp only [Got.mk.injEq]
    exact ⟨h.1, h.2.1, h.2.2.1, h.2.2.2.1, trivial⟩
  · rw [if_neg h1] at h ⊢
    by_cases h2 : t = 2
    · rw [if_pos h2] at h ⊢
      simp only [Got.mk.injEq] at h
      have := getV_more (a := (getV N F p).1) (q := (getV N F p).2.1) hN hFG (by rw [← h.2.2.2.2])
      rw [this]
      simp only [Got.mk.injEq]
      exact ⟨h.1, h.2.1, h.2.2.1, h.2.2.2.1, trivial⟩
    · rw [if_neg h2] at h ⊢
      by_cases h3 : t = 3
      · rw [if_pos h3] at h ⊢
        simp only [Got.mk.injEq] at h
        have := getE_more (s := (getE N F p).1) (q := (getE N F p).2.1) hN hFG (by rw [← h.2.2.2.2])
        rw [this]
        simp only [Got.mk.injEq]
        exact ⟨h.1, h.2.1, h.2.2.1, h.2.2.2.1, trivial⟩
      · rw [if_neg h3] at h ⊢
        by_cases h4 : 0 ≤ p ∧ p < N
        · rw [if_pos h4] at h
          rw [if_pos (by omega), ← hFG _ (by omega)]
          exact h
        · rw [if_neg h4] at h; simp at h
theorem getT_more {t : Int} {g : Got} (hN : N ≤ M) (hFG : ∀ i, i < N → F i = G i) (h : getT N F t p = g) (hg : g.ok = true) : getT M G t p = g := by
  unfold getT Got.chk at h ⊢
  by_cases h1 : ((rawT N F t p).ok && okF (rawT N F t p).k (rawT N F t p).n (rawT N F t p).s) = true
  · rw [if_pos h1] at h
    have := rawT_more (t := t) (k := g.k) (y := g.n) (s := g.s) (q := g.q) (p := p) hN hFG (by rw [h, ← hg])
    have e : rawT M G t p = g := by rw [this, ← hg]
    rw [e, ← h, if_pos h1]
  · rw [if_neg h1] at h
    rw [← h] at hg
    cases hg
theorem turned_more {d : Bool} (hFG : ∀ i, i < N → F i = G i) : ∀ i, i < N → turned d F i = turned d G i := fun i hi => turned_at (hFG i hi)
theorem getP_more {c t : Int} {nul d : Bool} {g : Got} (hN : N ≤ M) (hFG : ∀ i, i < N → F i = G i) (h : getP N F c t nul d p = g) (hg : g.ok = true) : getP M G c t nul d p = g := by
  unfold getP at h ⊢
  by_cases h1 : partOk c t = false ∨ p < 0 ∨ (N : Int) < p
  · rw [if_pos h1] at h; rw [← h] at hg; cases hg
  · rw [if_neg h1] at h
    have h1' : ¬ (partOk c t = false ∨ p < 0 ∨ (M : Int) < p) := by
      rintro (e | e | e)
      · exact h1 (.inl e)
      · exact h1 (.inr (.inl e))
      · exact h1 (.inr (.inr (by omega)))
    have hp0 : 0 ≤ p ∧ p ≤ N := ⟨Int.not_lt.1 (fun e => h1 (.inr (.inl e))), Int.not_lt.1 (fun e => h1 (.inr (.inr e)))⟩
    rw [if_neg h1']
    have hT := turned_more (d := d) hFG
    unfold getN at h ⊢
    cases nul with
    | false => exact getT_more hN hT h hg
    | true =>
      simp only [if_true] at h ⊢
      by_cases h2 : p = N ∨ 1 < turned d F p.toNat
      · rw [if_pos h2] at h; rw [← h] at hg; cases hg
      · rw [if_neg h2] at h
        have e := hT p.toNat (by omega)
        rw [← e, if_neg (by omega)]
        by_cases h3 : turned d F p.toNat = 0
        · rw [if_pos h3] at h ⊢; exact h
        · rw [if_neg h3] at h ⊢
          exact getT_more hN hT h hg
end
end Go.Proofs.Ytclegljalndaeac

/-
  A key's values come back of its bytes; what is read as a key fits, and has these bytes.
-/
namespace Go.Proofs.Ytclegljalndaeac
open Go.RowKit
set_option maxRecDepth 4000

theorem getD_left (a b : List Int) (i : Nat) (h : i < a.length) : a.getD i 0 = (a ++ b).getD i 0 := by
  rw [List.getD_eq_getElem?_getD, List.getD_eq_getElem?_getD, List.getElem?_append_left h]

theorem part_at {l : List Int} {c t : Int} {nul d : Bool} {k x : Int} {s : ByteArray} (rest : List Int) (hb : ∀ y ∈ l, 0 ≤ y ∧ y ≤ 255) (hp : partOk c t = true) (hf : fitsP t nul k x s = true) :
    getP (l ++ putPL c t nul d k x s ++ rest).length (fun i => (l ++ putPL c t nul d k x s ++ rest).getD i 0) c t nul d (l.length : Int) = ⟨k, x, s, (l.length : Int) + ((putPL c t nul d k x s).length : Int), true⟩ := by
  have e : putPL c t nul d k x s = turnL d (partL nul k x s) := by unfold putPL; rw [hp, hf]; rfl
  have hlen : (putPL c t nul d k x s).length = (partL nul k x s).length := by rw [e, turnL_len]
  refine getP_more (N := l.length + (partL nul k x s).length) (F := backF l l.length d (partL nul k x s)) ?_ (fun i hi => ?_) (by rw [hlen]; exact part_backI rfl hb hp hf) rfl
  · rw [List.length_append, List.length_append, hlen]; omega
  · rw [← backF_is rfl i hi, e]
    exact getD_left _ _ i (by rw [List.length_append, turnL_len]; exact hi)

/-- The bytes of a key, as they are read: after each value the place behind it. -/
theorem key_back {n : Nat} {fc ft : Nat → Int} {fu fd : Nat → Bool} {m : Nat} {fk fn : Nat → Int} {fs : Nat → ByteArray} (hp : ∀ i, i < m → partOk (fc i) (ft i) = true) (hf : ∀ i, i < m → fitsP (ft i) (fu i) (fk i) (fn i) (fs i) = true) (L : List Int) (hL : L = keyT (onePL fc ft fu fd fk fn fs) m) (hn : n ≤ m) :
    decQ L.length (fun i => L.getD i 0) fc ft fu fd n = some ((keyT (onePL fc ft fu fd fk fn fs) n).length : Int) ∧ ∀ k, k < n → decG L.length (fun i => L.getD i 0) fc ft fu fd k = ⟨fk k, fn k, fs k, ((keyT (onePL fc ft fu fd fk fn fs) (k + 1)).length : Int), true⟩ := by
  have hyb : ∀ k, ∀ y ∈ keyT (onePL fc ft fu fd fk fn fs) k, 0 ≤ y ∧ y ≤ 255 := fun k => keyT_byte (fun i _ => putPL_byte _ _ _ _ _ _ _)
  have each : ∀ k, k < m → getP L.length (fun i => L.getD i 0) (fc k) (ft k) (fu k) (fd k) ((keyT (onePL fc ft fu fd fk fn fs) k).length : Int) = ⟨fk k, fn k, fs k, ((keyT (onePL fc ft fu fd fk fn fs) (k + 1)).length : Int), true⟩ := by
    intro k hk
    have hsp : L = keyT (onePL fc ft fu fd fk fn fs) k ++ putPL (fc k) (ft k) (fu k) (fd k) (fk k) (fn k) (fs k) ++ keyT (fun i => onePL fc ft fu fd fk fn fs (k + 1 + i)) (m - (k + 1)) := by
      rw [hL]
      have := keyT_split (onePL fc ft fu fd fk fn fs) (k + 1) (m - (k + 1))
      rw [show k + 1 + (m - (k + 1)) = m by omega] at this
      rw [this]
      rfl
    have h1 := part_at (l := keyT (onePL fc ft fu fd fk fn fs) k) (d := fd k) (keyT (fun i => onePL fc ft fu fd fk fn fs (k + 1 + i)) (m - (k + 1))) (hyb k) (hp k hk) (hf k hk)
    rw [← hsp] at h1
    rw [h1, keyT, List.length_append]
    simp only [Got.mk.injEq, true_and, and_true]
    unfold onePL
    omega
  have place : ∀ n, n ≤ m → decQ L.length (fun i => L.getD i 0) fc ft fu fd n = some ((keyT (onePL fc ft fu fd fk fn fs) n).length : Int) := by
    intro n
    induction n with
    | zero => intro _; rfl
    | succ k ih =>
      intro hk
      rw [decQ, ih (by omega), Option.bind_some, each k (by omega)]
      rfl
  refine ⟨place n hn, fun k hk => ?_⟩
  unfold decG
  rw [place k (by omega)]
  exact each k (by omega)

/-- What is read as a key has these bytes. -/
theorem key_read {N : Nat} {F : Nat → Int} {fc ft : Nat → Int} {fu fd : Nat → Bool} (hb : ∀ i, i < N → 0 ≤ F i ∧ F i ≤ 255) : ∀ {n : Nat} {q : Int}, decQ N F fc ft fu fd n = some q →
    (∀ k, k < n → (decG N F fc ft fu fd k).ok = true ∧ fitsP (ft k) (fu k) (decG N F fc ft fu fd k).k (decG N F fc ft fu fd k).n (decG N F fc ft fu fd k).s = true) ∧
    ∃ i : Nat, q = i ∧ i ≤ N ∧ keyT (onePL fc ft fu fd (fun k => (decG N F fc ft fu fd k).k) (fun k => (decG N F fc ft fu fd k).n) (fun k => (decG N F fc ft fu fd k).s)) n = lof i F
  | 0, q, h => by
    rw [decQ] at h
    exact ⟨fun k hk => absurd hk (Nat.not_lt_zero _), 0, by rw [← Option.some.inj h]; rfl, Nat.zero_le _, rfl⟩
  | n + 1, q, h => by
    obtain ⟨p, h1, h2, h3⟩ := decQ_succ h
    obtain ⟨ih, i, rfl, hi, hk⟩ := key_read hb h1
    have eG : decG N F fc ft fu fd n = getP N F (fc n) (ft n) (fu n) (fd n) (i : Int) := by unfold decG; rw [h1]; rfl
    obtain ⟨k, y, s, q', ok, hg⟩ : ∃ k y s q ok, getP N F (fc n) (ft n) (fu n) (fd n) (i : Int) = ⟨k, y, s, q, ok⟩ := ⟨_, _, _, _, _, rfl⟩
    rw [hg] at h2 h3 eG
    simp only at h2 h3
    subst h2 h3
    obtain ⟨hpk, hft, j, hj, hq, hjN, hLs⟩ := part_read hb hg
    obtain rfl : i = j := by omega
    refine ⟨fun k' hk' => ?_, i + (putPL (fc n) (ft n) (fu n) (fd n) k y s).length, by rw [hq]; simp, hjN, ?_⟩
    · by_cases e : k' < n
      · exact ih k' e
      · obtain rfl : k' = n := by omega
        rw [eG]
        exact ⟨rfl, hft⟩
    · rw [keyT, hk]
      have e1 : onePL fc ft fu fd (fun k => (decG N F fc ft fu fd k).k) (fun k => (decG N F fc ft fu fd k).n) (fun k => (decG N F fc ft fu fd k).s) n = putPL (fc n) (ft n) (fu n) (fd n) k y s := by
        unfold onePL
        dsimp only
        rw [eG]
      rw [e1]
      obtain ⟨K, hK⟩ : ∃ K, (putPL (fc n) (ft n) (fu n) (fd n) k y s).length = K := ⟨_, rfl⟩
      rw [hK] at hLs ⊢
      rw [hLs]
      unfold lof
      rw [List.range_add, List.map_append, List.map_map]
      rfl
end Go.Proofs.Ytclegljalndaeac

/-
  The order of values, plainly; and what the library's comparisons answer.
-/
namespace Go.Proofs.Ytclegljalndaeac
open Go.RowKit
set_option maxRecDepth 4000

def cmpI (a b : Int) : Int := if a < b then -1 else if b < a then 1 else 0

set_option maxHeartbeats 1000000 in
theorem cmpInt_any (a b : Int) (w : World) :
    Calls Try.prog 93 #[.int .i64 a, .int .i64 b] w fun e w' => e = .returned (.int .i64 (cmpI a b)) ∧ w' = w := by
  unfold cmpI
  have e1 : (a != a) = false := by simp
  have e2 : (b != b) = false := by simp
  by_cases h1 : a < b
  · rw [if_pos h1]
    go_enter Try.func93, Try.ntmps93
    go_wp2
    go_ret
    exact ⟨rfl, rfl⟩
  · by_cases h2 : b < a
    · rw [if_neg h1, if_pos h2]
      go_enter Try.func93, Try.ntmps93
      go_wp2
      go_ret
      exact ⟨rfl, rfl⟩
    · rw [if_neg h1, if_neg h2]
      go_enter Try.func93, Try.ntmps93
      go_wp2
      go_ret
      exact ⟨rfl, rfl⟩

/-- A text that is less than another. -/
def ltS (a b : ByteArray) : Bool := Op.bytesLess a.toList b.toList

theorem gtr_str (a b : ByteArray) (w : World) : (binOp .gtr 9 (.string a) (.string b)).run Try.prog w = .ok (.bool (!(Op.bytesLess a.toList b.toList || a.toList == b.toList))) w := by
  simp [go_sem, binOp, Op.stringOp]

def cmpS (a b : ByteArray) : Int := if ltS a b then -1 else if a.toList == b.toList then 0 else 1

set_option maxHeartbeats 1000000 in
theorem cmpStr_any (a b : ByteArray) (w : World) :
    Calls Try.prog 94 #[.string a, .string b] w fun e w' => e = .returned (.int .i64 (cmpS a b)) ∧ w' = w := by
  have q2 := gtr_str a b
  unfold cmpS ltS
  cases h1 : Op.bytesLess a.toList b.toList
  · cases h2 : (a.toList == b.toList)
    · go_enter Try.func94, Try.ntmps94
      go_wp2
      go_ret
      exact ⟨rfl, rfl⟩
    · go_enter Try.func94, Try.ntmps94
      go_wp2
      go_ret
      exact ⟨rfl, rfl⟩
  · go_enter Try.func94, Try.ntmps94
    go_wp2
    go_ret
    exact ⟨rfl, rfl⟩

def first3 (x y z : Int) : Int := if x ≠ 0 then x else if y ≠ 0 then y else z

set_option maxHeartbeats 1000000 in
theorem or3_any (N : Nat) (x y z : Int) (w : World) (h0 : w.cell? ⟨N, 0, none⟩ = some (.int .i64 x)) (h1 : w.cell? ⟨N, 1, none⟩ = some (.int .i64 y)) (h2 : w.cell? ⟨N, 2, none⟩ = some (.int .i64 z)) :
    Calls Try.prog 92 #[.slice (some ⟨N, 0, none⟩) 3 3] w fun e w' => e = .returned (.int .i64 (first3 x y z)) ∧ w' = w := by
  unfold first3
  by_cases hx : x = 0
  · by_cases hy : y = 0
    · by_cases hz : z = 0
      · subst hx hy hz
        go_enter Try.func92, Try.ntmps92
        go_wp2
        refine wp_loop_rounds 4 ?_
        iterate 4
          rw [rounds_succ]
          go_wp2
        go_ret
        exact ⟨rfl, rfl⟩
      · subst hx hy
        have hz : (z != 0) = true := by simpa using hz
        go_enter Try.func92, Try.ntmps92
        go_wp2
        refine wp_loop_rounds 3 ?_
        iterate 3
          rw [rounds_succ]
          go_wp2
        go_ret
        exact ⟨rfl, rfl⟩
    · subst hx
      have hy' : (y != 0) = true := by simpa using hy
      rw [if_neg (by simp), if_pos hy]
      go_enter Try.func92, Try.ntmps92
      go_wp2
      refine wp_loop_rounds 2 ?_
      iterate 2
        rw [rounds_succ]
        go_wp2
      go_ret
      exact ⟨rfl, rfl⟩
  · have hx' : (x != 0) = true := by simpa using hx
    rw [if_pos hx]
    go_enter Try.func92, Try.ntmps92
    go_wp2
    refine wp_loop_rounds 1 ?_
    rw [rounds_succ]
    go_wp2
    go_ret
    exact ⟨rfl, rfl⟩

end Go.Proofs.Ytclegljalndaeac

/-
  The program's LessVal comes to the plain order.
-/
namespace Go.Proofs.Ytclegljalndaeac
open Go.RowKit
set_option maxRecDepth 4000

/-- The lower kind first; of one kind the lower number, then the lower text. -/
def lessV (k n : Int) (s : ByteArray) (k' n' : Int) (s' : ByteArray) : Bool := if k ≠ k' then decide (k < k') else if n ≠ n' then decide (n < n') else ltS s s'

theorem lessV_cmp (k n : Int) (s : ByteArray) (k' n' : Int) (s' : ByteArray) : decide (first3 (cmpI k k') (cmpI n n') (cmpS s s') < 0) = lessV k n s k' n' s' := by
  unfold first3 lessV cmpI cmpS
  by_cases h1 : k = k'
  · subst h1
    by_cases h2 : n = n'
    · subst h2
      cases ltS s s' <;> simp
      split <;> decide
    · by_cases h3 : n < n'
      · simp [h2, h3]
      · have : n' < n := by omega
        simp [h2, h3, this]
  · by_cases h3 : k < k'
    · simp [h1, h3]
    · have : k' < k := by omega
      simp [h1, h3, this]

set_option maxHeartbeats 4000000 in
theorem lessVal_impl (k n : Int) (s : ByteArray) (k' n' : Int) (s' : ByteArray) (w : World) :
    Calls Try.prog 54 #[.agg #[.int .i64 k, .int .i64 n, .string s], .agg #[.int .i64 k', .int .i64 n', .string s']] w fun e w' => e = .returned (.bool (lessV k n s k' n' s')) ∧ Below w.heap.size w w' := by
  rw [← lessV_cmp]
  have hI := fun W => cmpInt_any k k' W
  have hN := fun W => cmpInt_any n n' W
  have hS := fun W => cmpStr_any s s' W
  generalize cmpI k k' = x at *
  generalize cmpI n n' = y at *
  generalize cmpS s s' = z at *
  go_enter Try.func54, Try.ntmps54
  go_wp2_with fail
  go_region_held3 (fun W => W.cell? ⟨w.heap.size, 0, none⟩ = some (.int .i64 k) ∧ W.cell? ⟨w.heap.size, 1, none⟩ = some (.int .i64 n) ∧ W.cell? ⟨w.heap.size, 2, none⟩ = some (.string s) ∧ W.cell? ⟨w.heap.size + 1, 0, none⟩ = some (.int .i64 k') ∧ W.cell? ⟨w.heap.size + 1, 1, none⟩ = some (.int .i64 n') ∧ W.cell? ⟨w.heap.size + 1, 2, none⟩ = some (.string s')) (go_keep) (first
    | (go_at_call_of 93 (Value.int IntKind.i64 k); refine (hI _).mono ?_; rintro e _ ⟨rfl, rfl⟩)
    | (go_at_call_of 93 (Value.int IntKind.i64 n); refine (hN _).mono ?_; rintro e _ ⟨rfl, rfl⟩)
    | (go_at_call 94; refine (hS _).mono ?_; rintro e _ ⟨rfl, rfl⟩)
    | (go_at_call 92; refine (or3_any _ x y z _ (by simp [go_sem]) (by simp [go_sem]) (by simp [go_sem])).mono ?_; rintro e _ ⟨rfl, rfl⟩))
  go_wp2
  go_ret
  refine ⟨rfl, ?_⟩
  repeat (first | exact Below.refl _ _ | refine Below.alloc ?_ (by simp <;> omega) _ | refine Below.drew ?_)


end Go.Proofs.Ytclegljalndaeac

/-
  Of two unlike values one is less, plainly.
-/
namespace Go.Proofs.Ytclegljalndaeac
open Go.RowKit
set_option maxRecDepth 4000

theorem bl_irr : ∀ l : List UInt8, Op.bytesLess l l = false
  | [] => rfl
  | x :: xs => by simp [Op.bytesLess, bl_irr xs]
theorem bl_tri : ∀ a b : List UInt8, a ≠ b → Op.bytesLess a b = !Op.bytesLess b a
  | [], [], h => absurd rfl h
  | [], _ :: _, _ => by simp [Op.bytesLess]
  | _ :: _, [], _ => by simp [Op.bytesLess]
  | x :: xs, y :: ys, h => by
    by_cases e : x = y
    · subst e
      have hne : xs ≠ ys := fun e => h (by rw [e])
      simp [Op.bytesLess, bl_tri xs ys hne]
    · have e1 : (x == y) = false := by simpa using e
      have e2 : (y == x) = false := by simpa using fun e3 => e e3.symm
      simp only [Op.bytesLess, e1, e2, Bool.false_and, Bool.or_false]
      have hn : x.toNat ≠ y.toNat := fun e3 => e (UInt8.toNat_inj.1 e3)
      by_cases hl : x < y
      · have : ¬ y < x := by simp only [UInt8.lt_iff_toNat_lt] at hl ⊢; omega
        simp [hl, this]
      · have : y < x := by simp only [UInt8.lt_iff_toNat_lt] at hl ⊢; omega
        simp [hl, this]

theorem ltS_irr (s : ByteArray) : ltS s s = false := bl_irr _
theorem ltS_tri {s t : ByteArray} (h : s ≠ t) : ltS s t = !ltS t s := bl_tri _ _ (fun e => h (toList_inj.1 e))

theorem order3 (k n : Int) (s : ByteArray) (k' n' : Int) (s' : ByteArray) :
    (lessV k n s k' n' s' = true ∧ lessV k' n' s' k n s = false ∧ eqV k n s k' n' s' = false) ∨ (lessV k n s k' n' s' = false ∧ lessV k' n' s' k n s = true ∧ eqV k n s k' n' s' = false) ∨
    (lessV k n s k' n' s' = false ∧ lessV k' n' s' k n s = false ∧ eqV k n s k' n' s' = true) := by
  unfold lessV eqV
  by_cases h1 : k = k'
  · subst h1
    by_cases h2 : n = n'
    · subst h2
      by_cases h3 : s = s'
      · subst h3
        right; right
        simp [ltS_irr]
      · have ht := ltS_tri h3
        cases hx : ltS s' s
        · rw [hx] at ht; left; simp [ht, h3]
        · rw [hx] at ht; right; left; simp [ht, h3]
    · have h2' : ¬ n' = n := fun e => h2 e.symm
      by_cases hl : n < n'
      · left; simp [h2, h2', hl]; omega
      · right; left; simp [h2, h2']; omega
  · have h1' : ¬ k' = k := fun e => h1 e.symm
    by_cases hl : k < k'
    · left; simp [h1, h1', hl]; omega
    · right; left; simp [h1, h1']; omega
end Go.Proofs.Ytclegljalndaeac

/-
  The model's LessVal comes to the plain order.
-/
namespace Go.Proofs.Ytclegljalndaeac
open Go.RowKit
set_option maxRecDepth 4000

set_option maxHeartbeats 1000000 in
theorem lessVal_spec (k n : Int) (s : ByteArray) (k' n' : Int) (s' : ByteArray) (w : World) :
    Calls Try.prog 55 #[.agg #[.int .i64 k, .int .i64 n, .string s], .agg #[.int .i64 k', .int .i64 n', .string s']] w fun e w' => e = .returned (.bool (lessV k n s k' n' s')) ∧ Below w.heap.size w w' := by
  unfold lessV ltS
  by_cases h1 : k = k'
  · subst h1
    by_cases h2 : n = n'
    · subst h2
      go_enter Try.func55, Try.ntmps55
      go_wp2
      go_ret
      refine ⟨by simp, ?_⟩
      repeat (first | exact Below.refl _ _ | refine Below.alloc ?_ (by simp <;> omega) _ | refine Below.drew ?_)
    · have h2' : (n != n') = true := by simpa using h2
      go_enter Try.func55, Try.ntmps55
      go_wp2
      go_ret
      refine ⟨by simp, ?_⟩
      repeat (first | exact Below.refl _ _ | refine Below.alloc ?_ (by simp <;> omega) _ | refine Below.drew ?_)
  · have h1' : (k != k') = true := by simpa using h1
    go_enter Try.func55, Try.ntmps55
    go_wp2
    go_ret
    refine ⟨by simp, ?_⟩
    repeat (first | exact Below.refl _ _ | refine Below.alloc ?_ (by simp <;> omega) _ | refine Below.drew ?_)
end Go.Proofs.Ytclegljalndaeac

/-
  A part of a key in a variable of the call's own.
-/
namespace Go.Proofs.Ytclegljalndaeac
open Go.RowKit
set_option maxRecDepth 4000

/-- The four cells of a part. -/
def partC (c t : Int) (nul d : Bool) : Nat → Value
  | 0 => .int .i64 c
  | 1 => .int .i64 t
  | 2 => .bool nul
  | _ => .bool d

/-- A part in a variable of the call's own. -/
def PBox (w : World) (B : Nat) (c t : Int) (nul d : Bool) : Prop := w.rowIs B 25 4 (partC c t nul d)
section
variable {w w' : World} {B D i : Nat} {c t : Int} {nul d : Bool}
theorem PBox.new (w : World) (c t : Int) (nul d : Bool) : PBox (w.alloc (.cells #[.int .i64 c, .int .i64 t, .bool nul, .bool d] 25)) w.heap.size c t nul d :=
  World.rowIs_alloc w _ 25 (partC c t nul d) (fun j hj => by match j, hj with | 0, _ => rfl | 1, _ => rfl | 2, _ => rfl | 3, _ => rfl)
theorem PBox.cells (h : PBox w B c t nul d) : w.cell? ⟨B, 0, none⟩ = some (.int .i64 c) ∧ w.cell? ⟨B, 1, none⟩ = some (.int .i64 t) ∧ w.cell? ⟨B, 2, none⟩ = some (.bool nul) ∧ w.cell? ⟨B, 3, none⟩ = some (.bool d) :=
  ⟨h.cell (i := 0) (by decide), h.cell (i := 1) (by decide), h.cell (i := 2) (by decide), h.cell (i := 3) (by decide)⟩
theorem PBox.frozen (h : PBox w B c t nul d) : w.frozen? ⟨B, 0, none⟩ = false ∧ w.frozen? ⟨B, 1, none⟩ = false ∧ w.frozen? ⟨B, 2, none⟩ = false ∧ w.frozen? ⟨B, 3, none⟩ = false :=
  ⟨World.rowIs.frozen h 0, World.rowIs.frozen h 1, World.rowIs.frozen h 2, World.rowIs.frozen h 3⟩
theorem PBox.lt (h : PBox w B c t nul d) : B < w.heap.size := World.rowIs.lt h
theorem PBox.below (h : PBox w B c t nul d) (hb : Below w.heap.size w w') : PBox w' B c t nul d := h.of_block (hb.block B h.lt)
theorem PBox.other (h : PBox w B c t nul d) (hne : B ≠ D) (u : Value) : PBox (w.setCell ⟨D, i, none⟩ u) B c t nul d := h.of_block (Below.heap_setCell _ _ _ _ hne)
theorem PBox.drew (h : PBox w B c t nul d) : PBox w.drew B c t nul d := h
end
end Go.Proofs.Ytclegljalndaeac

/-
  The model's LessPart: values as they stand, the other way round where it is asked.
-/
namespace Go.Proofs.Ytclegljalndaeac
open Go.RowKit
set_option maxRecDepth 4000

def lessP (d : Bool) (k n : Int) (s : ByteArray) (k' n' : Int) (s' : ByteArray) : Bool := if d then lessV k' n' s' k n s else lessV k n s k' n' s'

set_option maxHeartbeats 1000000 in
theorem specLessPart_any (c t : Int) (nul d : Bool) (k n : Int) (s : ByteArray) (k' n' : Int) (s' : ByteArray) (w : World) :
    Calls Try.prog 14 #[.agg #[.int .i64 c, .int .i64 t, .bool nul, .bool d], .agg #[.int .i64 k, .int .i64 n, .string s], .agg #[.int .i64 k', .int .i64 n', .string s']] w fun e w' => e = .returned (.bool (lessP d k n s k' n' s')) ∧ Below w.heap.size w w' := by
  have hb0 : ∀ o o' o'', Below w.heap.size w (((w.alloc o).alloc o').alloc o'') := fun o o' o'' => (((Below.refl _ _).alloc (Nat.le_refl _) _).alloc (by simp) _).alloc (by simp; omega) _
  cases d with
  | true =>
    go_enter Try.func14, Try.ntmps14
    go_wp2_with fail
    refine (lessVal_spec k' n' s' k n s _).mono ?_
    rintro e w1 ⟨rfl, hb1⟩
    have HB : Hid (Below w.heap.size w w1) := (hb0 _ _ _).trans (hb1.mono (by simp; omega))
    clear hb1 hb0
    go_wp2
    go_ret
    exact ⟨rfl, HB.out⟩
  | false =>
    go_enter Try.func14, Try.ntmps14
    go_wp2_with fail
    refine (lessVal_spec k n s k' n' s' _).mono ?_
    rintro e w1 ⟨rfl, hb1⟩
    have HB : Hid (Below w.heap.size w w1) := (hb0 _ _ _).trans (hb1.mono (by simp; omega))
    clear hb1 hb0
    go_wp2
    go_ret
    exact ⟨rfl, HB.out⟩
end Go.Proofs.Ytclegljalndaeac

/-
  Of two values that fit a part, plainly: alike, or their bytes part at some place, and stand there in the order of the values.
-/
namespace Go.Proofs.Ytclegljalndaeac
open Go.RowKit
set_option maxRecDepth 4000

/-- Two lists part at some place: the one has x there, the other y. -/
def PartsAt (x y : Int) : List Int → List Int → Prop
  | a :: l, b :: k => (a = x ∧ b = y) ∨ (a = b ∧ PartsAt x y l k)
  | _, _ => False

theorem PartsAt.append {x y : Int} : ∀ {l k : List Int}, PartsAt x y l k → ∀ r r', PartsAt x y (l ++ r) (k ++ r')
  | a :: l, b :: k, h, r, r' => by
    rcases h with h | ⟨h1, h2⟩
    · exact .inl h
    · exact .inr ⟨h1, PartsAt.append h2 r r'⟩
theorem PartsAt.behind {x y : Int} {l k : List Int} (h : PartsAt x y l k) : ∀ p : List Int, PartsAt x y (p ++ l) (p ++ k)
  | [] => h
  | _ :: p => .inr ⟨rfl, h.behind p⟩
theorem PartsAt.turn {x y : Int} : ∀ {l k : List Int}, PartsAt x y l k → PartsAt (255 - x) (255 - y) (l.map (fun z => 255 - z)) (k.map (fun z => 255 - z))
  | a :: l, b :: k, h => by
    rcases h with ⟨rfl, rfl⟩ | ⟨rfl, h2⟩
    · exact .inl ⟨rfl, rfl⟩
    · exact .inr ⟨rfl, h2.turn⟩
theorem PartsAt.ahead {x y : Int} (hx : 0 ≤ x ∧ x ≤ 255) (hy : 0 ≤ y ∧ y ≤ 255) (hne : x ≠ y) : ∀ {l k : List Int}, (∀ z ∈ l, 0 ≤ z ∧ z ≤ 255) → (∀ z ∈ k, 0 ≤ z ∧ z ≤ 255) → PartsAt x y l k → ahead l k = decide (x < y)
  | a :: l, b :: k, hl, hk, h => by
    rw [ahead_cons a b l k (hl a (by simp)) (hk b (by simp))]
    rcases h with ⟨rfl, rfl⟩ | ⟨rfl, h2⟩
    · by_cases h : a < b
      · simp [h]
      · simp [h, hne]
    · rw [if_neg (by omega), if_pos rfl]
      exact PartsAt.ahead hx hy hne (fun z hz => hl z (by simp [hz])) (fun z hz => hk z (by simp [hz])) h2
theorem PartsAt.notBegin {x y : Int} (hne : x ≠ y) : ∀ {l k r : List Int}, PartsAt x y l k → l ≠ k ++ r
  | a :: l, b :: k, r, h => by
    intro e
    simp only [List.cons_append, List.cons.injEq] at e
    rcases h with ⟨rfl, rfl⟩ | ⟨_, h2⟩
    · exact hne e.1
    · exact h2.notBegin hne e.2
theorem PartsAt.symm {x y : Int} : ∀ {l k : List Int}, PartsAt x y l k → PartsAt y x k l
  | a :: l, b :: k, h => by
    rcases h with ⟨rfl, rfl⟩ | ⟨rfl, h2⟩
    · exact .inl ⟨rfl, rfl⟩
    · exact .inr ⟨rfl, h2.symm⟩
theorem PartsAt.bytes {x y : Int} : ∀ {l k : List Int}, (∀ z ∈ l, 0 ≤ z ∧ z ≤ 255) → (∀ z ∈ k, 0 ≤ z ∧ z ≤ 255) → PartsAt x y l k → (0 ≤ x ∧ x ≤ 255) ∧ (0 ≤ y ∧ y ≤ 255)
  | a :: l, b :: k, hl, hk, h => by
    rcases h with ⟨rfl, rfl⟩ | ⟨_, h2⟩
    · exact ⟨hl a (by simp), hk b (by simp)⟩
    · exact h2.bytes (fun z hz => hl z (by simp [hz])) (fun z hz => hk z (by simp [hz]))
/-- Lists of which neither begins the other part. -/
theorem partsAt_of : ∀ {l k : List Int}, (∀ r, l ≠ k ++ r) → (∀ r, k ≠ l ++ r) → ∃ x y, x ≠ y ∧ PartsAt x y l k
  | [], k, _, h2 => absurd rfl (h2 k)
  | a :: l, [], h1, _ => absurd rfl (h1 (a :: l))
  | a :: l, b :: k, h1, h2 => by
    by_cases e : a = b
    · subst e
      obtain ⟨x, y, hne, h⟩ := partsAt_of (l := l) (k := k) (fun r e => h1 r (by rw [e]; rfl)) (fun r e => h2 r (by rw [e]; rfl))
      exact ⟨x, y, hne, .inr ⟨rfl, h⟩⟩
    · exact ⟨a, b, e, .inl ⟨rfl, rfl⟩⟩

theorem fixL_inj {x y : Int} (hx : -2147483648 ≤ x ∧ x ≤ 2147483647) (hy : -2147483648 ≤ y ∧ y ≤ 2147483647) (h : fixL x = fixL y) : x = y := by
  have h1 := fix_ahead x y
  have h2 := fix_ahead y x
  rw [h] at h1 h2
  rw [h2] at h1
  rw [clampF_self x hx, clampF_self y hy] at h1
  rw [clampF_self x hx, clampF_self y hy] at h2
  simp only [decide_eq_decide] at h1
  omega

/-- Of two values of a type that are within: unlike ones have bytes that part, in the order of the values. -/
theorem val_order {t x x' : Int} {s s' : ByteArray} (ht : 1 ≤ t ∧ t ≤ 4) (h : okF t x s = true) (h' : okF t x' s' = true) (hne : ¬ (x = x' ∧ s = s')) :
    ∃ a b, a ≠ b ∧ PartsAt a b (valL t x s) (valL t x' s') ∧ decide (a < b) = lessV t x s t x' s' := by
  have bl := valL_byte t x s
  have bl' := valL_byte t x' s'
  have key : (∀ r, valL t x s ≠ valL t x' s' ++ r) → (∀ r, valL t x' s' ≠ valL t x s ++ r) → ahead (valL t x s) (valL t x' s') = lessV t x s t x' s' → ∃ a b, a ≠ b ∧ PartsAt a b (valL t x s) (valL t x' s') ∧ decide (a < b) = lessV t x s t x' s' := by
    intro h1 h2 h3
    obtain ⟨a, b, hab, hp⟩ := partsAt_of h1 h2
    obtain ⟨ba, bb⟩ := hp.bytes bl bl'
    exact ⟨a, b, hab, hp, by rw [← h3, hp.ahead ba bb hab bl bl']⟩
  obtain rfl | rfl | rfl | rfl : t = 1 ∨ t = 2 ∨ t = 3 ∨ t = 4 := by omega
  · rw [okF_spec1] at h h'
    simp at h h'
    obtain ⟨⟨h1, h2⟩, rfl⟩ := h
    obtain ⟨⟨h3, h4⟩, rfl⟩ := h'
    have hx : x ≠ x' := fun e => hne ⟨e, rfl⟩
    have e1 : ∀ z, valL 1 z noBytes = fixL z := fun z => rfl
    rw [e1, e1] at key ⊢
    refine key (fun r e => hx ?_) (fun r e => hx ?_) ?_
    · have hl : r = [] := by have := congrArg List.length e; rw [List.length_append, fixL_len, fixL_len] at this; exact List.eq_nil_of_length_eq_zero (by omega)
      rw [hl, List.append_nil] at e
      exact fixL_inj ⟨h1, h2⟩ ⟨h3, h4⟩ e
    · have hl : r = [] := by have := congrArg List.length e; rw [List.length_append, fixL_len, fixL_len] at this; exact List.eq_nil_of_length_eq_zero (by omega)
      rw [hl, List.append_nil] at e
      exact (fixL_inj ⟨h3, h4⟩ ⟨h1, h2⟩ e).symm
    · rw [fix_ahead, clampF_self x ⟨h1, h2⟩, clampF_self x' ⟨h3, h4⟩]
      unfold lessV
      simp [hx]
  · rw [okF_spec2] at h h'
    simp at h h'
    obtain ⟨⟨h1, h2⟩, rfl⟩ := h
    obtain ⟨⟨h3, h4⟩, rfl⟩ := h'
    have hx : x ≠ x' := fun e => hne ⟨e, rfl⟩
    have e1 : ∀ z, valL 2 z noBytes = varL z := fun z => rfl
    rw [e1, e1] at key ⊢
    have e2 : varL x = keptL x := by unfold varL; rw [clampV_self x ⟨h1, h2⟩]
    have e3 : varL x' = keptL x' := by unfold varL; rw [clampV_self x' ⟨h3, h4⟩]
    rw [e2, e3] at key ⊢
    refine key (fun r e => hx (kept_prefix ⟨h1, h2⟩ ⟨h3, h4⟩ e)) (fun r e => hx (kept_prefix ⟨h3, h4⟩ ⟨h1, h2⟩ e).symm) ?_
    rw [kept_ahead ⟨h1, h2⟩ ⟨h3, h4⟩]
    unfold lessV
    simp [hx]
  · rw [okF_spec3] at h h'
    simp at h h'
    obtain ⟨h1, rfl⟩ := h
    obtain ⟨h2, rfl⟩ := h'
    have hx : s ≠ s' := fun e => hne ⟨rfl, e⟩
    have e1 : ∀ z, valL 3 0 z = escL (sl z) ++ [0, 1] := fun z => rfl
    rw [e1, e1] at key ⊢
    refine key (fun r e => hx (sl_inj (esc_prefix e))) (fun r e => hx (sl_inj (esc_prefix e)).symm) ?_
    rw [esc_ahead]
    unfold lessV ltS
    simp
  · rw [okF_spec4] at h h'
    simp at h h'
    obtain ⟨⟨h1, h2⟩, rfl⟩ := h
    obtain ⟨⟨h3, h4⟩, rfl⟩ := h'
    have hx : x ≠ x' := fun e => hne ⟨e, rfl⟩
    refine ⟨x % 256, x' % 256, by omega, .inl ⟨rfl, rfl⟩, ?_⟩
    unfold lessV
    rw [show x % 256 = x by omega, show x' % 256 = x' by omega]
    simp [hx]

/-- Of two values that fit a part: alike, or their bytes part, in the order of the values. -/
theorem part_order {t : Int} {nul d : Bool} {k x : Int} {s : ByteArray} {k' x' : Int} {s' : ByteArray} (ht : 1 ≤ t ∧ t ≤ 4) (h : fitsP t nul k x s = true) (h' : fitsP t nul k' x' s' = true) (hne : eqV k x s k' x' s' = false) :
    ∃ a b, a ≠ b ∧ PartsAt a b (turnL d (partL nul k x s)) (turnL d (partL nul k' x' s')) ∧ decide (a < b) = lessP d k x s k' x' s' := by
  have hne' : ¬ (k = k' ∧ x = x' ∧ s = s') := by
    rintro ⟨rfl, rfl, rfl⟩
    simp [eqV] at hne
  have base : ∃ a b, a ≠ b ∧ PartsAt a b (partL nul k x s) (partL nul k' x' s') ∧ decide (a < b) = lessV k x s k' x' s' := by
    unfold fitsP at h h'
    simp only [Bool.and_eq_true, Bool.or_eq_true, decide_eq_true_eq] at h h'
    by_cases k0 : k = 0
    · subst k0
      by_cases k1 : k' = 0
      · subst k1
        obtain ⟨o1, _⟩ := h
        obtain ⟨o2, _⟩ := h'
        rw [okF_spec0] at o1 o2
        simp at o1 o2
        exact absurd ⟨rfl, by rw [o1.1, o2.1], by rw [o1.2, o2.2]⟩ hne'
      · have hn : nul = true := by rcases h.2 with h2 | h2; exact absurd rfl h2.2; exact h2.2
        subst hn
        have e2 : partL true k' x' s' = 1 :: valL k' x' s' := by unfold partL; rw [if_neg k1]; rfl
        have hk : k' = t := by rcases h'.2 with h2 | h2; exact h2.1; exact absurd h2.1 k1
        rw [show partL true 0 x s = [0] from rfl, e2]
        refine ⟨0, 1, by decide, .inl ⟨rfl, rfl⟩, ?_⟩
        unfold lessV
        rw [if_pos (Ne.symm k1)]
        simp; omega
    · have hk : k = t := by rcases h.2 with h2 | h2; exact h2.1; exact absurd h2.1 k0
      by_cases k1 : k' = 0
      · subst k1
        have hn : nul = true := by rcases h'.2 with h2 | h2; exact absurd rfl h2.2; exact h2.2
        subst hn
        have e2 : partL true k x s = 1 :: valL k x s := by unfold partL; rw [if_neg k0]; rfl
        rw [show partL true 0 x' s' = [0] from rfl, e2]
        refine ⟨1, 0, by decide, .inl ⟨rfl, rfl⟩, ?_⟩
        unfold lessV
        rw [if_pos k0]
        simp; omega
      · have hk' : k' = t := by rcases h'.2 with h2 | h2; exact h2.1; exact absurd h2.1 k1
        subst hk
        subst hk'
        obtain ⟨a, b, hab, hp, hl⟩ := val_order ht h.1 h'.1 (fun e => hne' ⟨rfl, e⟩)
        refine ⟨a, b, hab, ?_, hl⟩
        unfold partL
        rw [if_neg k0, if_neg k0]
        cases nul with
        | false => exact hp
        | true => exact .inr ⟨rfl, hp⟩
  obtain ⟨a, b, hab, hp, hl⟩ := base
  cases d with
  | false => exact ⟨a, b, hab, hp, hl⟩
  | true =>
    refine ⟨255 - a, 255 - b, by omega, hp.turn, ?_⟩
    show _ = lessV k' x' s' k x s
    have h3 : decide (255 - a < 255 - b) = !decide (a < b) := by
      by_cases hlt : a < b
      · simp [hlt]; omega
      · simp [hlt]; omega
    rw [h3, hl]
    rcases order3 k x s k' x' s' with h1 | h1 | h1
    · rw [h1.1, h1.2.1]; rfl
    · rw [h1.1, h1.2.1]; rfl
    · rw [hne] at h1; exact absurd h1.2.2 (by decide)
end Go.Proofs.Ytclegljalndaeac

/-
  The order of keys, plainly, and that of their bytes; beginnings.
-/
namespace Go.Proofs.Ytclegljalndaeac
open Go.RowKit
set_option maxRecDepth 4000

section
variable (n : Nat) (fd : Nat → Bool) (m : Nat) (fk fn : Nat → Int) (fs : Nat → ByteArray) (m' : Nat) (fk' fn' : Nat → Int) (fs' : Nat → ByteArray)
/-- Whether the values at a place are alike. -/
def sameAt (i : Nat) : Bool := eqV (fk i) (fn i) (fs i) (fk' i) (fn' i) (fs' i)
/-- Whether the one key is less. -/
def lessK : Bool :=
  match (List.range (min m m')).find? (fun i => !sameAt fk fn fs fk' fn' fs' i) with
  | some i => decide (i < n) && lessP (fd i) (fk i) (fn i) (fs i) (fk' i) (fn' i) (fs' i)
  | none => decide (m < m')
end
section
variable {n : Nat} {fc ft : Nat → Int} {fu fd : Nat → Bool} {m : Nat} {fk fn : Nat → Int} {fs : Nat → ByteArray} {m' : Nat} {fk' fn' : Nat → Int} {fs' : Nat → ByteArray}
theorem lessK_at {i : Nat} (hi : i < m) (hi' : i < m') (hne : sameAt fk fn fs fk' fn' fs' i = false) (hs : ∀ j, j < i → sameAt fk fn fs fk' fn' fs' j = true) : lessK n fd m fk fn fs m' fk' fn' fs' = (decide (i < n) && lessP (fd i) (fk i) (fn i) (fs i) (fk' i) (fn' i) (fs' i)) := by
  have e : (List.range (min m m')).find? (fun i => !sameAt fk fn fs fk' fn' fs' i) = some i := by
    rw [List.find?_range_eq_some]
    refine ⟨by simp [hne], by simp; omega, fun j hj => by simp [hs j hj]⟩
  unfold lessK
  rw [e]
theorem lessK_same (hs : ∀ j, j < min m m' → sameAt fk fn fs fk' fn' fs' j = true) : lessK n fd m fk fn fs m' fk' fn' fs' = decide (m < m') := by
  have e : (List.range (min m m')).find? (fun i => !sameAt fk fn fs fk' fn' fs' i) = none := by
    rw [List.find?_range_eq_none]
    intro j hj
    simp [hs j hj]
  unfold lessK
  rw [e]
theorem sameAt_iff {i : Nat} : sameAt fk fn fs fk' fn' fs' i = true ↔ fk i = fk' i ∧ fn i = fn' i ∧ fs i = fs' i := by
  unfold sameAt eqV; simp [and_assoc]

/-- Of two lists of values all are alike up to k, or there is a first place where they are not. -/
theorem first_ne (k : Nat) : (∀ j, j < k → sameAt fk fn fs fk' fn' fs' j = true) ∨ ∃ i, i < k ∧ sameAt fk fn fs fk' fn' fs' i = false ∧ ∀ j, j < i → sameAt fk fn fs fk' fn' fs' j = true := by
  induction k with
  | zero => exact .inl (fun j hj => absurd hj (Nat.not_lt_zero _))
  | succ k ih =>
    rcases ih with ih | ⟨i, hi, h1, h2⟩
    · cases hk : sameAt fk fn fs fk' fn' fs' k with
      | true =>
        refine .inl (fun j hj => ?_)
        by_cases e : j < k
        · exact ih j e
        · obtain rfl : j = k := by omega
          exact hk
      | false => exact .inr ⟨k, by omega, hk, ih⟩
    · exact .inr ⟨i, by omega, h1, h2⟩

theorem onePL_same {i : Nat} (h : sameAt fk fn fs fk' fn' fs' i = true) : onePL fc ft fu fd fk fn fs i = onePL fc ft fu fd fk' fn' fs' i := by
  obtain ⟨h1, h2, h3⟩ := sameAt_iff.1 h
  unfold onePL
  rw [h1, h2, h3]
theorem onePL_fit {i : Nat} (hp : partOk (fc i) (ft i) = true) (hf : fitsP (ft i) (fu i) (fk i) (fn i) (fs i) = true) : onePL fc ft fu fd fk fn fs i = turnL (fd i) (partL (fu i) (fk i) (fn i) (fs i)) := by
  unfold onePL putPL; rw [hp, hf]; rfl

/-- At the first place where they are not alike the bytes part, in the order of the values. -/
theorem keys_part {i k k' : Nat} (hi : i < k) (hi' : i < k') (hp : partOk (fc i) (ft i) = true) (hf : fitsP (ft i) (fu i) (fk i) (fn i) (fs i) = true) (hf' : fitsP (ft i) (fu i) (fk' i) (fn' i) (fs' i) = true) (hne : sameAt fk fn fs fk' fn' fs' i = false) (hs : ∀ j, j < i → sameAt fk fn fs fk' fn' fs' j = true) :
    ∃ a b, a ≠ b ∧ PartsAt a b (keyT (onePL fc ft fu fd fk fn fs) k) (keyT (onePL fc ft fu fd fk' fn' fs') k') ∧ decide (a < b) = lessP (fd i) (fk i) (fn i) (fs i) (fk' i) (fn' i) (fs' i) := by
  have ht : 1 ≤ ft i ∧ ft i ≤ 4 := by unfold partOk at hp; simp at hp; omega
  obtain ⟨a, b, hab, hpa, hl⟩ := part_order (d := fd i) ht hf hf' hne
  refine ⟨a, b, hab, ?_, hl⟩
  have e1 := keyT_split (onePL fc ft fu fd fk fn fs) (i + 1) (k - (i + 1))
  have e2 := keyT_split (onePL fc ft fu fd fk' fn' fs') (i + 1) (k' - (i + 1))
  rw [show i + 1 + (k - (i + 1)) = k by omega] at e1
  rw [show i + 1 + (k' - (i + 1)) = k' by omega] at e2
  rw [e1, e2, keyT, keyT, keyT_congr (fun j hj => onePL_same (fc := fc) (ft := ft) (fu := fu) (fd := fd) (hs j hj)), onePL_fit hp hf, onePL_fit hp hf']
  exact (hpa.behind _).append _ _

/-- Each value that fits has at least a byte. -/
theorem onePL_pos {i : Nat} (hp : partOk (fc i) (ft i) = true) (hf : fitsP (ft i) (fu i) (fk i) (fn i) (fs i) = true) : 1 ≤ (onePL fc ft fu fd fk fn fs i).length := by
  rw [onePL_fit hp hf, turnL_len]
  exact (partL_len _ _ _ _).1
theorem keyT_grows (hp : ∀ i, i < m → partOk (fc i) (ft i) = true) (hf : ∀ i, i < m → fitsP (ft i) (fu i) (fk i) (fn i) (fs i) = true) : ∀ k, k < m → (keyT (onePL fc ft fu fd fk fn fs) k).length < (keyT (onePL fc ft fu fd fk fn fs) m).length := by
  intro k hk
  have e := keyT_split (onePL fc ft fu fd fk fn fs) (k + 1) (m - (k + 1))
  rw [show k + 1 + (m - (k + 1)) = m by omega] at e
  rw [e, List.length_append, keyT, List.length_append]
  have := onePL_pos (fd := fd) (hp k hk) (hf k hk)
  omega
end
end Go.Proofs.Ytclegljalndaeac

