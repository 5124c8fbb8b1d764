/-
  Together: PartBack, ValInner, ValOfWalk, ValOkImpl, PartImpl
-/
import Derived.Test.YtbcgonfihdpjnacPack3
import Derived.Test.YtbcgonfihdpjnacPack6
import Derived.Test.YtbcgonfihdpjnacPack1
import Derived.Test.YtbcgonfihdpjnacPack2
import Derived.Deep.RegionWith
import Derived.BigQuiet
import Derived.Test.YtbcgonfihdpjnacPack4
/-
  One value in a key, plainly: it comes back of its bytes, and what is read of bytes fits and has these.
-/
namespace Go.Proofs.Ytbcgonfihdpjnac
open Go.RowKit
set_option maxRecDepth 4000

theorem turned_twice (d : Bool) (f : Nat → Int) : turned d (turned d f) = f := by
  unfold turned
  cases d
  · rfl
  · funext i
    show 255 - (255 - f i) = f i
    omega

/-- What a value is of its kind. -/
theorem okF_cases {k n : Int} {s : ByteArray} (h : okF k n s = true) :
    (k = 0 ∧ n = 0 ∧ s = noBytes) ∨ (k = 1 ∧ (-2147483648 ≤ n ∧ n ≤ 2147483647) ∧ s = noBytes) ∨ (k = 2 ∧ (-1000000000000000 ≤ n ∧ n ≤ 1000000000000000) ∧ s = noBytes) ∨ (k = 3 ∧ n = 0 ∧ s.size ≤ 30) ∨ (k = 4 ∧ (n = 0 ∨ n = 1) ∧ s = noBytes) := by
  obtain ⟨v, hr, rfl, rfl, rfl⟩ := okF_iff.1 h
  cases v with
  | null => left; exact ⟨rfl, rfl, rfl⟩
  | int n => right; left; exact ⟨rfl, by simpa [V.rng, V.n] using hr, rfl⟩
  | num n => right; right; left; exact ⟨rfl, by simpa [V.rng, V.n] using hr, rfl⟩
  | text s => right; right; right; left; exact ⟨rfl, rfl, by simpa [V.rng, V.s] using hr⟩
  | bool b => right; right; right; right; exact ⟨rfl, by cases b <;> simp [V.n], rfl⟩

theorem rawT_put (l : List Int) (m : Nat) (k n : Int) (s : ByteArray) (hl : l.length = m) (hok : okF k n s = true) (h0 : k ≠ 0) :
    rawT (m + (valL k n s).length) (fun i => (l ++ valL k n s).getD i 0) k (m : Int) = ⟨k, n, s, (m : Int) + ((valL k n s).length : Int), true⟩ := by
  unfold rawT
  rcases okF_cases hok with ⟨rfl, -⟩ | ⟨rfl, hn, rfl⟩ | ⟨rfl, hn, rfl⟩ | ⟨rfl, rfl, hs⟩ | ⟨rfl, hn, rfl⟩
  · exact absurd rfl h0
  · have hv : valL 1 n noBytes = fixL n := rfl
    rw [hv, if_pos rfl, fixL_len, getF_put l m n hl, clampF_self n hn]
    rfl
  · have hv : valL 2 n noBytes = varL n := rfl
    rw [hv, if_neg (by decide), if_pos rfl, getV_put l m n hl, clampV_self n hn]
  · have hv : valL 3 0 s = escL (sl s) ++ [0, 1] := rfl
    rw [hv, if_neg (by decide), if_neg (by decide), if_pos rfl]
    have e := getE_putE m (fun i => l.getD i 0) s
    have hlf : lof m (fun i => l.getD i 0) = l := by have := lof_self l; rw [hl] at this; exact this
    unfold escT escN at e
    rw [hlf] at e
    have hlen : (escL (sl s) ++ [0, 1]).length = (escL (sl s)).length + 2 := by simp
    rw [hlen, e]
    simp
  · have hv : valL 4 n noBytes = [n % 256] := rfl
    rw [hv, if_neg (by decide), if_neg (by decide), if_neg (by decide)]
    have e : (l ++ [n % 256]).getD m 0 = n := by
      have := behind l [n % 256] m 0 hl
      rw [Nat.add_zero] at this
      rw [this]
      show n % 256 = n
      omega
    have hlen : ([n % 256] : List Int).length = 1 := rfl
    rw [hlen, if_pos (by omega), Int.toNat_natCast]
    simp only [e]
    rfl

theorem chk_self (g : Got) (h1 : g.ok = true) (h2 : okF g.k g.n g.s = true) : g.chk = g := by unfold Got.chk; rw [h1, h2]; rfl

/-- What fits comes back. -/
theorem part_back (l : List Int) (m : Nat) (c t : Int) (nul d : Bool) (k n : Int) (s : ByteArray) (hl : l.length = m) (hp : partOk c t = true) (hf : fitsP t nul k n s = true) :
    getP (m + (partL nul k n s).length) (turned d (fun i => (l ++ partL nul k n s).getD i 0)) c t nul d (m : Int) = ⟨k, n, s, (m : Int) + ((partL nul k n s).length : Int), true⟩ := by
  unfold getP
  rw [if_neg (by rw [hp]; simp; omega), turned_twice]
  unfold fitsP at hf
  simp only [Bool.and_eq_true, Bool.or_eq_true, decide_eq_true_eq] at hf
  obtain ⟨hok, hk⟩ := hf
  unfold getN partL
  rcases hk with ⟨rfl, h0⟩ | ⟨rfl, rfl⟩
  · rw [if_neg h0]
    cases nul with
    | false =>
      simp only [Bool.false_eq_true, if_false]
      unfold getT
      rw [rawT_put l m k n s hl hok h0]
      exact chk_self _ rfl hok
    | true =>
      simp only [if_true]
      have e1 : (l ++ 1 :: valL k n s).getD m 0 = 1 := by
        have := behind l (1 :: valL k n s) m 0 hl
        rw [Nat.add_zero] at this
        rw [this]
        rfl
      have hlen : (1 :: valL k n s).length = (valL k n s).length + 1 := rfl
      rw [Int.toNat_natCast, e1, if_neg (by rw [hlen]; omega), if_neg (by decide)]
      unfold getT
      have e := rawT_put (l ++ [1]) (m + 1) k n s (by simp [hl]) hok h0
      rw [List.append_assoc] at e
      have e' : ([1] ++ valL k n s : List Int) = 1 :: valL k n s := rfl
      rw [e'] at e
      rw [show ((m + 1 : Nat) : Int) = (m : Int) + 1 by omega] at e
      rw [show m + (1 :: valL k n s).length = m + 1 + (valL k n s).length by rw [hlen]; omega, e]
      rw [show (m : Int) + 1 + ((valL k n s).length : Int) = (m : Int) + ((1 :: valL k n s).length : Int) by rw [hlen]; omega]
      exact chk_self _ rfl hok
  · rcases okF_cases hok with ⟨-, rfl, rfl⟩ | ⟨h, -⟩ | ⟨h, -⟩ | ⟨h, -⟩ | ⟨h, -⟩
    · simp only [if_true]
      have e1 : (l ++ [0]).getD m 0 = 0 := by
        have := behind l [0] m 0 hl
        rw [Nat.add_zero] at this
        rw [this]
        rfl
      rw [Int.toNat_natCast, e1, if_neg (by simp; omega), if_pos rfl]
      rfl
    all_goals exact absurd h (by decide)

theorem chk_ok {g h : Got} (e : g.chk = h) (ho : h.ok = true) : g = h ∧ okF g.k g.n g.s = true ∧ g.ok = true := by
  unfold Got.chk at e
  by_cases hc : g.ok = true ∧ okF g.k g.n g.s = true
  · rw [if_pos (by rw [hc.1, hc.2]; rfl)] at e
    exact ⟨e, hc.2, hc.1⟩
  · rw [if_neg (by rw [Bool.and_eq_true]; exact hc)] at e
    subst e
    cases ho

theorem rawT_read {N : Nat} {F : Nat → Int} {t p k n q : Int} {s : ByteArray} (hb : ∀ i, i < N → 0 ≤ F i ∧ F i ≤ 255) (ht : 1 ≤ t ∧ t ≤ 4) (h : rawT N F t p = ⟨k, n, s, q, true⟩) (hok : okF k n s = true) :
    k = t ∧ ∃ i : Nat, p = (i : Int) ∧ q = (i : Int) + ((valL k n s).length : Int) ∧ i + (valL k n s).length ≤ N ∧ valL k n s = lof (valL k n s).length (fun j => F (i + j)) := by
  unfold rawT at h
  obtain rfl | rfl | rfl | rfl : t = 1 ∨ t = 2 ∨ t = 3 ∨ t = 4 := by omega
  · rw [if_pos rfl] at h
    simp only [Got.mk.injEq] at h
    obtain ⟨rfl, h1, rfl, h2, h3⟩ := h
    obtain ⟨i, rfl, rfl, hi, -, -, hL⟩ := fix_read hb (p := p) (a := n) (q := q) (by rw [← h1, ← h2, ← h3])
    have hv : valL 1 n noBytes = fixL n := rfl
    rw [hv, fixL_len]
    exact ⟨rfl, i, rfl, rfl, hi, hL⟩
  · rw [if_neg (by decide), if_pos rfl] at h
    simp only [Got.mk.injEq] at h
    obtain ⟨rfl, h1, rfl, h2, h3⟩ := h
    obtain ⟨i, rfl, rfl, hi, -, -, hL⟩ := var_read hb (p := p) (a := n) (q := q) (by rw [← h1, ← h2, ← h3])
    have hv : valL 2 n noBytes = varL n := rfl
    rw [hv]
    exact ⟨rfl, i, rfl, rfl, hi, hL⟩
  · rw [if_neg (by decide), if_neg (by decide), if_pos rfl] at h
    simp only [Got.mk.injEq] at h
    obtain ⟨rfl, rfl, h1, h2, h3⟩ := h
    obtain ⟨i, K, rfl, rfl, hi, -, -, hL⟩ := getE_back hb (x := p) (s := s) (q := q) (by rw [← h1, ← h2, ← h3])
    have hv : valL 3 0 s = escL (sl s) ++ [0, 1] := rfl
    have hK : (valL 3 0 s).length = K := by rw [hv, ← hL, lof_len]
    rw [hK, hv]
    exact ⟨rfl, i, rfl, rfl, hi, hL.symm⟩
  · rw [if_neg (by decide), if_neg (by decide), if_neg (by decide)] at h
    by_cases hp : 0 ≤ p ∧ p < N
    · rw [if_pos hp] at h
      simp only [Got.mk.injEq] at h
      obtain ⟨rfl, rfl, rfl, rfl, -⟩ := h
      obtain ⟨i, rfl⟩ := Int.eq_ofNat_of_zero_le hp.1
      have hbi := hb i (by omega)
      have hv : valL 4 (F i) noBytes = [F i % 256] := rfl
      rw [Int.toNat_natCast, hv]
      refine ⟨rfl, i, rfl, rfl, by show i + 1 ≤ N; omega, ?_⟩
      show [F i % 256] = [F (i + 0)]
      rw [Nat.add_zero, Int.emod_eq_of_lt hbi.1 (by omega)]
    · rw [if_neg hp] at h
      simp at h

theorem turned_bd {d : Bool} {N : Nat} {F : Nat → Int} (hb : ∀ i, i < N → 0 ≤ F i ∧ F i ≤ 255) : ∀ i, i < N → 0 ≤ turned d F i ∧ turned d F i ≤ 255 := by
  intro i hi
  have := hb i hi
  unfold turned
  cases d
  · exact this
  · show 0 ≤ 255 - F i ∧ 255 - F i ≤ 255; omega
theorem turnL_lof (d : Bool) (k : Nat) (F : Nat → Int) (i : Nat) : turnL d (lof k (fun j => turned d F (i + j))) = lof k (fun j => F (i + j)) := by
  unfold turnL turned
  cases d
  · rfl
  · simp only [if_true]
    unfold lof
    rw [List.map_map]
    apply List.map_congr_left
    intro j _
    show 255 - (255 - F (i + j)) = F (i + j)
    omega

/-- What is read fits, and has these bytes. -/
theorem part_read {N : Nat} {F : Nat → Int} {c t : Int} {nul d : Bool} {p k n q : Int} {s : ByteArray} (hb : ∀ i, i < N → 0 ≤ F i ∧ F i ≤ 255) (h : getP N F c t nul d p = ⟨k, n, s, q, true⟩) :
    partOk c t = true ∧ fitsP t nul k n s = true ∧ ∃ i : Nat, p = (i : Int) ∧ q = (i : Int) + ((putPL c t nul d k n s).length : Int) ∧ i + (putPL c t nul d k n s).length ≤ N ∧ putPL c t nul d k n s = lof (putPL c t nul d k n s).length (fun j => F (i + j)) := by
  unfold getP at h
  by_cases h1 : partOk c t = false ∨ p < 0 ∨ (N : Int) < p
  · rw [if_pos h1] at h
    exact absurd (congrArg Got.ok h) (fun e => by cases e)
  rw [if_neg h1] at h
  have hp : partOk c t = true := by simpa using fun e => h1 (Or.inl e)
  obtain ⟨i, rfl⟩ := Int.eq_ofNat_of_zero_le (a := p) (by omega)
  have hbt := turned_bd (d := d) hb
  have ht : 1 ≤ t ∧ t ≤ 4 := by unfold partOk at hp; simp at hp; omega
  -- what is to be shown, of the bytes ahead of a turn
  have key : ∀ K : Nat, fitsP t nul k n s = true → q = (i : Int) + (K : Int) → i + K ≤ N → partL nul k n s = lof K (fun j => turned d F (i + j)) →
      partOk c t = true ∧ fitsP t nul k n s = true ∧ ∃ i' : Nat, (i : Int) = (i' : Int) ∧ q = (i' : Int) + ((putPL c t nul d k n s).length : Int) ∧ i' + (putPL c t nul d k n s).length ≤ N ∧ putPL c t nul d k n s = lof (putPL c t nul d k n s).length (fun j => F (i' + j)) := by
    intro K hf hq hi hL
    have e : putPL c t nul d k n s = lof K (fun j => F (i + j)) := by
      unfold putPL
      rw [hp, hf, hL]
      exact turnL_lof d K F i
    rw [e, lof_len]
    exact ⟨hp, hf, i, rfl, hq, hi, rfl⟩
  unfold getN at h
  cases nul with
  | false =>
    simp only [Bool.false_eq_true, if_false] at h
    obtain ⟨h2, hok, -⟩ := chk_ok h rfl
    rw [h2] at hok
    obtain ⟨rfl, i', hi', hq, hle, hL⟩ := rawT_read hbt ht h2 hok
    obtain rfl : i = i' := by omega
    have hf : fitsP k false k n s = true := by unfold fitsP; rw [hok]; simp; omega
    refine key _ hf hq hle ?_
    have : partL false k n s = valL k n s := by unfold partL; rw [if_neg (by omega)]; rfl
    rw [this]
    exact hL
  | true =>
    simp only [if_true, Int.toNat_natCast] at h
    by_cases h3 : (i : Int) = N ∨ 1 < turned d F i
    · rw [if_pos h3] at h
      exact absurd (congrArg Got.ok h) (fun e => by cases e)
    rw [if_neg h3] at h
    have hin : i < N := by omega
    have hbi := hbt i hin
    by_cases h4 : turned d F i = 0
    · rw [if_pos h4] at h
      simp only [Got.mk.injEq, and_true] at h
      obtain ⟨rfl, rfl, rfl, rfl⟩ := h
      have h0 : okF 0 0 noBytes = true := by simp [okF, ofFields, V.rng, V.k, V.n, V.s]
      refine key 1 (by unfold fitsP; rw [h0]; simp) rfl (by omega) ?_
      show [0] = [turned d F (i + 0)]
      rw [Nat.add_zero, h4]
    · rw [if_neg h4] at h
      have h5 : turned d F i = 1 := by omega
      obtain ⟨h2, hok, -⟩ := chk_ok h rfl
      rw [h2] at hok
      obtain ⟨rfl, i', hi', hq, hle, hL⟩ := rawT_read hbt ht h2 hok
      obtain rfl : i' = i + 1 := by omega
      have hf : fitsP k true k n s = true := by unfold fitsP; rw [hok]; simp
      refine key (1 + (valL k n s).length) hf (by omega) (by omega) ?_
      have : partL true k n s = 1 :: valL k n s := by unfold partL; rw [if_neg (by omega)]; rfl
      rw [this, lof_cons, Nat.add_zero, h5]
      congr 1
      rw [hL, lof_len]
      unfold lof
      apply List.map_congr_left
      intro j _
      rw [show i + (j + 1) = i + 1 + j by omega]
end Go.Proofs.Ytbcgonfihdpjnac

/-
  The program's values within: what each function answers of each kind.
-/
namespace Go.Proofs.Ytbcgonfihdpjnac
open Go.RowKit
set_option maxRecDepth 4000

/-- A value within, as the machine holds it. -/
def V.enc : V → Value
  | .null => .iface 92 (.agg #[])
  | .int n => .iface 93 (.int .i64 n)
  | .num n => .iface 94 (.int .i64 n)
  | .text s => .iface 95 (.string s)
  | .bool b => .iface 96 (.bool b)

theorem as_null_null (W : World) : (Instr.typeAssert (.iface 92 (.agg #[])) 79 92 true).run Try.prog W = .ok (.tuple #[.agg #[], .bool true]) W := by kernel_rfl
theorem as_null_int (W : World) : (Instr.typeAssert (.iface 92 (.agg #[])) 79 93 true).run Try.prog W = .ok (.tuple #[.int .i64 0, .bool false]) W := by kernel_rfl
theorem as_null_num (W : World) : (Instr.typeAssert (.iface 92 (.agg #[])) 79 94 true).run Try.prog W = .ok (.tuple #[.int .i64 0, .bool false]) W := by kernel_rfl
theorem as_null_text (W : World) : (Instr.typeAssert (.iface 92 (.agg #[])) 79 95 true).run Try.prog W = .ok (.tuple #[.string ⟨#[]⟩, .bool false]) W := by kernel_rfl
theorem as_null_bool (W : World) : (Instr.typeAssert (.iface 92 (.agg #[])) 79 96 true).run Try.prog W = .ok (.tuple #[.bool false, .bool false]) W := by kernel_rfl
theorem as_int_null (n : Int) (W : World) : (Instr.typeAssert (.iface 93 (.int .i64 n)) 79 92 true).run Try.prog W = .ok (.tuple #[.agg #[], .bool false]) W := by kernel_rfl
theorem as_int_int (n : Int) (W : World) : (Instr.typeAssert (.iface 93 (.int .i64 n)) 79 93 true).run Try.prog W = .ok (.tuple #[.int .i64 n, .bool true]) W := by kernel_rfl
theorem as_int_num (n : Int) (W : World) : (Instr.typeAssert (.iface 93 (.int .i64 n)) 79 94 true).run Try.prog W = .ok (.tuple #[.int .i64 0, .bool false]) W := by kernel_rfl
theorem as_int_text (n : Int) (W : World) : (Instr.typeAssert (.iface 93 (.int .i64 n)) 79 95 true).run Try.prog W = .ok (.tuple #[.string ⟨#[]⟩, .bool false]) W := by kernel_rfl
theorem as_int_bool (n : Int) (W : World) : (Instr.typeAssert (.iface 93 (.int .i64 n)) 79 96 true).run Try.prog W = .ok (.tuple #[.bool false, .bool false]) W := by kernel_rfl
theorem as_num_null (n : Int) (W : World) : (Instr.typeAssert (.iface 94 (.int .i64 n)) 79 92 true).run Try.prog W = .ok (.tuple #[.agg #[], .bool false]) W := by kernel_rfl
theorem as_num_int (n : Int) (W : World) : (Instr.typeAssert (.iface 94 (.int .i64 n)) 79 93 true).run Try.prog W = .ok (.tuple #[.int .i64 0, .bool false]) W := by kernel_rfl
theorem as_num_num (n : Int) (W : World) : (Instr.typeAssert (.iface 94 (.int .i64 n)) 79 94 true).run Try.prog W = .ok (.tuple #[.int .i64 n, .bool true]) W := by kernel_rfl
theorem as_num_text (n : Int) (W : World) : (Instr.typeAssert (.iface 94 (.int .i64 n)) 79 95 true).run Try.prog W = .ok (.tuple #[.string ⟨#[]⟩, .bool false]) W := by kernel_rfl
theorem as_num_bool (n : Int) (W : World) : (Instr.typeAssert (.iface 94 (.int .i64 n)) 79 96 true).run Try.prog W = .ok (.tuple #[.bool false, .bool false]) W := by kernel_rfl
theorem as_text_null (s : ByteArray) (W : World) : (Instr.typeAssert (.iface 95 (.string s)) 79 92 true).run Try.prog W = .ok (.tuple #[.agg #[], .bool false]) W := by kernel_rfl
theorem as_text_int (s : ByteArray) (W : World) : (Instr.typeAssert (.iface 95 (.string s)) 79 93 true).run Try.prog W = .ok (.tuple #[.int .i64 0, .bool false]) W := by kernel_rfl
theorem as_text_num (s : ByteArray) (W : World) : (Instr.typeAssert (.iface 95 (.string s)) 79 94 true).run Try.prog W = .ok (.tuple #[.int .i64 0, .bool false]) W := by kernel_rfl
theorem as_text_text (s : ByteArray) (W : World) : (Instr.typeAssert (.iface 95 (.string s)) 79 95 true).run Try.prog W = .ok (.tuple #[.string s, .bool true]) W := by kernel_rfl
theorem as_text_bool (s : ByteArray) (W : World) : (Instr.typeAssert (.iface 95 (.string s)) 79 96 true).run Try.prog W = .ok (.tuple #[.bool false, .bool false]) W := by kernel_rfl
theorem as_bool_null (b : Bool) (W : World) : (Instr.typeAssert (.iface 96 (.bool b)) 79 92 true).run Try.prog W = .ok (.tuple #[.agg #[], .bool false]) W := by kernel_rfl
theorem as_bool_int (b : Bool) (W : World) : (Instr.typeAssert (.iface 96 (.bool b)) 79 93 true).run Try.prog W = .ok (.tuple #[.int .i64 0, .bool false]) W := by kernel_rfl
theorem as_bool_num (b : Bool) (W : World) : (Instr.typeAssert (.iface 96 (.bool b)) 79 94 true).run Try.prog W = .ok (.tuple #[.int .i64 0, .bool false]) W := by kernel_rfl
theorem as_bool_text (b : Bool) (W : World) : (Instr.typeAssert (.iface 96 (.bool b)) 79 95 true).run Try.prog W = .ok (.tuple #[.string ⟨#[]⟩, .bool false]) W := by kernel_rfl
theorem as_bool_bool (b : Bool) (W : World) : (Instr.typeAssert (.iface 96 (.bool b)) 79 96 true).run Try.prog W = .ok (.tuple #[.bool b, .bool true]) W := by kernel_rfl

set_option maxHeartbeats 1000000 in
theorem inRange_any (v : V) (w : World) :
    Calls Try.prog 74 #[v.enc] w fun e w' => e = .returned (.bool v.rng) ∧ w' = w := by
  cases v with
  | null =>
    have q_int := as_null_int
    have q_num := as_null_num
    have q_text := as_null_text
    unfold V.enc
    go_enter Try.func74, Try.ntmps74
    go_wp2
    all_goals go_ret
    all_goals (refine ⟨?_, rfl⟩; first | rfl | (simp_all [V.rng] <;> omega))
  | int n =>
    have q_int := as_int_int n
    unfold V.enc
    go_enter Try.func74, Try.ntmps74
    go_wp2
    all_goals go_ret
    all_goals (refine ⟨?_, rfl⟩; first | rfl | (simp_all [V.rng] <;> omega))
  | num n =>
    have q_int := as_num_int n
    have q_num := as_num_num n
    unfold V.enc
    go_enter Try.func74, Try.ntmps74
    go_wp2
    all_goals go_ret
    all_goals (refine ⟨?_, rfl⟩; first | rfl | (simp_all [V.rng] <;> omega))
  | text s =>
    have q_int := as_text_int s
    have q_num := as_text_num s
    have q_text := as_text_text s
    unfold V.enc
    go_enter Try.func74, Try.ntmps74
    go_wp2
    all_goals go_ret
    all_goals (refine ⟨?_, rfl⟩; first | rfl | (simp_all [V.rng] <;> omega))
  | bool b =>
    have q_int := as_bool_int b
    have q_num := as_bool_num b
    have q_text := as_bool_text b
    unfold V.enc
    go_enter Try.func74, Try.ntmps74
    go_wp2
    all_goals go_ret
    all_goals (refine ⟨?_, rfl⟩; first | rfl | (simp_all [V.rng] <;> omega))

set_option maxHeartbeats 1000000 in
theorem valOf_any (v : V) (w : World) :
    Calls Try.prog 75 #[v.enc] w fun e w' => e = .returned (valAgg v.k v.n v.s) ∧ Below w.heap.size w w' := by
  cases v with
  | null =>
    have q_int := as_null_int
    have q_num := as_null_num
    have q_text := as_null_text
    have q_bool := as_null_bool
    have hm : ∀ W : World, (method 227 92 (.agg #[]) "loop.example/g00322/impl.kind").run Try.prog W = .ok (98, .agg #[]) W := fun _ => by kernel_rfl
    have hn : ∀ W : World, (nilAhead 227 92 (.agg #[]) "loop.example/g00322/impl.kind").run Try.prog W = .ok (some false) W := fun _ => by kernel_rfl
    unfold V.enc
    go_enter Try.func75, Try.ntmps75
    go_wp2
    all_goals refine bodyPost_ret (v := valAgg _ _ _) (by simp [results, Try.results75, go_sem, valAgg]; try exact ⟨rfl, rfl, rfl⟩) rfl ⟨rfl, ?_⟩
    all_goals repeat (first | exact Below.refl _ _ | refine Below.alloc ?_ (by simp <;> omega) _ | refine Below.drew ?_)
  | int n =>
    have q_int := as_int_int n
    have hm : ∀ W : World, (method 227 93 (.int .i64 n) "loop.example/g00322/impl.kind").run Try.prog W = .ok (99, .int .i64 n) W := fun _ => by kernel_rfl
    have hn : ∀ W : World, (nilAhead 227 93 (.int .i64 n) "loop.example/g00322/impl.kind").run Try.prog W = .ok (some false) W := fun _ => by kernel_rfl
    unfold V.enc
    go_enter Try.func75, Try.ntmps75
    go_wp2
    all_goals refine bodyPost_ret (v := valAgg _ _ _) (by simp [results, Try.results75, go_sem, valAgg]; try exact ⟨rfl, rfl, rfl⟩) rfl ⟨rfl, ?_⟩
    all_goals repeat (first | exact Below.refl _ _ | refine Below.alloc ?_ (by simp <;> omega) _ | refine Below.drew ?_)
  | num n =>
    have q_int := as_num_int n
    have q_num := as_num_num n
    have hm : ∀ W : World, (method 227 94 (.int .i64 n) "loop.example/g00322/impl.kind").run Try.prog W = .ok (100, .int .i64 n) W := fun _ => by kernel_rfl
    have hn : ∀ W : World, (nilAhead 227 94 (.int .i64 n) "loop.example/g00322/impl.kind").run Try.prog W = .ok (some false) W := fun _ => by kernel_rfl
    unfold V.enc
    go_enter Try.func75, Try.ntmps75
    go_wp2
    all_goals refine bodyPost_ret (v := valAgg _ _ _) (by simp [results, Try.results75, go_sem, valAgg]; try exact ⟨rfl, rfl, rfl⟩) rfl ⟨rfl, ?_⟩
    all_goals repeat (first | exact Below.refl _ _ | refine Below.alloc ?_ (by simp <;> omega) _ | refine Below.drew ?_)
  | text s =>
    have q_int := as_text_int s
    have q_num := as_text_num s
    have q_text := as_text_text s
    have hm : ∀ W : World, (method 227 95 (.string s) "loop.example/g00322/impl.kind").run Try.prog W = .ok (101, .string s) W := fun _ => by kernel_rfl
    have hn : ∀ W : World, (nilAhead 227 95 (.string s) "loop.example/g00322/impl.kind").run Try.prog W = .ok (some false) W := fun _ => by kernel_rfl
    unfold V.enc
    go_enter Try.func75, Try.ntmps75
    go_wp2
    all_goals refine bodyPost_ret (v := valAgg _ _ _) (by simp [results, Try.results75, go_sem, valAgg]; try exact ⟨rfl, rfl, rfl⟩) rfl ⟨rfl, ?_⟩
    all_goals repeat (first | exact Below.refl _ _ | refine Below.alloc ?_ (by simp <;> omega) _ | refine Below.drew ?_)
  | bool b =>
    have q_int := as_bool_int b
    have q_num := as_bool_num b
    have q_text := as_bool_text b
    have q_bool := as_bool_bool b
    have hm : ∀ W : World, (method 227 96 (.bool b) "loop.example/g00322/impl.kind").run Try.prog W = .ok (102, .bool b) W := fun _ => by kernel_rfl
    have hn : ∀ W : World, (nilAhead 227 96 (.bool b) "loop.example/g00322/impl.kind").run Try.prog W = .ok (some false) W := fun _ => by kernel_rfl
    unfold V.enc
    go_enter Try.func75, Try.ntmps75
    cases b <;> go_wp2
    all_goals refine bodyPost_ret (v := valAgg _ _ _) (by simp [results, Try.results75, go_sem, valAgg]; try exact ⟨rfl, rfl, rfl⟩) rfl ⟨rfl, ?_⟩
    all_goals repeat (first | exact Below.refl _ _ | refine Below.alloc ?_ (by simp <;> omega) _ | refine Below.drew ?_)

end Go.Proofs.Ytbcgonfihdpjnac

/-
  What the program holds of three fields: the value within, and whether it is sound.
-/
namespace Go.Proofs.Ytbcgonfihdpjnac
open Go.RowKit
set_option maxRecDepth 4000

theorem okF_at {k n : Int} {s : ByteArray} {v : V} (h : ofFields k n s = some v) : okF k n s = (v.rng && eqV v.k v.n v.s k n s) := by
  unfold okF
  rw [h]
  rfl

theorem box_cells (w W' : World) (k n : Int) (s : ByteArray) (h : Below (w.heap.size + 1) (w.alloc (.cells #[.int .i64 k, .int .i64 n, .string s] 29)) W') : W'.cell? ⟨w.heap.size, 0, none⟩ = some (.int .i64 k) ∧ W'.cell? ⟨w.heap.size, 1, none⟩ = some (.int .i64 n) ∧ W'.cell? ⟨w.heap.size, 2, none⟩ = some (.string s) := by
  refine ⟨?_, ?_, ?_⟩
  all_goals (rw [h.cell (by simp)]; simp [go_sem])

set_option maxHeartbeats 2000000 in
theorem valueOf_bool_true (n : Int) (s : ByteArray) (hz : (n != 0) = true) (w : World) :
    Calls Try.prog 57 #[.agg #[.int .i64 4, .int .i64 n, .string s]] w fun e w' => e = .returned (.tuple #[V.enc (.bool true), .bool (eqV 4 1 ⟨#[]⟩ 4 n s)]) ∧ Below w.heap.size w w' := by
  have hO : ∀ W, Calls Try.prog 75 #[.iface 96 (.bool true)] W fun e w' => e = .returned (.agg #[.int .i64 4, .int .i64 1, .string ⟨#[]⟩]) ∧ Below W.heap.size W w' := fun W => valOf_any (.bool true) W
  have hbox := fun W' h => box_cells w W' 4 n s h
  have qe := eqVal_run 4 1 ⟨#[]⟩ 4 n s
  have hI : ∀ W, Calls Try.prog 74 #[.iface 96 (.bool true)] W fun e w' => e = .returned (.bool true) ∧ w' = W := fun W => inRange_any (.bool true) W
  go_enter Try.func57, Try.ntmps57
  go_wp2_with (fail)
  go_region_with (first | (go_at_call 74; refine (hI _).mono ?_; rintro e _ ⟨rfl, rfl⟩) | (go_at_call 75; refine (hO _).mono ?_; rintro e w2 ⟨rfl, hB⟩; obtain ⟨hb0, hb1, hb2⟩ := hbox _ (Below.trans (by repeat (first | exact Below.refl _ _ | refine Below.drew ?_)) (hB.mono (by simp)))))
  all_goals go_wp2
  all_goals go_ret2
  all_goals refine ⟨rfl, Below.trans (b := w.alloc _) ((Below.refl _ _).alloc (Nat.le_refl _) _) (Below.trans (by repeat (first | exact Below.refl _ _ | refine Below.drew ?_)) (hB.mono (by simp)))⟩

set_option maxHeartbeats 2000000 in
theorem valueOf_bool_false (s : ByteArray) (w : World) :
    Calls Try.prog 57 #[.agg #[.int .i64 4, .int .i64 0, .string s]] w fun e w' => e = .returned (.tuple #[V.enc (.bool false), .bool (eqV 4 0 ⟨#[]⟩ 4 0 s)]) ∧ Below w.heap.size w w' := by
  have hO : ∀ W, Calls Try.prog 75 #[.iface 96 (.bool false)] W fun e w' => e = .returned (.agg #[.int .i64 4, .int .i64 0, .string ⟨#[]⟩]) ∧ Below W.heap.size W w' := fun W => valOf_any (.bool false) W
  have hbox := fun W' h => box_cells w W' 4 0 s h
  have qe := eqVal_run 4 0 ⟨#[]⟩ 4 0 s
  have hI : ∀ W, Calls Try.prog 74 #[.iface 96 (.bool false)] W fun e w' => e = .returned (.bool true) ∧ w' = W := fun W => inRange_any (.bool false) W
  go_enter Try.func57, Try.ntmps57
  go_wp2_with (fail)
  go_region_with (first | (go_at_call 74; refine (hI _).mono ?_; rintro e _ ⟨rfl, rfl⟩) | (go_at_call 75; refine (hO _).mono ?_; rintro e w2 ⟨rfl, hB⟩; obtain ⟨hb0, hb1, hb2⟩ := hbox _ (Below.trans (by repeat (first | exact Below.refl _ _ | refine Below.drew ?_)) (hB.mono (by simp)))))
  all_goals go_wp2
  all_goals go_ret2
  all_goals refine ⟨rfl, Below.trans (b := w.alloc _) ((Below.refl _ _).alloc (Nat.le_refl _) _) (Below.trans (by repeat (first | exact Below.refl _ _ | refine Below.drew ?_)) (hB.mono (by simp)))⟩

set_option maxHeartbeats 2000000 in
theorem valueOf_null (n : Int) (s : ByteArray) (w : World) :
    Calls Try.prog 57 #[.agg #[.int .i64 0, .int .i64 n, .string s]] w fun e w' => e = .returned (.tuple #[V.enc .null, .bool (V.rng .null && eqV 0 0 ⟨#[]⟩ 0 n s)]) ∧ Below w.heap.size w w' := by
  have hO : ∀ W, Calls Try.prog 75 #[.iface 92 (.agg #[])] W fun e w' => e = .returned (.agg #[.int .i64 0, .int .i64 0, .string ⟨#[]⟩]) ∧ Below W.heap.size W w' := fun W => valOf_any .null W
  have hbox := fun W' h => box_cells w W' 0 n s h
  have qe := eqVal_run 0 0 ⟨#[]⟩ 0 n s
  have hI : ∀ W, Calls Try.prog 74 #[.iface 92 (.agg #[])] W fun e w' => e = .returned (.bool true) ∧ w' = W := fun W => by have := inRange_any .null W; exact this
  go_enter Try.func57, Try.ntmps57
  go_wp2_with (fail)
  go_region_with (first | (go_at_call 74; refine (hI _).mono ?_; rintro e _ ⟨rfl, rfl⟩) | (go_at_call 75; refine (hO _).mono ?_; rintro e w2 ⟨rfl, hB⟩; obtain ⟨hb0, hb1, hb2⟩ := hbox _ (Below.trans (by repeat (first | exact Below.refl _ _ | refine Below.drew ?_)) (hB.mono (by simp)))))
  all_goals go_wp2
  all_goals go_ret2
  all_goals refine ⟨rfl, Below.trans (b := w.alloc _) ((Below.refl _ _).alloc (Nat.le_refl _) _) (Below.trans (by repeat (first | exact Below.refl _ _ | refine Below.drew ?_)) (hB.mono (by simp)))⟩

set_option maxHeartbeats 2000000 in
theorem valueOf_int (n : Int) (s : ByteArray) (w : World) :
    Calls Try.prog 57 #[.agg #[.int .i64 1, .int .i64 n, .string s]] w fun e w' => e = .returned (.tuple #[V.enc (.int n), .bool (V.rng (.int n) && eqV 1 n ⟨#[]⟩ 1 n s)]) ∧ Below w.heap.size w w' := by
  have hO : ∀ W, Calls Try.prog 75 #[.iface 93 (.int .i64 n)] W fun e w' => e = .returned (.agg #[.int .i64 1, .int .i64 n, .string ⟨#[]⟩]) ∧ Below W.heap.size W w' := fun W => valOf_any (.int n) W
  have hbox := fun W' h => box_cells w W' 1 n s h
  have qe := eqVal_run 1 n ⟨#[]⟩ 1 n s
  cases hr : V.rng (.int n)
  case true =>
    have hI : ∀ W, Calls Try.prog 74 #[.iface 93 (.int .i64 n)] W fun e w' => e = .returned (.bool true) ∧ w' = W := fun W => by have := inRange_any (.int n) W; rw [hr] at this; exact this
    clear hr
    go_enter Try.func57, Try.ntmps57
    go_wp2_with (fail)
    go_region_with (first | (go_at_call 74; refine (hI _).mono ?_; rintro e _ ⟨rfl, rfl⟩) | (go_at_call 75; refine (hO _).mono ?_; rintro e w2 ⟨rfl, hB⟩; obtain ⟨hb0, hb1, hb2⟩ := hbox _ (Below.trans (by repeat (first | exact Below.refl _ _ | refine Below.drew ?_)) (hB.mono (by simp)))))
    all_goals go_wp2
    all_goals go_ret2
    all_goals refine ⟨rfl, Below.trans (b := w.alloc _) ((Below.refl _ _).alloc (Nat.le_refl _) _) (Below.trans (by repeat (first | exact Below.refl _ _ | refine Below.drew ?_)) (hB.mono (by simp)))⟩
  case false =>
    have hI : ∀ W, Calls Try.prog 74 #[.iface 93 (.int .i64 n)] W fun e w' => e = .returned (.bool false) ∧ w' = W := fun W => by have := inRange_any (.int n) W; rw [hr] at this; exact this
    clear hr
    go_enter Try.func57, Try.ntmps57
    go_wp2_with (fail)
    go_quiet (first | (go_at_call 74; exact Calls.quiet_of_same (hI _)))
    all_goals go_wp2
    all_goals go_ret2
    all_goals refine ⟨rfl, ?_⟩
    exact Below.trans ((Below.refl _ _).alloc (Nat.le_refl _) _) ⟨rfl, rfl, rfl, Nat.le_refl _, fun _ _ => rfl⟩

set_option maxHeartbeats 2000000 in
theorem valueOf_num (n : Int) (s : ByteArray) (w : World) :
    Calls Try.prog 57 #[.agg #[.int .i64 2, .int .i64 n, .string s]] w fun e w' => e = .returned (.tuple #[V.enc (.num n), .bool (V.rng (.num n) && eqV 2 n ⟨#[]⟩ 2 n s)]) ∧ Below w.heap.size w w' := by
  have hO : ∀ W, Calls Try.prog 75 #[.iface 94 (.int .i64 n)] W fun e w' => e = .returned (.agg #[.int .i64 2, .int .i64 n, .string ⟨#[]⟩]) ∧ Below W.heap.size W w' := fun W => valOf_any (.num n) W
  have hbox := fun W' h => box_cells w W' 2 n s h
  have qe := eqVal_run 2 n ⟨#[]⟩ 2 n s
  cases hr : V.rng (.num n)
  case true =>
    have hI : ∀ W, Calls Try.prog 74 #[.iface 94 (.int .i64 n)] W fun e w' => e = .returned (.bool true) ∧ w' = W := fun W => by have := inRange_any (.num n) W; rw [hr] at this; exact this
    clear hr
    go_enter Try.func57, Try.ntmps57
    go_wp2_with (fail)
    go_region_with (first | (go_at_call 74; refine (hI _).mono ?_; rintro e _ ⟨rfl, rfl⟩) | (go_at_call 75; refine (hO _).mono ?_; rintro e w2 ⟨rfl, hB⟩; obtain ⟨hb0, hb1, hb2⟩ := hbox _ (Below.trans (by repeat (first | exact Below.refl _ _ | refine Below.drew ?_)) (hB.mono (by simp)))))
    all_goals go_wp2
    all_goals go_ret2
    all_goals refine ⟨rfl, Below.trans (b := w.alloc _) ((Below.refl _ _).alloc (Nat.le_refl _) _) (Below.trans (by repeat (first | exact Below.refl _ _ | refine Below.drew ?_)) (hB.mono (by simp)))⟩
  case false =>
    have hI : ∀ W, Calls Try.prog 74 #[.iface 94 (.int .i64 n)] W fun e w' => e = .returned (.bool false) ∧ w' = W := fun W => by have := inRange_any (.num n) W; rw [hr] at this; exact this
    clear hr
    go_enter Try.func57, Try.ntmps57
    go_wp2_with (fail)
    go_quiet (first | (go_at_call 74; exact Calls.quiet_of_same (hI _)))
    all_goals go_wp2
    all_goals go_ret2
    all_goals refine ⟨rfl, ?_⟩
    exact Below.trans ((Below.refl _ _).alloc (Nat.le_refl _) _) ⟨rfl, rfl, rfl, Nat.le_refl _, fun _ _ => rfl⟩

set_option maxHeartbeats 2000000 in
theorem valueOf_text (n : Int) (s : ByteArray) (w : World) :
    Calls Try.prog 57 #[.agg #[.int .i64 3, .int .i64 n, .string s]] w fun e w' => e = .returned (.tuple #[V.enc (.text s), .bool (V.rng (.text s) && eqV 3 0 s 3 n s)]) ∧ Below w.heap.size w w' := by
  have hO : ∀ W, Calls Try.prog 75 #[.iface 95 (.string s)] W fun e w' => e = .returned (.agg #[.int .i64 3, .int .i64 0, .string s]) ∧ Below W.heap.size W w' := fun W => valOf_any (.text s) W
  have hbox := fun W' h => box_cells w W' 3 n s h
  have qe := eqVal_run 3 0 s 3 n s
  cases hr : V.rng (.text s)
  case true =>
    have hI : ∀ W, Calls Try.prog 74 #[.iface 95 (.string s)] W fun e w' => e = .returned (.bool true) ∧ w' = W := fun W => by have := inRange_any (.text s) W; rw [hr] at this; exact this
    clear hr
    go_enter Try.func57, Try.ntmps57
    go_wp2_with (fail)
    go_region_with (first | (go_at_call 74; refine (hI _).mono ?_; rintro e _ ⟨rfl, rfl⟩) | (go_at_call 75; refine (hO _).mono ?_; rintro e w2 ⟨rfl, hB⟩; obtain ⟨hb0, hb1, hb2⟩ := hbox _ (Below.trans (by repeat (first | exact Below.refl _ _ | refine Below.drew ?_)) (hB.mono (by simp)))))
    all_goals go_wp2
    all_goals go_ret2
    all_goals refine ⟨rfl, Below.trans (b := w.alloc _) ((Below.refl _ _).alloc (Nat.le_refl _) _) (Below.trans (by repeat (first | exact Below.refl _ _ | refine Below.drew ?_)) (hB.mono (by simp)))⟩
  case false =>
    have hI : ∀ W, Calls Try.prog 74 #[.iface 95 (.string s)] W fun e w' => e = .returned (.bool false) ∧ w' = W := fun W => by have := inRange_any (.text s) W; rw [hr] at this; exact this
    clear hr
    go_enter Try.func57, Try.ntmps57
    go_wp2_with (fail)
    go_quiet (first | (go_at_call 74; exact Calls.quiet_of_same (hI _)))
    all_goals go_wp2
    all_goals go_ret2
    all_goals refine ⟨rfl, ?_⟩
    exact Below.trans ((Below.refl _ _).alloc (Nat.le_refl _) _) ⟨rfl, rfl, rfl, Nat.le_refl _, fun _ _ => rfl⟩

def vOpt : Option V → Value
  | none => .nilIface
  | some v => v.enc

set_option maxHeartbeats 2000000 in
theorem valueOf_any (k n : Int) (s : ByteArray) (w : World) :
    Calls Try.prog 57 #[valAgg k n s] w fun e w' => e = .returned (.tuple #[vOpt (ofFields k n s), .bool (okF k n s)]) ∧ Below w.heap.size w w' := by
  unfold valAgg
  by_cases k0 : k = 0
  · subst k0
    have e : ofFields 0 n s = some .null := rfl
    rw [okF_at e, e]
    exact valueOf_null n s w
  by_cases k1 : k = 1
  · subst k1
    have e : ofFields 1 n s = some (.int n) := rfl
    rw [okF_at e, e]
    exact valueOf_int n s w
  by_cases k2 : k = 2
  · subst k2
    have e : ofFields 2 n s = some (.num n) := rfl
    rw [okF_at e, e]
    exact valueOf_num n s w
  by_cases k3 : k = 3
  · subst k3
    have e : ofFields 3 n s = some (.text s) := rfl
    rw [okF_at e, e]
    exact valueOf_text n s w
  by_cases k4 : k = 4
  · subst k4
    have e : ofFields 4 n s = some (.bool (n != 0)) := rfl
    rw [okF_at e, e]
    by_cases hz : n = 0
    · subst hz
      exact valueOf_bool_false s w
    · have hz : (n != 0) = true := by simpa using hz
      rw [hz]
      exact valueOf_bool_true n s hz w
  have e : ofFields k n s = none := by simp [ofFields, k0, k1, k2, k3, k4]
  have e2 : okF k n s = false := by unfold okF; rw [e]
  rw [e2, e]
  have q0 : (k == 0) = false := by simpa using k0
  have q1 : (k == 1) = false := by simpa using k1
  have q2 : (k == 2) = false := by simpa using k2
  have q3 : (k == 3) = false := by simpa using k3
  have q4 : (k == 4) = false := by simpa using k4
  clear e e2 k0 k1 k2 k3 k4
  go_enter Try.func57, Try.ntmps57
  go_wp2
  go_ret2
  refine ⟨rfl, ?_⟩
  repeat (first | exact Below.refl _ _ | refine Below.alloc ?_ (by simp <;> omega) _ | refine Below.drew ?_)
end Go.Proofs.Ytbcgonfihdpjnac

/-
  The program's ValOk comes to the plain one.
-/
namespace Go.Proofs.Ytbcgonfihdpjnac
open Go.RowKit
set_option maxRecDepth 4000

set_option maxHeartbeats 1000000 in
theorem valOk_any (k n : Int) (s : ByteArray) (w : World) :
    Calls Try.prog 30 #[.agg #[.int .i64 k, .int .i64 n, .string s]] w fun e w' => e = .returned (.bool (okF k n s)) ∧ Below w.heap.size w w' := by
  go_enter Try.func30, Try.ntmps30
  go_wp2_with fail
  refine (valueOf_any k n s _).mono ?_
  rintro e w1 ⟨rfl, hB⟩
  go_wp2
  go_ret
  exact ⟨rfl, ((Below.refl _ _).alloc (Nat.le_refl _) _).trans (hB.mono (by simp))⟩

end Go.Proofs.Ytbcgonfihdpjnac

/-
  The program's PartOk and Fits. (Nothing fits a part of no type, even where it may not be nothing: as the program has it.)
-/
namespace Go.Proofs.Ytbcgonfihdpjnac
open Go.RowKit
set_option maxRecDepth 4000

set_option maxHeartbeats 1000000 in
theorem implPartOk_any (c t : Int) (nul d : Bool) (w : World) :
    Calls Try.prog 20 #[.agg #[.int .i64 c, .int .i64 t, .bool nul, .bool d]] w fun e w' => e = .returned (.bool (partOk c t)) ∧ Below w.heap.size w w' := by
  have hb0 : ∀ o, Below w.heap.size w (w.alloc o) := fun o => (Below.refl _ _).alloc (Nat.le_refl _) _
  by_cases h1 : 0 ≤ c
  · by_cases h2 : c ≤ 9
    · by_cases h3 : 1 ≤ t
      · by_cases h4 : t ≤ 4
        · have e : partOk c t = true := by unfold partOk; simp [h1, h2, h3, h4]
          rw [e]
          go_enter Try.func20, Try.ntmps20
          go_wp2
          go_ret
          exact ⟨rfl, hb0 _⟩
        · have e : partOk c t = false := by unfold partOk; simp [h1, h2, h3, h4]
          rw [e]
          go_enter Try.func20, Try.ntmps20
          go_wp2
          go_ret
          exact ⟨rfl, hb0 _⟩
      · have e : partOk c t = false := by unfold partOk; simp [h1, h2, h3]
        rw [e]
        go_enter Try.func20, Try.ntmps20
        go_wp2
        go_ret
        exact ⟨rfl, hb0 _⟩
    · have e : partOk c t = false := by unfold partOk; simp [h1, h2]
      rw [e]
      go_enter Try.func20, Try.ntmps20
      go_wp2
      go_ret
      exact ⟨rfl, hb0 _⟩
  · have e : partOk c t = false := by unfold partOk; simp [h1]
    rw [e]
    go_enter Try.func20, Try.ntmps20
    go_wp2
    go_ret
    exact ⟨rfl, hb0 _⟩

/-- What fits, as the program has it. -/
def fitsI (t : Int) (nul : Bool) (k n : Int) (s : ByteArray) : Bool := okF k n s && (decide (k = t) || (decide (k = 0) && nul))
theorem fitsI_ok {t : Int} {nul : Bool} {k n : Int} {s : ByteArray} (ht : 1 ≤ t) : fitsI t nul k n s = fitsP t nul k n s := by
  unfold fitsI fitsP
  by_cases hk : k = t
  · simp [hk, show t ≠ 0 by omega]
  · simp [hk]

set_option maxHeartbeats 1000000 in
theorem implFits_any (c t : Int) (nul d : Bool) (k n : Int) (s : ByteArray) (w : World) :
    Calls Try.prog 11 #[.agg #[.int .i64 c, .int .i64 t, .bool nul, .bool d], .agg #[.int .i64 k, .int .i64 n, .string s]] w fun e w' => e = .returned (.bool (fitsI t nul k n s)) ∧ Below w.heap.size w w' := by
  have hP := (PBox.new w c t nul d).below ((Below.refl _ _).alloc (Nat.le_refl _) (.cells #[.int .i64 k, .int .i64 n, .string s] 29))
  have hV := Box.new (w.alloc (.cells #[.int .i64 c, .int .i64 t, .bool nul, .bool d] 25)) k n s
  rw [show (w.alloc (.cells #[.int .i64 c, .int .i64 t, .bool nul, .bool d] 25)).heap.size = w.heap.size + 1 by simp] at hV
  have hb0 : Below w.heap.size w ((w.alloc (.cells #[.int .i64 c, .int .i64 t, .bool nul, .bool d] 25)).alloc (.cells #[.int .i64 k, .int .i64 n, .string s] 29)) := ((Below.refl _ _).alloc (Nat.le_refl _) _).alloc (by simp) _
  cases ho : okF k n s with
  | false =>
    have hr : fitsI t nul k n s = false := by unfold fitsI; rw [ho]; rfl
    rw [hr]
    clear hr
    go_enter Try.func11, Try.ntmps11
    go_wp2_with fail
    refine (valOk_any k n s _).mono ?_
    rw [ho]
    rintro e w1 ⟨rfl, hb1⟩
    have hB : Below w.heap.size w w1 := hb0.trans (hb1.mono hb0.size)
    clear hP hV hb0 hb1 ho
    go_wp2
    go_ret
    exact ⟨rfl, hB⟩
  | true =>
    by_cases kt : k = t
    · subst kt
      have hr : fitsI k nul k n s = true := by unfold fitsI; rw [ho]; simp
      rw [hr]
      have q4 : (k == k) = true := by simp
      clear hr
      go_enter Try.func11, Try.ntmps11
      go_wp2_with fail
      refine (valOk_any k n s _).mono ?_
      rw [ho]
      rintro e w1 ⟨rfl, hb1⟩
      obtain ⟨p0, p1, p2, p3⟩ := (hP.below hb1).cells
      obtain ⟨v0, v1, v2⟩ := (hV.below hb1).cells
      have hB : Below w.heap.size w w1 := hb0.trans (hb1.mono hb0.size)
      clear hP hV hb0 hb1 ho
      go_wp2
      go_ret
      exact ⟨rfl, hB⟩
    · have q4 : (k == t) = false := by simpa using kt
      by_cases k0 : k = 0
      · have hr : fitsI t nul k n s = nul := by unfold fitsI; rw [ho]; simp [k0, show ¬ (0 : Int) = t by omega]
        rw [hr]
        have q2 : (k == 0) = true := by simpa using k0
        clear hr k0 kt
        go_enter Try.func11, Try.ntmps11
        go_wp2_with fail
        refine (valOk_any k n s _).mono ?_
        rw [ho]
        rintro e w1 ⟨rfl, hb1⟩
        obtain ⟨p0, p1, p2, p3⟩ := (hP.below hb1).cells
        obtain ⟨v0, v1, v2⟩ := (hV.below hb1).cells
        have hB : Below w.heap.size w w1 := hb0.trans (hb1.mono hb0.size)
        clear hP hV hb0 hb1 ho
        go_wp2
        go_ret
        exact ⟨rfl, hB⟩
      · have hr : fitsI t nul k n s = false := by unfold fitsI; rw [ho]; simp [kt, k0]
        rw [hr]
        have q2 : (k == 0) = false := by simpa using k0
        clear hr k0 kt
        go_enter Try.func11, Try.ntmps11
        go_wp2_with fail
        refine (valOk_any k n s _).mono ?_
        rw [ho]
        rintro e w1 ⟨rfl, hb1⟩
        obtain ⟨p0, p1, p2, p3⟩ := (hP.below hb1).cells
        obtain ⟨v0, v1, v2⟩ := (hV.below hb1).cells
        have hB : Below w.heap.size w w1 := hb0.trans (hb1.mono hb0.size)
        clear hP hV hb0 hb1 ho
        go_wp2
        go_ret
        exact ⟨rfl, hB⟩
end Go.Proofs.Ytbcgonfihdpjnac

