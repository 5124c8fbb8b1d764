/-
  Together: NumRead, Parts, GetFixWalks, PartPlain, KeyPlain, AllUpto, PView, ValEq, Boxed, VView, ValOkSpec, PutBytes, FlipWalks
-/
import Derived.Test.YtclegljalndaearPack1
import Derived.Laws.StructEq
import Derived.WalkSpells
/-
  The program's numberOf and the model's l4Read: bytes as a number, the highest first.
-/
namespace Go.Proofs.Ytclegljalndaear
open Go.RowKit
set_option maxRecDepth 4000

theorem or_low (x y : Int) (h0 : 0 ≤ x) (h1 : x < 36028797018963968) (h2 : 0 ≤ y) (h3 : y ≤ 255) : bits .or .i64 (x * 256) y = x * 256 + y := by
  have e : bits .or .i64 (x * 256) y = bits .or .i64 y (x * 256) := by
    show IntKind.i64.wrap ((BitVec.ofInt 64 (x * 256) ||| BitVec.ofInt 64 y).toNat : Nat) = IntKind.i64.wrap ((BitVec.ofInt 64 y ||| BitVec.ofInt 64 (x * 256)).toNat : Nat)
    rw [BitVec.or_comm]
  rw [e, i64_or_add 8 y (x * 256) h2 (by show _ < (256 : Int); omega) (by omega) (by show _ % (256 : Int) = 0; omega) (by omega) (by decide)]
  omega

theorem valF_step (k : Nat) (f : Nat → Int) : valF (k + 1) f = valF k f * 256 + f k := rfl
/-- As many bytes as there may be are a number that an int has. -/
theorem valF_lim (k : Nat) (f : Nat → Int) (hk : k ≤ 6) (h : ∀ i, i < k → 0 ≤ f i ∧ f i ≤ 255) : 0 ≤ valF k f ∧ valF k f < 281474976710656 := by
  have h1 := valF_bd k f h
  have h2 : (256 : Int) ^ k ≤ 256 ^ 6 := pow_mono hk
  have e : (256 : Int) ^ 6 = 281474976710656 := by decide
  omega

set_option maxHeartbeats 1000000 in
theorem numberOf_any (ao : Option Addr) (k c : Nat) (f : Nat → Int) (w : World) (hv : View w ao k c f) (hk : k ≤ 7) :
    Calls Try.prog 106 #[.slice ao k c] w fun e w' => e = .returned (.int .i64 (valF k f)) ∧ w = w' := by
  go_enter Try.func106, Try.ntmps106
  go_wp2
  go_loopg [3, 8] k (fun q s i wr => w = wr ∧ ∃ j : Nat, j ≤ k ∧ q = k - j ∧ s = .int .i64 (valF j f) ∧ i = .int .i64 j)
  case atStart => exact ⟨rfl, 0, Nat.zero_le _, rfl, rfl, rfl⟩
  case round =>
    obtain ⟨rfl, j, hj, rfl, rfl, rfl⟩ := hrel
    by_cases hlt : j < k
    · have hb := hv.byte j hlt
      obtain ⟨b, off, rfl, hbl, hc⟩ := hv.cells (by omega)
      have hcj := hc j hlt
      have hl := valF_lim j f (by omega) (fun i hi => hv.byte i (by omega))
      have HE : Hid (valF (j + 1) f = valF j f * 256 + f j) := rfl
      have hq := or_low (valF j f) (f j) hl.1 (by omega) hb.1 hb.2
      have hjz : (j : Int) < (k : Int) := by omega
      clear hc hv
      generalize valF j f = x at *
      go_wp2
      go_roundg (k - (j + 1))
      case measure => omega
      case rel => exact ⟨rfl, j + 1, by omega, rfl, by rw [HE.out], by go_num⟩
    · obtain rfl : j = k := by omega
      clear hv
      go_wp2
      go_ret
      exact ⟨rfl, rfl⟩

set_option maxHeartbeats 1000000 in
theorem l4Read_any (ao : Option Addr) (n c : Nat) (f : Nat → Int) (p k : Nat) (t : Bool) (w : World) (hv : View w ao n c f) (hn : n ≤ 281474976710656) (hk : k ≤ 7) (hp : p + k ≤ n) :
    Calls Try.prog 101 #[.slice ao n c, .int .i64 (p : Int), .int .i64 (k : Int), .bool t] w fun e w' => e = .returned (.tuple #[.int .i64 (valF k (turnF t (fun i => f (p + i)))), .bool true]) ∧ w = w' := by
  have hpz : (p : Int) + (k : Int) ≤ (n : Int) := by omega
  have q1 : decide ((p : Int) < 0) = false := by simp
  have q2 : decide (n < p) = false := by simp; omega
  have q3 : decide ((n : Int) - (p : Int) < (k : Int)) = false := by simp; omega
  go_enter Try.func101, Try.ntmps101
  go_wp2
  go_loopg [10, 11] k (fun q s i wr => w = wr ∧ ∃ j : Nat, j ≤ k ∧ q = k - j ∧ s = .int .i64 (valF j (turnF t (fun i => f (p + i)))) ∧ i = .int .i64 j)
  case atStart => exact ⟨rfl, 0, Nat.zero_le _, rfl, rfl, rfl⟩
  case round =>
    obtain ⟨rfl, j, hj, rfl, rfl, rfl⟩ := hrel
    by_cases hlt : j < k
    · have hb := hv.byte (p + j) (by omega)
      obtain ⟨b, off, rfl, hbl, hc⟩ := hv.cells (by omega)
      have hcj := hc (p + j) (by omega)
      have hl := valF_lim j (turnF t (fun i => f (p + i))) (by omega) (turnF_bd t (fun i hi => hv.byte (p + i) (by omega)))
      have hjz : (j : Int) < (k : Int) := by omega
      have HE : Hid (valF (j + 1) (turnF t (fun i => f (p + i))) = valF j (turnF t (fun i => f (p + i))) * 256 + turnF t (fun i => f (p + i)) j) := rfl
      clear hc hv
      cases t
      · have hq := or_low (valF j (turnF false (fun i => f (p + i)))) (f (p + j)) hl.1 (by omega) hb.1 hb.2
        have HT : Hid (turnF false (fun i => f (p + i)) j = f (p + j)) := rfl
        rw [HT.out] at HE
        generalize valF j (turnF false (fun i => f (p + i))) = x at *
        go_wp2
        go_roundg (k - (j + 1))
        case measure => omega
        case rel => exact ⟨rfl, j + 1, by omega, rfl, by rw [HE.out], by go_num⟩
      · have hx : bits .xor .u8 IntKind.u8.max (f (p + j)) = 255 - f (p + j) := u8_not _ hb.1 hb.2
        have HT : Hid (turnF true (fun i => f (p + i)) j = 255 - f (p + j)) := rfl
        have hyb : 0 ≤ 255 - f (p + j) ∧ 255 - f (p + j) ≤ 255 := by omega
        rw [HT.out] at HE
        generalize 255 - f (p + j) = y at *
        obtain ⟨hy0, hy1⟩ := hyb
        have hq := or_low (valF j (turnF true (fun i => f (p + i)))) y hl.1 (by omega) hy0 hy1
        generalize valF j (turnF true (fun i => f (p + i))) = x at *
        go_wp2
        go_roundg (k - (j + 1))
        case measure => omega
        case rel => exact ⟨rfl, j + 1, by omega, rfl, by rw [HE.out, show wrap64 y = y by unfold wrap64; omega, hq], by go_num⟩
    · obtain rfl : j = k := by omega
      clear hv
      go_wp2
      go_ret2
      exact ⟨rfl, rfl⟩

set_option maxHeartbeats 1000000 in
theorem l4Read_no (ao : Option Addr) (n c : Nat) (p k : Int) (t : Bool) (w : World) (hp1 : p ≤ 9223372036854775807) (hk : 0 ≤ k) (hk7 : k ≤ 7) (hp : p < 0 ∨ (n : Int) - p < k) :
    Calls Try.prog 101 #[.slice ao n c, .int .i64 p, .int .i64 k, .bool t] w fun e w' => e = .returned (.tuple #[.int .i64 0, .bool false]) ∧ w = w' := by
  go_enter Try.func101, Try.ntmps101
  by_cases h1 : p < 0
  · clear hp
    go_wp2
    go_ret2
    exact ⟨rfl, rfl⟩
  · have h2 : (n : Int) - p < k := by omega
    clear hp
    by_cases h3 : (n : Int) < p
    · go_wp2
      go_ret2
      exact ⟨rfl, rfl⟩
    · go_wp2
      go_ret2
      exact ⟨rfl, rfl⟩
end Go.Proofs.Ytclegljalndaear

/-
  A part of a slice of bytes that reads.
-/
namespace Go.Proofs.Ytclegljalndaear
open Go.RowKit
set_option maxRecDepth 4000

theorem View.part {w : World} {b off n cap m k : Nat} {f : Nat → Int} (h : View w (some ⟨b, off, none⟩) n cap f) (hm : k + m ≤ n) (c : Nat) (hc : m ≤ c) : View w (some ⟨b, off + k, none⟩) m c (fun i => f (k + i)) := by
  refine ⟨hc, fun i hi => h.byte (k + i) (by omega), fun h0 => ?_⟩
  obtain ⟨b', off', e, hb, hcl⟩ := h.cells (by omega)
  simp only [Option.some.injEq, Addr.mk.injEq, and_true] at e
  obtain ⟨rfl, rfl⟩ := e
  exact ⟨b, off + k, rfl, hb, fun i hi => by have := hcl (k + i) (by omega); rw [← Nat.add_assoc] at this; exact this⟩
end Go.Proofs.Ytclegljalndaear

/-
  GetFix, the program's and the model's: four bytes as a number, at every slice of bytes that reads and at every place.
-/
namespace Go.Proofs.Ytclegljalndaear
open Go.RowKit
set_option maxRecDepth 4000

def getF (n : Nat) (f : Nat → Int) (p : Int) : Int × Int × Bool := if p < 0 ∨ (n : Int) - p < 4 then (0, 0, false) else (valF 4 (fun i => f (p.toNat + i)) - 2147483648, p + 4, true)
theorem getF_no (n : Nat) (f : Nat → Int) (p : Int) (h : p < 0 ∨ (n : Int) - p < 4) : getF n f p = (0, 0, false) := by unfold getF; rw [if_pos h]
theorem getF_is (n : Nat) (f : Nat → Int) (p : Nat) (h : p + 4 ≤ n) : getF n f (p : Int) = (valF 4 (fun i => f (p + i)) - 2147483648, (p : Int) + 4, true) := by
  unfold getF; rw [if_neg (by omega), Int.toNat_natCast]
theorem valF4_bd (f : Nat → Int) (h : ∀ i, i < 4 → 0 ≤ f i ∧ f i ≤ 255) : 0 ≤ valF 4 f ∧ valF 4 f ≤ 4294967295 := by
  have h1 := valF_bd 4 f h
  have e : (256 : Int) ^ 4 = 4294967296 := by decide
  omega

set_option maxHeartbeats 1000000 in
theorem getFix_impl {a q : Int} {ok : Bool} (b off n cap : Nat) (f : Nat → Int) (p : Int) (w : World) (hg : Hid (getF n f p = (a, q, ok))) (hv : View w (some ⟨b, off, none⟩) n cap f) (hn : n ≤ 281474976710656) (hp1 : p ≤ 9223372036854775807) :
    Calls Try.prog 96 #[.slice (some ⟨b, off, none⟩) n cap, .int .i64 p] w fun e w' => e = .returned (.tuple #[.int .i64 a, .int .i64 q, .bool ok]) ∧ w = w' := by
  by_cases hp : p < 0
  · have e := hg.out
    rw [getF_no n f p (Or.inl hp)] at e
    obtain ⟨rfl, rfl, rfl⟩ : 0 = a ∧ 0 = q ∧ false = ok := by simpa using e
    clear hg e
    go_enter Try.func96, Try.ntmps96
    go_wp2
    go_ret3
    exact ⟨rfl, rfl⟩
  by_cases h4 : (n : Int) - p < 4
  · have e := hg.out
    rw [getF_no n f p (Or.inr h4)] at e
    obtain ⟨rfl, rfl, rfl⟩ : 0 = a ∧ 0 = q ∧ false = ok := by simpa using e
    clear hg e
    go_enter Try.func96, Try.ntmps96
    go_wp2
    go_ret3
    exact ⟨rfl, rfl⟩
  obtain ⟨i, rfl⟩ := Int.eq_ofNat_of_zero_le (Int.not_lt.1 hp)
  have e := hg.out
  rw [getF_is n f i (by omega)] at e
  simp only [Prod.mk.injEq] at e
  obtain ⟨ea, rfl, rfl⟩ := e
  have hle := hv.le
  have hV := hv.part (k := i) (m := 4) (by omega) 4 (by omega)
  have hbd := valF4_bd (fun j => f (i + j)) hV.byte
  have hz1 : (i : Int) + 4 ≤ (n : Int) := by omega
  have hz2 : (i : Int) + 4 ≤ (cap : Int) := by omega
  clear hg hv
  go_enter Try.func96, Try.ntmps96
  go_wp2_with fail
  refine (numberOf_any _ 4 4 _ w hV (by omega)).mono ?_
  rintro e _ ⟨rfl, rfl⟩
  clear hV
  generalize valF 4 (fun j => f (i + j)) = x at *
  subst ea
  go_wp2
  go_ret3
  exact ⟨rfl, rfl⟩

set_option maxHeartbeats 1000000 in
theorem getFix_spec {a q : Int} {ok : Bool} (b off n cap : Nat) (f : Nat → Int) (p : Int) (w : World) (hg : Hid (getF n f p = (a, q, ok))) (hv : View w (some ⟨b, off, none⟩) n cap f) (hn : n ≤ 281474976710656) (hp1 : p ≤ 9223372036854775807) :
    Calls Try.prog 84 #[.slice (some ⟨b, off, none⟩) n cap, .int .i64 p] w fun e w' => e = .returned (.tuple #[.int .i64 a, .int .i64 q, .bool ok]) ∧ w = w' := by
  by_cases h4 : p < 0 ∨ (n : Int) - p < 4
  · have e := hg.out
    rw [getF_no n f p h4] at e
    obtain ⟨rfl, rfl, rfl⟩ : 0 = a ∧ 0 = q ∧ false = ok := by simpa using e
    clear hg e
    go_enter Try.func84, Try.ntmps84
    go_wp2_with fail
    refine (l4Read_no _ n cap p 4 false w hp1 (by omega) (by omega) h4).mono ?_
    rintro e _ ⟨rfl, rfl⟩
    go_wp2
    go_ret3
    exact ⟨rfl, rfl⟩
  obtain ⟨i, rfl⟩ := Int.eq_ofNat_of_zero_le (a := p) (by omega)
  have e := hg.out
  rw [getF_is n f i (by omega)] at e
  simp only [Prod.mk.injEq] at e
  obtain ⟨ea, rfl, rfl⟩ := e
  have hbd := valF4_bd (turnF false (fun j => f (i + j))) (turnF_bd false (fun j hj => hv.byte (i + j) (by omega)))
  have hz1 : (i : Int) + 4 ≤ (n : Int) := by omega
  have ht : valF 4 (turnF false (fun j => f (i + j))) = valF 4 (fun j => f (i + j)) := rfl
  clear hg h4
  go_enter Try.func84, Try.ntmps84
  go_wp2_with fail
  refine (l4Read_any _ n cap f i 4 false w hv hn (by omega) (by omega)).mono ?_
  rintro e _ ⟨rfl, rfl⟩
  rw [ht] at hbd ⊢
  clear hv ht
  generalize valF 4 (fun j => f (i + j)) = x at *
  subst ea
  go_wp2
  go_ret3
  exact ⟨rfl, rfl⟩
end Go.Proofs.Ytclegljalndaear

/-
  One value in a key, plainly: which parts are right, what fits, its bytes, and what is read of bytes.
-/
namespace Go.Proofs.Ytclegljalndaear
open Go.RowKit
set_option maxRecDepth 4000

def partOk (c t : Int) : Bool := decide (0 ≤ c) && decide (c ≤ 9) && (decide (1 ≤ t) && decide (t ≤ 4))
def fitsP (t : Int) (nul : Bool) (k n : Int) (s : ByteArray) : Bool := okF k n s && ((decide (k = t) && decide (k ≠ 0)) || (decide (k = 0) && nul))

/-- The bytes of a value that is there. -/
def valL (k n : Int) (s : ByteArray) : List Int := if k = 1 then fixL n else if k = 2 then varL n else if k = 3 then escL (sl s) ++ [0, 1] else [n % 256]
/-- The bytes of a value that fits. -/
def partL (nul : Bool) (k n : Int) (s : ByteArray) : List Int := if k = 0 then [0] else if nul then 1 :: valL k n s else valL k n s
def turnL (d : Bool) (l : List Int) : List Int := if d then l.map (fun y => 255 - y) else l
/-- What is put. -/
def putPL (c t : Int) (nul d : Bool) (k n : Int) (s : ByteArray) : List Int := if partOk c t && fitsP t nul k n s then turnL d (partL nul k n s) else []

/-- A value, a place and whether there is one. -/
structure Got where
  k : Int
  n : Int
  s : ByteArray
  q : Int
  ok : Bool
def Got.no : Got := ⟨0, 0, noBytes, 0, false⟩
def Got.chk (g : Got) : Got := if g.ok && okF g.k g.n g.s then g else .no

/-- A value of a type, as it is read. -/
def rawT (n : Nat) (f : Nat → Int) (t : Int) (p : Int) : Got :=
  if t = 1 then ⟨1, (getF n f p).1, noBytes, (getF n f p).2.1, (getF n f p).2.2⟩
  else if t = 2 then ⟨2, (getV n f p).1, noBytes, (getV n f p).2.1, (getV n f p).2.2⟩
  else if t = 3 then ⟨3, 0, (getE n f p).1, (getE n f p).2.1, (getE n f p).2.2⟩
  else if 0 ≤ p ∧ p < n then ⟨t, f p.toNat, noBytes, p + 1, true⟩ else ⟨t, 0, noBytes, 0, false⟩
def getT (n : Nat) (f : Nat → Int) (t : Int) (p : Int) : Got := (rawT n f t p).chk
/-- Behind a byte of 0 or 1, where it may be nothing. -/
def getN (n : Nat) (f : Nat → Int) (nul : Bool) (t : Int) (p : Int) : Got :=
  if nul then (if p = n ∨ 1 < f p.toNat then .no else if f p.toNat = 0 then ⟨0, 0, noBytes, p + 1, true⟩ else getT n f t (p + 1)) else getT n f t p
def turned (d : Bool) (f : Nat → Int) : Nat → Int := if d then fun i => 255 - f i else f
def getP (n : Nat) (f : Nat → Int) (c t : Int) (nul d : Bool) (p : Int) : Got :=
  if partOk c t = false ∨ p < 0 ∨ (n : Int) < p then .no else getN n (turned d f) nul t p

theorem okF_few {k n : Int} {s : ByteArray} (h : okF k n s = true) : s.size ≤ 30 := by
  obtain ⟨v, hr, rfl, rfl, rfl⟩ := okF_iff.1 h
  cases v with
  | text s => simpa [V.rng, V.s] using hr
  | _ => exact Nat.zero_le _
theorem valL_byte (k n : Int) (s : ByteArray) : ∀ y ∈ valL k n s, 0 ≤ y ∧ y ≤ 255 := by
  intro y hy
  unfold valL at hy
  split at hy
  · exact fixL_byte n y hy
  · split at hy
    · exact varL_byte n y hy
    · split at hy
      · rcases List.mem_append.1 hy with hy | hy
        · exact escL_byte _ (sl_byte s) y hy
        · simp at hy; omega
      · simp at hy; omega
theorem partL_byte (nul : Bool) (k n : Int) (s : ByteArray) : ∀ y ∈ partL nul k n s, 0 ≤ y ∧ y ≤ 255 := by
  intro y hy
  unfold partL at hy
  split at hy
  · simp at hy; omega
  · split at hy
    · rcases List.mem_cons.1 hy with rfl | hy
      · omega
      · exact valL_byte k n s y hy
    · exact valL_byte k n s y hy
theorem turnL_byte (d : Bool) (l : List Int) (h : ∀ y ∈ l, 0 ≤ y ∧ y ≤ 255) : ∀ y ∈ turnL d l, 0 ≤ y ∧ y ≤ 255 := by
  intro y hy
  unfold turnL at hy
  split at hy
  · obtain ⟨z, hz, rfl⟩ := List.mem_map.1 hy
    have := h z hz
    omega
  · exact h y hy
theorem turnL_len (d : Bool) (l : List Int) : (turnL d l).length = l.length := by unfold turnL; split <;> simp
theorem putPL_byte (c t : Int) (nul d : Bool) (k n : Int) (s : ByteArray) : ∀ y ∈ putPL c t nul d k n s, 0 ≤ y ∧ y ≤ 255 := by
  intro y hy
  unfold putPL at hy
  split at hy
  · exact turnL_byte d _ (partL_byte nul k n s) y hy
  · cases hy
theorem valL_len (k n : Int) (s : ByteArray) : 1 ≤ (valL k n s).length ∧ (valL k n s).length ≤ 2 * s.size + 8 := by
  unfold valL
  split
  · rw [fixL_len]; omega
  · split
    · have := varL_len n; omega
    · split
      · have := (escL_len (sl s)).2
        rw [sl_len] at this
        rw [List.length_append]
        simp
        omega
      · simp
theorem partL_len (nul : Bool) (k n : Int) (s : ByteArray) : 1 ≤ (partL nul k n s).length ∧ (partL nul k n s).length ≤ 2 * s.size + 9 := by
  have := valL_len k n s
  unfold partL
  split
  · simp
  · split
    · rw [List.length_cons]; omega
    · omega
theorem putPL_len (c t : Int) (nul d : Bool) (k n : Int) (s : ByteArray) : (putPL c t nul d k n s).length ≤ 2 * s.size + 9 := by
  have := partL_len nul k n s
  unfold putPL
  split
  · rw [turnL_len]; omega
  · simp
end Go.Proofs.Ytclegljalndaear

/-
  Keys, plainly: which plans are right, what fits, the bytes of values one behind the other, and what is read of bytes.
-/
namespace Go.Proofs.Ytclegljalndaear
open Go.RowKit
set_option maxRecDepth 4000

/-- A plan is right. -/
def planOk (n : Nat) (fc ft : Nat → Int) : Bool := (List.range n).all (fun i => partOk (fc i) (ft i)) && decide (n ≤ 6)
/-- Values fit. -/
def fitsAll (n m : Nat) (ft : Nat → Int) (fu : Nat → Bool) (fk fn : Nat → Int) (fs : Nat → ByteArray) : Bool := decide (m ≤ n) && (List.range m).all (fun i => fitsP (ft i) (fu i) (fk i) (fn i) (fs i))
theorem planOk_iff {n : Nat} {fc ft : Nat → Int} : planOk n fc ft = true ↔ (∀ i, i < n → partOk (fc i) (ft i) = true) ∧ n ≤ 6 := by
  unfold planOk; simp
theorem fitsAll_iff {n m : Nat} {ft : Nat → Int} {fu : Nat → Bool} {fk fn : Nat → Int} {fs : Nat → ByteArray} : fitsAll n m ft fu fk fn fs = true ↔ m ≤ n ∧ ∀ i, i < m → fitsP (ft i) (fu i) (fk i) (fn i) (fs i) = true := by
  unfold fitsAll; simp
/-- The first k of the lists, one behind the other. -/
def keyT (g : Nat → List Int) : Nat → List Int
  | 0 => []
  | k + 1 => keyT g k ++ g k
/-- The bytes of the value at a place of a plan. -/
def onePL (fc ft : Nat → Int) (fu fd : Nat → Bool) (fk fn : Nat → Int) (fs : Nat → ByteArray) (i : Nat) : List Int := putPL (fc i) (ft i) (fu i) (fd i) (fk i) (fn i) (fs i)
/-- The bytes of a key. -/
def keyL (n : Nat) (fc ft : Nat → Int) (fu fd : Nat → Bool) (m : Nat) (fk fn : Nat → Int) (fs : Nat → ByteArray) : List Int :=
  if planOk n fc ft && fitsAll n m ft fu fk fn fs then keyT (onePL fc ft fu fd fk fn fs) m else []

theorem keyT_congr {g h : Nat → List Int} : ∀ {k : Nat}, (∀ i, i < k → g i = h i) → keyT g k = keyT h k
  | 0, _ => rfl
  | k + 1, e => by rw [keyT, keyT, keyT_congr (fun i hi => e i (by omega)), e k (by omega)]
/-- What stands behind the first k. -/
theorem keyT_split (g : Nat → List Int) (k : Nat) : ∀ j, keyT g (k + j) = keyT g k ++ keyT (fun i => g (k + i)) j
  | 0 => by simp [keyT]
  | j + 1 => by rw [← Nat.add_assoc, keyT, keyT_split g k j, keyT, List.append_assoc]
theorem keyT_byte {g : Nat → List Int} : ∀ {k : Nat}, (∀ i, i < k → ∀ y ∈ g i, 0 ≤ y ∧ y ≤ 255) → ∀ y ∈ keyT g k, 0 ≤ y ∧ y ≤ 255
  | 0, _, y, hy => by simp [keyT] at hy
  | k + 1, h, y, hy => by
    rw [keyT] at hy
    rcases List.mem_append.1 hy with hy | hy
    · exact keyT_byte (fun i hi => h i (by omega)) y hy
    · exact h k (by omega) y hy
theorem keyL_byte (n : Nat) (fc ft : Nat → Int) (fu fd : Nat → Bool) (m : Nat) (fk fn : Nat → Int) (fs : Nat → ByteArray) : ∀ y ∈ keyL n fc ft fu fd m fk fn fs, 0 ≤ y ∧ y ≤ 255 := by
  intro y hy
  unfold keyL at hy
  split at hy
  · exact keyT_byte (fun i _ => putPL_byte _ _ _ _ _ _ _) y hy
  · cases hy
theorem onePL_len {ft : Nat → Int} {fu : Nat → Bool} {fk fn : Nat → Int} {fs : Nat → ByteArray} {i : Nat} (fc : Nat → Int) (fd : Nat → Bool) (h : fitsP (ft i) (fu i) (fk i) (fn i) (fs i) = true) : (onePL fc ft fu fd fk fn fs i).length ≤ 69 := by
  unfold onePL
  have h1 := putPL_len (fc i) (ft i) (fu i) (fd i) (fk i) (fn i) (fs i)
  have h2 : (fs i).size ≤ 30 := by unfold fitsP at h; simp only [Bool.and_eq_true] at h; exact okF_few h.1
  omega
theorem keyT_len {g : Nat → List Int} : ∀ {k : Nat}, (∀ i, i < k → (g i).length ≤ 69) → (keyT g k).length ≤ k * 69
  | 0, _ => by simp [keyT]
  | k + 1, h => by
    rw [keyT, List.length_append]
    have h1 := keyT_len (fun i hi => h i (by omega)) (k := k)
    have h2 := h k (by omega)
    omega
theorem keyL_len (n : Nat) (fc ft : Nat → Int) (fu fd : Nat → Bool) (m : Nat) (fk fn : Nat → Int) (fs : Nat → ByteArray) : (keyL n fc ft fu fd m fk fn fs).length ≤ 414 := by
  unfold keyL
  split
  · rename_i h
    simp only [Bool.and_eq_true] at h
    obtain ⟨h1, h2⟩ := h
    have hp := planOk_iff.1 h1
    have hf := fitsAll_iff.1 h2
    have := keyT_len (g := onePL fc ft fu fd fk fn fs) (k := m) (fun i hi => onePL_len fc fd (hf.2 i hi))
    omega
  · simp

section
variable (N : Nat) (F : Nat → Int) (fc ft : Nat → Int) (fu fd : Nat → Bool)
/-- The place behind the first k values, as they are read. -/
def decQ : Nat → Option Int
  | 0 => some 0
  | k + 1 => (decQ k).bind (fun p => if (getP N F (fc k) (ft k) (fu k) (fd k) p).ok then some (getP N F (fc k) (ft k) (fu k) (fd k) p).q else none)
/-- The value that is read at a place of a plan. -/
def decG (k : Nat) : Got := getP N F (fc k) (ft k) (fu k) (fd k) ((decQ N F fc ft fu fd k).getD 0)
/-- Whether the bytes are a key of the plan. -/
def decOk (n : Nat) : Bool := planOk n fc ft && decide (decQ N F fc ft fu fd n = some (N : Int))
end
theorem decQ_succ {N : Nat} {F : Nat → Int} {fc ft : Nat → Int} {fu fd : Nat → Bool} {k : Nat} {q : Int} (h : decQ N F fc ft fu fd (k + 1) = some q) : ∃ p, decQ N F fc ft fu fd k = some p ∧ (getP N F (fc k) (ft k) (fu k) (fd k) p).ok = true ∧ (getP N F (fc k) (ft k) (fu k) (fd k) p).q = q := by
  rw [decQ] at h
  obtain ⟨p, h1, h2⟩ := Option.bind_eq_some_iff.1 h
  by_cases e : (getP N F (fc k) (ft k) (fu k) (fd k) p).ok = true
  · rw [if_pos e] at h2
    exact ⟨p, h1, e, Option.some.inj h2⟩
  · rw [if_neg e] at h2; cases h2
end Go.Proofs.Ytclegljalndaear

/-
  All up to a number.
-/
namespace Go.Proofs.Ytclegljalndaear

theorem allUpto_no {p : Nat → Bool} {n k : Nat} (hk : k < n) (h : p k = false) : (List.range n).all p = false := by
  rw [Bool.eq_false_iff]
  intro e
  have := List.all_eq_true.1 e k (List.mem_range.2 hk)
  rw [h] at this; cases this
theorem allUpto_yes {p : Nat → Bool} {n : Nat} (h : ∀ i, i < n → p i = true) : (List.range n).all p = true :=
  List.all_eq_true.2 (fun i hi => h i (List.mem_range.1 hi))
end Go.Proofs.Ytclegljalndaear

/-
  A slice of parts that reads, by functions of the index, and how that is carried from one world to the next.
-/
namespace Go.Proofs.Ytclegljalndaear
open Go.RowKit
set_option maxRecDepth 4000

/-- The slice value '.slice ao n cap' reads, in the world w, as n parts. -/
structure PView (w : World) (ao : Option Addr) (n cap : Nat) (fc ft : Nat → Int) (fu fd : Nat → Bool) : Prop where
  le : n ≤ cap
  cells : 0 < n → ∃ b off, ao = some ⟨b, off, none⟩ ∧ b < w.heap.size ∧ ∀ i, i < n → w.cell? ⟨b, off + i * 4, none⟩ = some (.int .i64 (fc i)) ∧ w.cell? ⟨b, off + i * 4 + 1, none⟩ = some (.int .i64 (ft i)) ∧ w.cell? ⟨b, off + i * 4 + 2, none⟩ = some (.bool (fu i)) ∧ w.cell? ⟨b, off + i * 4 + 3, none⟩ = some (.bool (fd i))

theorem PView.below {w w' : World} {ao : Option Addr} {n cap : Nat} {fc ft : Nat → Int} {fu fd : Nat → Bool} (h : PView w ao n cap fc ft fu fd) (hb : Below w.heap.size w w') : PView w' ao n cap fc ft fu fd := by
  refine ⟨h.le, fun hn => ?_⟩
  obtain ⟨b, off, e, hlt, hc⟩ := h.cells hn
  refine ⟨b, off, e, Nat.lt_of_lt_of_le hlt hb.size, fun i hi => ?_⟩
  rw [hb.cell (p := ⟨b, off + i * 4, none⟩) hlt, hb.cell (p := ⟨b, off + i * 4 + 1, none⟩) hlt, hb.cell (p := ⟨b, off + i * 4 + 2, none⟩) hlt, hb.cell (p := ⟨b, off + i * 4 + 3, none⟩) hlt]
  exact hc i hi
end Go.Proofs.Ytclegljalndaear

/-
  Two values are held against each other, all fields at once.
-/
namespace Go.Proofs.Ytclegljalndaear
open Go.RowKit
set_option maxRecDepth 4000

def valAgg (k n : Int) (s : ByteArray) : Value := .agg #[.int .i64 k, .int .i64 n, .string s]

/-- Whether two values are alike. -/
def eqV (k n : Int) (s : ByteArray) (k' n' : Int) (s' : ByteArray) : Bool := decide (k = k') && decide (n = n') && decide (s = s')

theorem toList_inj {a b : ByteArray} : a.toList = b.toList ↔ a = b := by
  constructor
  · intro h
    rw [ByteArray.toList_eq, ByteArray.toList_eq] at h
    obtain ⟨⟨x⟩⟩ := a
    obtain ⟨⟨y⟩⟩ := b
    simp only at h
    rw [h]
  · rintro rfl; rfl

theorem eqVal_run (k n : Int) (s : ByteArray) (k' n' : Int) (s' : ByteArray) (W : World) :
    (binOp .eql 59 (.agg #[.int .i64 k, .int .i64 n, .string s]) (.agg #[.int .i64 k', .int .i64 n', .string s'])).run Try.prog W = .ok (.bool (eqV k n s k' n' s')) W := by
  by_cases h1 : k = k' <;> by_cases h2 : n = n' <;> by_cases h3 : s = s' <;> simp [go_sem, h1, h2, h3, eqV, toList_inj]

theorem neVal_run (k n : Int) (s : ByteArray) (k' n' : Int) (s' : ByteArray) (W : World) :
    (binOp .neq 59 (.agg #[.int .i64 k, .int .i64 n, .string s]) (.agg #[.int .i64 k', .int .i64 n', .string s'])).run Try.prog W = .ok (.bool (!eqV k n s k' n' s')) W := by
  by_cases h1 : k = k' <;> by_cases h2 : n = n' <;> by_cases h3 : s = s' <;> simp [go_sem, h1, h2, h3, eqV, toList_inj]

end Go.Proofs.Ytclegljalndaear

/-
  Values that were put into variables of the call's own, in later worlds.
-/
namespace Go.Proofs.Ytclegljalndaear
open Go.RowKit
set_option maxRecDepth 4000

/-- A value that was put into a variable of the call's own reads as it did. -/
theorem boxed {w W' : World} {T : TypeId} {k n : Int} {s : ByteArray} {B : Nat} (h : Below B (w.alloc (.cells #[.int .i64 k, .int .i64 n, .string s] T)) W') (hB : w.heap.size < B) : W'.cell? ⟨w.heap.size, 0, none⟩ = some (.int .i64 k) ∧ W'.cell? ⟨w.heap.size, 1, none⟩ = some (.int .i64 n) ∧ W'.cell? ⟨w.heap.size, 2, none⟩ = some (.string s) := by
  refine ⟨?_, ?_, ?_⟩
  all_goals (rw [h.cell hB]; simp [go_sem])

/-- And it may be written. -/
theorem boxedF {w W' : World} {T : TypeId} {k n : Int} {s : ByteArray} {B : Nat} (h : Below B (w.alloc (.cells #[.int .i64 k, .int .i64 n, .string s] T)) W') (hB : w.heap.size < B) : W'.frozen? ⟨w.heap.size, 0, none⟩ = false ∧ W'.frozen? ⟨w.heap.size, 1, none⟩ = false ∧ W'.frozen? ⟨w.heap.size, 2, none⟩ = false := by
  refine ⟨?_, ?_, ?_⟩
  all_goals (rw [h.frozen hB]; simp [go_sem])

theorem sc_other (W : World) (B i j : Nat) (v : Value) (h : i ≠ j) : (W.setCell ⟨B, i, none⟩ v).cell? ⟨B, j, none⟩ = W.cell? ⟨B, j, none⟩ :=
  World.cell?_setCell_other W _ _ v (by intro e; exact h (congrArg Addr.off e))
theorem sc_same {W : World} {B i : Nat} {v u : Value} (h : W.cell? ⟨B, i, none⟩ = some u) : (W.setCell ⟨B, i, none⟩ v).cell? ⟨B, i, none⟩ = some v := World.cell?_setCell_same W _ v h

/-- A value that is put into the result's variable. -/
theorem stored3 {W : World} {B : Nat} {x0 x1 x2 : Value} (a b c : Value) (c0 : W.cell? ⟨B, 0, none⟩ = some x0) (c1 : W.cell? ⟨B, 1, none⟩ = some x1) (c2 : W.cell? ⟨B, 2, none⟩ = some x2) :
    (((W.setCell ⟨B, 0, none⟩ a).setCell ⟨B, 1, none⟩ b).setCell ⟨B, 2, none⟩ c).cell? ⟨B, 0, none⟩ = some a ∧
    (((W.setCell ⟨B, 0, none⟩ a).setCell ⟨B, 1, none⟩ b).setCell ⟨B, 2, none⟩ c).cell? ⟨B, 1, none⟩ = some b ∧
    (((W.setCell ⟨B, 0, none⟩ a).setCell ⟨B, 1, none⟩ b).setCell ⟨B, 2, none⟩ c).cell? ⟨B, 2, none⟩ = some c := by
  refine ⟨?_, ?_, ?_⟩
  · rw [sc_other _ _ 2 0 _ (by decide), sc_other _ _ 1 0 _ (by decide), sc_same c0]
  · rw [sc_other _ _ 2 1 _ (by decide), sc_same (u := x1) (by rw [sc_other _ _ 0 1 _ (by decide)]; exact c1)]
  · rw [sc_same (u := x2) (by rw [sc_other _ _ 1 2 _ (by decide), sc_other _ _ 0 2 _ (by decide)]; exact c2)]

theorem stored3A {W : World} {B : Nat} {x0 x1 x2 : Value} (a b c : Value) (c0 : W.cell? ⟨B, 0, none⟩ = some x0) (c1 : W.cell? ⟨B, 1, none⟩ = some x1) (c2 : W.cell? ⟨B, 2, none⟩ = some x2) (h : B < W.heap.size) (o : Obj) :
    ((((W.setCell ⟨B, 0, none⟩ a).setCell ⟨B, 1, none⟩ b).setCell ⟨B, 2, none⟩ c).alloc o).cell? ⟨B, 0, none⟩ = some a ∧
    ((((W.setCell ⟨B, 0, none⟩ a).setCell ⟨B, 1, none⟩ b).setCell ⟨B, 2, none⟩ c).alloc o).cell? ⟨B, 1, none⟩ = some b ∧
    ((((W.setCell ⟨B, 0, none⟩ a).setCell ⟨B, 1, none⟩ b).setCell ⟨B, 2, none⟩ c).alloc o).cell? ⟨B, 2, none⟩ = some c := by
  have g := stored3 a b c c0 c1 c2
  have hB : B < (((W.setCell ⟨B, 0, none⟩ a).setCell ⟨B, 1, none⟩ b).setCell ⟨B, 2, none⟩ c).heap.size := by simpa using h
  rw [World.cell?_alloc_past _ _ _ hB, World.cell?_alloc_past _ _ _ hB, World.cell?_alloc_past _ _ _ hB]
  exact g

/-- Two values that were put into variables of the call's own stand in a later world. -/
structure Two (w : World) (T : TypeId) (k n : Int) (s : ByteArray) (k' n' : Int) (s' : ByteArray) (W : World) : Prop where
  below : Below (w.heap.size + 2) ((w.alloc (.cells #[.int .i64 k, .int .i64 n, .string s] T)).alloc (.cells #[.int .i64 k', .int .i64 n', .string s'] T)) W
  size : w.heap.size + 2 ≤ W.heap.size

theorem Two.start (w : World) (T : TypeId) (k n : Int) (s : ByteArray) (k' n' : Int) (s' : ByteArray) : Two w T k n s k' n' s' ((w.alloc (.cells #[.int .i64 k, .int .i64 n, .string s] T)).alloc (.cells #[.int .i64 k', .int .i64 n', .string s'] T)) := ⟨Below.refl _ _, by simp⟩
theorem Two.drew {w W : World} {T : TypeId} {k n : Int} {s : ByteArray} {k' n' : Int} {s' : ByteArray} (h : Two w T k n s k' n' s' W) : Two w T k n s k' n' s' W.drew := ⟨h.below.drew, h.size⟩
theorem Two.step {w W W' : World} {T : TypeId} {k n : Int} {s : ByteArray} {k' n' : Int} {s' : ByteArray} (h : Two w T k n s k' n' s' W) (hB : Below W.heap.size W W') : Two w T k n s k' n' s' W' :=
  ⟨h.below.trans (hB.mono h.size), Nat.le_trans h.size hB.size⟩
theorem Two.cells {w W : World} {T : TypeId} {k n : Int} {s : ByteArray} {k' n' : Int} {s' : ByteArray} (h : Two w T k n s k' n' s' W) :
    (W.cell? ⟨w.heap.size, 0, none⟩ = some (.int .i64 k) ∧ W.cell? ⟨w.heap.size, 1, none⟩ = some (.int .i64 n) ∧ W.cell? ⟨w.heap.size, 2, none⟩ = some (.string s)) ∧
    (W.cell? ⟨w.heap.size + 1, 0, none⟩ = some (.int .i64 k') ∧ W.cell? ⟨w.heap.size + 1, 1, none⟩ = some (.int .i64 n') ∧ W.cell? ⟨w.heap.size + 1, 2, none⟩ = some (.string s')) := by
  refine ⟨⟨?_, ?_, ?_⟩, ?_, ?_, ?_⟩
  all_goals (rw [h.below.cell (by show _ < _; simp <;> omega)]; simp [go_sem])
theorem Two.all {w W : World} {T : TypeId} {k n : Int} {s : ByteArray} {k' n' : Int} {s' : ByteArray} (h : Two w T k n s k' n' s' W) : Below w.heap.size w W :=
  (((Below.refl _ _).alloc (Nat.le_refl _) _).alloc (by simp) _).trans (h.below.mono (by omega))

end Go.Proofs.Ytclegljalndaear

/-
  A slice of values that reads, by a function of the index, and how that is carried from one world to the next.
-/
namespace Go.Proofs.Ytclegljalndaear
open Go.RowKit
set_option maxRecDepth 4000

/-- The slice value '.slice ao n cap' reads, in the world w, as the n values f 0 up to f (n - 1). -/
structure VView (w : World) (ao : Option Addr) (n cap : Nat) (fk fn : Nat → Int) (fs : Nat → ByteArray) : Prop where
  le : n ≤ cap
  cells : 0 < n → ∃ b off, ao = some ⟨b, off, none⟩ ∧ b < w.heap.size ∧ ∀ i, i < n → w.cell? ⟨b, off + i * 3, none⟩ = some (.int .i64 (fk i)) ∧ w.cell? ⟨b, off + i * 3 + 1, none⟩ = some (.int .i64 (fn i)) ∧ w.cell? ⟨b, off + i * 3 + 2, none⟩ = some (.string (fs i))

theorem VView.below {w w' : World} {ao : Option Addr} {n cap : Nat} {fk fn : Nat → Int} {fs : Nat → ByteArray} (h : VView w ao n cap fk fn fs) (hb : Below w.heap.size w w') : VView w' ao n cap fk fn fs := by
  refine ⟨h.le, fun hn => ?_⟩
  obtain ⟨b, off, e, hlt, hc⟩ := h.cells hn
  refine ⟨b, off, e, Nat.lt_of_lt_of_le hlt hb.size, fun i hi => ?_⟩
  rw [hb.cell (p := ⟨b, off + i * 3, none⟩) hlt, hb.cell (p := ⟨b, off + i * 3 + 1, none⟩) hlt, hb.cell (p := ⟨b, off + i * 3 + 2, none⟩) hlt]
  exact hc i hi

end Go.Proofs.Ytclegljalndaear

/-
  The model's soundness of a value comes to the plain one.
-/
namespace Go.Proofs.Ytclegljalndaear
open Go.RowKit
set_option maxRecDepth 4000

/-- What the model asks, kind by kind. -/
theorem okF_spec0 (n : Int) (s : ByteArray) : okF 0 n s = (decide (n = 0) && decide (s = noBytes)) := by
  simp [okF, ofFields, V.rng, V.k, V.n, V.s, eq_comm]
theorem okF_spec1 (n : Int) (s : ByteArray) : okF 1 n s = (decide (-2147483648 ≤ n) && decide (n ≤ 2147483647) && decide (s = noBytes)) := by
  simp [okF, ofFields, V.rng, V.k, V.n, V.s, eq_comm]
theorem okF_spec2 (n : Int) (s : ByteArray) : okF 2 n s = (decide (-1000000000000000 ≤ n) && decide (n ≤ 1000000000000000) && decide (s = noBytes)) := by
  simp [okF, ofFields, V.rng, V.k, V.n, V.s, eq_comm]
theorem okF_spec3 (n : Int) (s : ByteArray) : okF 3 n s = (decide (s.size ≤ 30) && decide (n = 0)) := by
  simp [okF, ofFields, V.rng, V.k, V.n, V.s, eq_comm]
theorem okF_spec4 (n : Int) (s : ByteArray) : okF 4 n s = (decide (0 ≤ n) && decide (n ≤ 1) && decide (s = noBytes)) := by
  by_cases h0 : n = 0
  · subst h0; simp [okF, ofFields, V.rng, V.k, V.n, V.s, eq_comm]
  · by_cases h1 : n = 1
    · subst h1; simp [okF, ofFields, V.rng, V.k, V.n, V.s, eq_comm]
    · have e : (decide (0 ≤ n) && decide (n ≤ 1)) = false := by simp; omega
      rw [e]
      simp [okF, ofFields, V.rng, V.k, V.n, V.s, h0]
      intro h; omega
theorem okF_specX {k : Int} (n : Int) (s : ByteArray) (h0 : k ≠ 0) (h1 : k ≠ 1) (h2 : k ≠ 2) (h3 : k ≠ 3) (h4 : k ≠ 4) : okF k n s = false := by
  simp [okF, ofFields, h0, h1, h2, h3, h4]

theorem isE (s : ByteArray) : s.toList.isEmpty = decide (s = noBytes) := by
  rw [ByteArray.toList_eq]
  obtain ⟨⟨l⟩⟩ := s
  cases l with
  | nil => simp [noBytes]
  | cons c r => simp [noBytes]

set_option maxHeartbeats 1000000 in
theorem specValOk_any (k n : Int) (s : ByteArray) (w : World) (hs : s.size ≤ 281474976710656) :
    Calls Try.prog 56 #[valAgg k n s] w fun e w' => e = .returned (.bool (okF k n s)) ∧ Below w.heap.size w w' := by
  unfold valAgg
  by_cases k0 : k = 0
  · subst k0
    rw [okF_spec0]
    go_enter Try.func56, Try.ntmps56
    go_wp2
    all_goals
      go_ret
      refine ⟨congrArg (fun b => Ending.returned (.bool b)) ?_, (Below.refl _ _).alloc (Nat.le_refl _) _⟩
      first | rfl | (simp [isE, *] <;> omega) | (simp_all [isE] <;> omega)
  by_cases k1 : k = 1
  · subst k1
    rw [okF_spec1]
    go_enter Try.func56, Try.ntmps56
    go_wp2
    all_goals
      go_ret
      refine ⟨congrArg (fun b => Ending.returned (.bool b)) ?_, (Below.refl _ _).alloc (Nat.le_refl _) _⟩
      first | rfl | (simp [isE, *] <;> omega) | (simp_all [isE] <;> omega)
  by_cases k2 : k = 2
  · subst k2
    rw [okF_spec2]
    go_enter Try.func56, Try.ntmps56
    go_wp2
    all_goals
      go_ret
      refine ⟨congrArg (fun b => Ending.returned (.bool b)) ?_, (Below.refl _ _).alloc (Nat.le_refl _) _⟩
      first | rfl | (simp [isE, *] <;> omega) | (simp_all [isE] <;> omega)
  by_cases k3 : k = 3
  · subst k3
    rw [okF_spec3]
    go_enter Try.func56, Try.ntmps56
    go_wp2
    all_goals
      go_ret
      refine ⟨congrArg (fun b => Ending.returned (.bool b)) ?_, (Below.refl _ _).alloc (Nat.le_refl _) _⟩
      (rw [Bool.eq_iff_iff]; simp; omega)
  by_cases k4 : k = 4
  · subst k4
    rw [okF_spec4]
    go_enter Try.func56, Try.ntmps56
    go_wp2
    all_goals
      go_ret
      refine ⟨congrArg (fun b => Ending.returned (.bool b)) ?_, (Below.refl _ _).alloc (Nat.le_refl _) _⟩
      first | rfl | (simp [isE, *] <;> omega) | (simp_all [isE] <;> omega)
  rw [okF_specX n s k0 k1 k2 k3 k4]
  have q0 : (k == 0) = false := by simpa using k0
  have q1 : (k == 1) = false := by simpa using k1
  have q2 : (k == 2) = false := by simpa using k2
  have q3 : (k == 3) = false := by simpa using k3
  have q4 : (k == 4) = false := by simpa using k4
  clear k0 k1 k2 k3 k4
  go_enter Try.func56, Try.ntmps56
  go_wp2
  go_ret
  exact ⟨rfl, (Below.refl _ _).alloc (Nat.le_refl _) _⟩
end Go.Proofs.Ytclegljalndaear

/-
  The program's putBytes: both slices of bytes, one behind the other, in one new row that holds just them.
-/
namespace Go.Proofs.Ytclegljalndaear
open Go.RowKit
set_option maxRecDepth 4000

theorem cells_of_any {w : World} {ao : Option Addr} {n cap : Nat} {f : Nat → Int} (h : View w ao n cap f) : ∀ ad, ao = some ad → ∀ j u, (bl (lof n f))[j]? = some u → w.cell? (ad.add j) = some u := by
  rintro ad rfl j u hu
  have hj : j < n := by
    by_cases hj : j < n
    · exact hj
    · rw [List.getElem?_eq_none (by rw [bl_len, lof_len]; omega)] at hu; cases hu
  obtain ⟨b', off', e, _, _⟩ := h.cells (by omega)
  simp only [Option.some.injEq] at e
  subst e
  exact cells_of_view h j u hu

theorem below_new {w w1 : World} (h : w.grownBy w1 none) : Below w.heap.size w w1 := (Below.refl _ _).grown h (Nat.le_refl _) (by intro k hk; cases hk)
theorem below_app {w w1 w2 : World} (h : w.grownBy w1 none) (h2 : w1.grownBy w2 (some w.heap.size)) : Below w.heap.size w w2 :=
  (below_new h).grown h2 h.size (by intro k hk; cases hk; exact Nat.le_refl _)

set_option maxHeartbeats 1000000 in
theorem putBytes_any (b off n cap : Nat) (f : Nat → Int) (ao : Option Addr) (m c : Nat) (g : Nat → Int) (w : World) (hv : View w (some ⟨b, off, none⟩) n cap f) (hg : View w ao m c g) (hno : ao = none → m = 0 ∧ c = 0) (hn : n + m ≤ 70368744177664) :
    Calls Try.prog 61 #[.slice (some ⟨b, off, none⟩) n cap, .slice ao m c] w fun e w' => e = .returned (.slice (some ⟨w.heap.size, 0, none⟩) (n + m) (n + m)) ∧ w'.ownsRow w.heap.size 5 1 (.slice (some ⟨w.heap.size, 0, none⟩) (n + m) (n + m)) (n + m) (bl (lof n f ++ lof m g)) ∧ Below w.heap.size w w' := by
  obtain ⟨i0, hi, hz0, hz1, hz2⟩ := info_parts Try.info5
  go_enter Try.func61, Try.ntmps61
  go_wp2_with (first | (at_make; go_must (refine wpList_make_own _ rfl (.const (.int .i64 0)) (.tmp 10) 36 rfl w.heap.size 5 i0 (.int .u8 0) 1 Try.underlying36 hi hz0 hz1 .i64 .i64 ((n : Int) + (m : Int)) (n + m) rfl rfl (by omega) (by rw [hz2]; omega) (by unfold maxLen; omega) (Nat.le_refl _) ?_); intro w1 hown1 hgr1) | (at_builtin; refine wpList_append_fits_any _ rfl (.tmp 12) (.tmp 13) 36 rfl w.heap.size 5 i0 1 Try.underlying36 hi hz1 w.heap.size 0 (n + m) [] rfl hown1 (some ⟨b, off, none⟩) n cap (bl (lof n f)) rfl (by rw [bl_len, lof_len]; omega) (by intro h; cases h) (cells_of_any (hv.below (below_new hgr1))) (bl_one _) (by omega) ?_; intro w2 hown2 hgr2; simp only [Nat.zero_add, List.nil_append] at hown2) | (at_builtin; refine wpList_append_fits_any _ rfl (.tmp 15) (.tmp 16) 36 rfl w.heap.size 5 i0 1 Try.underlying36 hi hz1 w.heap.size n (n + m) (bl (lof n f)) rfl hown2 ao m c (bl (lof m g)) rfl (by rw [bl_len, lof_len]; omega) hno (cells_of_any (hg.below (below_app hgr1 hgr2))) (bl_one _) (by omega) ?_; intro w3 hown3 hgr3))
  go_ret
  exact ⟨rfl, by rw [bl_append]; exact hown3, (below_app hgr1 hgr2).grown hgr3 (Nat.le_trans hgr1.size hgr2.size) (by intro k hk; cases hk; exact Nat.le_refl _)⟩
end Go.Proofs.Ytclegljalndaear

/-
  Flip, the program's and the model's: from the place on all bits of the bytes turned, in memory of its own.
-/
namespace Go.Proofs.Ytclegljalndaear
open Go.RowKit
set_option maxRecDepth 4000

/-- The bytes of f, from p on turned. -/
def flipF (f : Nat → Int) (p : Int) (i : Nat) : Int := if p ≤ i then 255 - f i else f i
theorem flipF_byte {n : Nat} {f : Nat → Int} (p : Int) (h : ∀ i, i < n → 0 ≤ f i ∧ f i ≤ 255) : ∀ i, i < n → 0 ≤ flipF f p i ∧ flipF f p i ≤ 255 := by
  intro i hi
  have := h i hi
  unfold flipF
  split <;> omega

/-- k of the n bytes are turned, as far as they are to be. -/
structure Flipped (t : TypeId) (w wr : World) (g n : Nat) (f : Nat → Int) (p : Int) (k : Nat) : Prop where
  row : Row t wr g n (fun i => if i < k then flipF f p i else f i)
  below : Below w.heap.size w wr

theorem flipped_turn {t : TypeId} {w wr : World} {g n : Nat} {f : Nat → Int} {p : Int} {k : Nat} (h : Flipped t w wr g n f p k) (hg : w.heap.size ≤ g) (hp : p ≤ k) : Flipped t w (wr.setCell ⟨g, k, none⟩ (.int .u8 (255 - f k))) g n f p (k + 1) := by
  refine ⟨(h.row.set k _).congr (fun i _ => ?_), h.below.setCell hg _⟩
  by_cases e : i = k
  · subst e; simp [flipF, hp]
  · rw [if_neg e]
    by_cases hlt : i < k
    · rw [if_pos hlt, if_pos (by omega)]
    · rw [if_neg hlt, if_neg (by omega)]
theorem flipped_keep {t : TypeId} {w wr : World} {g n : Nat} {f : Nat → Int} {p : Int} {k : Nat} (h : Flipped t w wr g n f p k) (hp : ¬ p ≤ k) : Flipped t w wr g n f p (k + 1) := by
  refine ⟨h.row.congr (fun i _ => ?_), h.below⟩
  by_cases e : i = k
  · subst e; simp [flipF, hp]
  · by_cases hlt : i < k
    · rw [if_pos hlt, if_pos (by omega)]
    · rw [if_neg hlt, if_neg (by omega)]

set_option maxHeartbeats 1000000 in
theorem flip_spec (b off n cap : Nat) (f : Nat → Int) (p : Int) (w : World) (hv : View w (some ⟨b, off, none⟩) n cap f) (hn : n ≤ 70368744177664) :
    Calls Try.prog 60 #[.slice (some ⟨b, off, none⟩) n cap, .int .i64 p] w fun e w' => ∃ g c, e = .returned (.slice (some ⟨g, 0, none⟩) n c) ∧ w.heap.size ≤ g ∧ n ≤ c ∧ Row 5 w' g n (flipF f p) ∧ Below w.heap.size w w' := by
  obtain ⟨i0, hi, hz0, hz1, hz2⟩ := info_parts Try.info5
  have hown0 := World.ownsRow_lit (base := w.heap.size) (e := 5) (size := 1) w #[] 0 (Nat.le_refl _) (Nat.zero_le _) rfl
  have hb0 : Below w.heap.size w (w.alloc (.cells #[] 5)) := (Below.refl _ _).alloc (Nat.le_refl _) _
  have hcl := cells_of_view (hv.below hb0)
  have hsz : (w.alloc (.cells #[] 5)).heap.size = w.heap.size + 1 := by simp
  have hby := hv.byte
  go_enter Try.func60, Try.ntmps60
  go_wp2_with (at_builtin; go_must (refine wpList_append_own _ rfl (.tmp 7) (.tmp 8) 36 rfl w.heap.size 5 i0 (.int .u8 0) 1 1 Try.underlying36 hi hz0 hz1 hz2 rfl (by decide) (.slice (some ⟨w.heap.size, 0, none⟩) 0 0) 0 [] rfl hown0 ⟨b, off, none⟩ n cap (bl (lof n f)) rfl (by rw [bl_len, lof_len]; omega) hcl (bl_one _) (by unfold maxLen; omega) (by omega) (by rw [hsz]; omega) ?_); intro v1 w1 hown1 hgr1 hnil; simp only [Nat.zero_add, List.nil_append] at hown1; obtain ⟨g, c, rfl, hg, hgc, hrow⟩ := row_of_own' hown1 (by intro h; have := (hnil.1 h).1; cases this))
  have hb1 : Below w.heap.size w w1 := hb0.grown hgr1 (by simp) (fun k hk => by simp only [Value.ownBlock, Option.some.injEq] at hk; omega)
  have hF0 : Flipped 5 w w1 g n f p 0 := ⟨hrow.congr (fun i hi => by rw [lof_get n f i hi]; simp), hb1⟩
  clear hown0 hcl hsz hgr1 hb0 hv hown1 hnil hrow hb1
  go_loopg [6] n (fun q i wr => ∃ k : Nat, k ≤ n ∧ q = n - k ∧ i = .int .i64 k ∧ Flipped 5 w wr g n f p k)
  case atStart => exact ⟨0, Nat.zero_le _, rfl, rfl, hF0⟩
  case round =>
    obtain ⟨k, hk, rfl, rfl, hF⟩ := hrel
    clear hF0
    by_cases hlt : k < n
    · have hkz : (k : Int) < (n : Int) := by omega
      by_cases hp : p ≤ (k : Int)
      · have hS : Hid (Flipped 5 w (wr.setCell ⟨g, k, none⟩ (.int .u8 (255 - f k))) g n f p (k + 1)) := flipped_turn hF hg hp
        have hc : wr.cell? ⟨g, k, none⟩ = some (.int .u8 (f k)) := by rw [hF.row.cell hlt, if_neg (Nat.lt_irrefl _)]
        have hf := hF.row.frozen k
        have hx : bits .xor .u8 IntKind.u8.max (f k) = 255 - f k := u8_not _ (hby k hlt).1 (hby k hlt).2
        clear hF hby
        go_wp2
        go_roundg (n - (k + 1))
        case measure => omega
        case rel => exact ⟨k + 1, by omega, rfl, by go_num, hS.out⟩
      · have hS : Hid (Flipped 5 w wr g n f p (k + 1)) := flipped_keep hF hp
        clear hF hby
        go_wp2
        go_roundg (n - (k + 1))
        case measure => omega
        case rel => exact ⟨k + 1, by omega, rfl, by go_num, hS.out⟩
    · obtain rfl : k = n := by omega
      have hR : Hid (Row 5 wr g k (flipF f p)) := hF.row.congr (fun i hi => by rw [if_pos hi])
      have hB := hF.below
      clear hF hby
      go_wp2
      go_ret
      exact ⟨g, c, rfl, hg, hgc, hR.out, hB⟩

set_option maxHeartbeats 1000000 in
theorem flip_impl (b off n cap : Nat) (f : Nat → Int) (p : Int) (w : World) (hv : View w (some ⟨b, off, none⟩) n cap f) (hn : n ≤ 70368744177664) (hp1 : p ≤ 9223372036854775807) :
    Calls Try.prog 64 #[.slice (some ⟨b, off, none⟩) n cap, .int .i64 p] w fun e w' => ∃ g c, e = .returned (.slice (some ⟨g, 0, none⟩) n c) ∧ w.heap.size ≤ g ∧ n ≤ c ∧ Row 5 w' g n (flipF f p) ∧ Below w.heap.size w w' := by
  have hby := hv.byte
  go_enter Try.func64, Try.ntmps64
  go_wp2_with fail
  refine (putBytes_any b off n cap f none 0 0 (fun _ => 0) w hv ⟨Nat.le_refl _, fun i hi => absurd hi (Nat.not_lt_zero _), fun h => absurd h (Nat.lt_irrefl _)⟩ (fun _ => ⟨rfl, rfl⟩) (by omega)).mono ?_
  rintro e w1 ⟨rfl, hown, hb1⟩
  rw [Nat.add_zero] at hown ⊢
  have hrow := row_of_owned hown
  have hR0 : Row 5 w1 w.heap.size n f := hrow.congr (fun i hi => by rw [show lof 0 (fun _ => (0 : Int)) = [] from rfl, List.append_nil, lof_get n f i hi])
  have HF : ∀ m : Nat, (∀ i : Nat, i < m → ¬ p ≤ i) → Flipped 5 w w1 w.heap.size n f p m := by
    intro m hm
    refine ⟨hR0.congr (fun i hi => ?_), hb1⟩
    by_cases e : i < m
    · rw [if_pos e, flipF, if_neg (hm i e)]
    · rw [if_neg e]
  have hF0 : Hid (p < 0 → Flipped 5 w w1 w.heap.size n f p 0) := fun _ => HF 0 (fun i hi => absurd hi (Nat.not_lt_zero _))
  have hF1 : Hid (0 ≤ p → Flipped 5 w w1 w.heap.size n f p p.toNat) := fun _ => HF p.toNat (fun i hi => by omega)
  clear hown hrow hR0 HF hv hb1
  go_wp2
  all_goals
    go_loopg [6] (n - p.toNat) (fun q i wr => ∃ k : Nat, q = n - k ∧ i = .int .i64 k ∧ (k : Int) ≤ 9223372036854775807 ∧ p ≤ k ∧ Flipped 5 w wr w.heap.size n f p k)
    case atStart => first | exact ⟨0, by omega, rfl, by omega, by omega, hF0.out (by omega)⟩ | exact ⟨p.toNat, rfl, congrArg (Value.int .i64) (by omega), by omega, by omega, hF1.out (by omega)⟩
    case round =>
      obtain ⟨k, rfl, rfl, hk63, hpk, hF⟩ := hrel
      clear hF0 hF1
      by_cases hlt : k < n
      · have hkz : (k : Int) < (n : Int) := by omega
        have hS : Hid (Flipped 5 w (wr.setCell ⟨w.heap.size, k, none⟩ (.int .u8 (255 - f k))) w.heap.size n f p (k + 1)) := flipped_turn hF (Nat.le_refl _) hpk
        have hc : wr.cell? ⟨w.heap.size, k, none⟩ = some (.int .u8 (f k)) := by rw [hF.row.cell hlt, if_neg (Nat.lt_irrefl _)]
        have hf := hF.row.frozen k
        have hx : bits .xor .u8 IntKind.u8.max (f k) = 255 - f k := u8_not _ (hby k hlt).1 (hby k hlt).2
        clear hF hby
        go_wp2
        go_roundg (n - (k + 1))
        case measure => omega
        case rel => exact ⟨k + 1, rfl, by go_num, by omega, by omega, hS.out⟩
      · have hkz : (n : Int) ≤ (k : Int) := by omega
        have hR : Hid (Row 5 wr w.heap.size n (flipF f p)) := hF.row.congr (fun i hi => by rw [if_pos (by omega)])
        have hB := hF.below
        clear hF hby
        go_wp2
        go_ret
        exact ⟨w.heap.size, n, rfl, Nat.le_refl _, Nat.le_refl _, hR.out, hB⟩
end Go.Proofs.Ytclegljalndaear

