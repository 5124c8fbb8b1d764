/-
  Together: NumRead, Parts, GetFixWalks, PartPlain, KeyPlain, GotRet, PutBytes, FlipWalks, GetVarImpl, Conv, EscOwn, GetEscImpl, ValEq
-/
import Derived.Test.YtclegljalndaeacPack1
import Derived.WalkSpells
import Derived.Laws.BytesArg
import Derived.Laws.StructEq
/-
  The program's numberOf and the model's l4Read: bytes as a number, the highest first.
-/
namespace Go.Proofs.Ytclegljalndaeac
open Go.RowKit
set_option maxRecDepth 4000

theorem or_low (x y : Int) (h0 : 0 ≤ x) (h1 : x < 36028797018963968) (h2 : 0 ≤ y) (h3 : y ≤ 255) : bits .or .i64 (x * 256) y = x * 256 + y := by
  have e : bits .or .i64 (x * 256) y = bits .or .i64 y (x * 256) := by
    show IntKind.i64.wrap ((BitVec.ofInt 64 (x * 256) ||| BitVec.ofInt 64 y).toNat : Nat) = IntKind.i64.wrap ((BitVec.ofInt 64 y ||| BitVec.ofInt 64 (x * 256)).toNat : Nat)
    rw [BitVec.or_comm]
  rw [e, i64_or_add 8 y (x * 256) h2 (by show _ < (256 : Int); omega) (by omega) (by show _ % (256 : Int) = 0; omega) (by omega) (by decide)]
  omega

theorem valF_step (k : Nat) (f : Nat → Int) : valF (k + 1) f = valF k f * 256 + f k := rfl
/-- As many bytes as there may be are a number that an int has. -/
theorem valF_lim (k : Nat) (f : Nat → Int) (hk : k ≤ 6) (h : ∀ i, i < k → 0 ≤ f i ∧ f i ≤ 255) : 0 ≤ valF k f ∧ valF k f < 281474976710656 := by
  have h1 := valF_bd k f h
  have h2 : (256 : Int) ^ k ≤ 256 ^ 6 := pow_mono hk
  have e : (256 : Int) ^ 6 = 281474976710656 := by decide
  omega

set_option maxHeartbeats 1000000 in
theorem numberOf_any (ao : Option Addr) (k c : Nat) (f : Nat → Int) (w : World) (hv : View w ao k c f) (hk : k ≤ 7) :
    Calls Try.prog 122 #[.slice ao k c] w fun e w' => e = .returned (.int .i64 (valF k f)) ∧ w = w' := by
  go_enter Try.func122, Try.ntmps122
  go_wp2
  go_loopg [3, 8] k (fun q s i wr => w = wr ∧ ∃ j : Nat, j ≤ k ∧ q = k - j ∧ s = .int .i64 (valF j f) ∧ i = .int .i64 j)
  case atStart => exact ⟨rfl, 0, Nat.zero_le _, rfl, rfl, rfl⟩
  case round =>
    obtain ⟨rfl, j, hj, rfl, rfl, rfl⟩ := hrel
    by_cases hlt : j < k
    · have hb := hv.byte j hlt
      obtain ⟨b, off, rfl, hbl, hc⟩ := hv.cells (by omega)
      have hcj := hc j hlt
      have hl := valF_lim j f (by omega) (fun i hi => hv.byte i (by omega))
      have HE : Hid (valF (j + 1) f = valF j f * 256 + f j) := rfl
      have hq := or_low (valF j f) (f j) hl.1 (by omega) hb.1 hb.2
      have hjz : (j : Int) < (k : Int) := by omega
      clear hc hv
      generalize valF j f = x at *
      go_wp2
      go_roundg (k - (j + 1))
      case measure => omega
      case rel => exact ⟨rfl, j + 1, by omega, rfl, by rw [HE.out], by go_num⟩
    · obtain rfl : j = k := by omega
      clear hv
      go_wp2
      go_ret
      exact ⟨rfl, rfl⟩

set_option maxHeartbeats 1000000 in
theorem l4Read_any (ao : Option Addr) (n c : Nat) (f : Nat → Int) (p k : Nat) (t : Bool) (w : World) (hv : View w ao n c f) (hn : n ≤ 281474976710656) (hk : k ≤ 7) (hp : p + k ≤ n) :
    Calls Try.prog 114 #[.slice ao n c, .int .i64 (p : Int), .int .i64 (k : Int), .bool t] w fun e w' => e = .returned (.tuple #[.int .i64 (valF k (turnF t (fun i => f (p + i)))), .bool true]) ∧ w = w' := by
  have hpz : (p : Int) + (k : Int) ≤ (n : Int) := by omega
  have q1 : decide ((p : Int) < 0) = false := by simp
  have q2 : decide (n < p) = false := by simp; omega
  have q3 : decide ((n : Int) - (p : Int) < (k : Int)) = false := by simp; omega
  go_enter Try.func114, Try.ntmps114
  go_wp2
  go_loopg [10, 11] k (fun q s i wr => w = wr ∧ ∃ j : Nat, j ≤ k ∧ q = k - j ∧ s = .int .i64 (valF j (turnF t (fun i => f (p + i)))) ∧ i = .int .i64 j)
  case atStart => exact ⟨rfl, 0, Nat.zero_le _, rfl, rfl, rfl⟩
  case round =>
    obtain ⟨rfl, j, hj, rfl, rfl, rfl⟩ := hrel
    by_cases hlt : j < k
    · have hb := hv.byte (p + j) (by omega)
      obtain ⟨b, off, rfl, hbl, hc⟩ := hv.cells (by omega)
      have hcj := hc (p + j) (by omega)
      have hl := valF_lim j (turnF t (fun i => f (p + i))) (by omega) (turnF_bd t (fun i hi => hv.byte (p + i) (by omega)))
      have hjz : (j : Int) < (k : Int) := by omega
      have HE : Hid (valF (j + 1) (turnF t (fun i => f (p + i))) = valF j (turnF t (fun i => f (p + i))) * 256 + turnF t (fun i => f (p + i)) j) := rfl
      clear hc hv
      cases t
      · have hq := or_low (valF j (turnF false (fun i => f (p + i)))) (f (p + j)) hl.1 (by omega) hb.1 hb.2
        have HT : Hid (turnF false (fun i => f (p + i)) j = f (p + j)) := rfl
        rw [HT.out] at HE
        generalize valF j (turnF false (fun i => f (p + i))) = x at *
        go_wp2
        go_roundg (k - (j + 1))
        case measure => omega
        case rel => exact ⟨rfl, j + 1, by omega, rfl, by rw [HE.out], by go_num⟩
      · have hx : bits .xor .u8 IntKind.u8.max (f (p + j)) = 255 - f (p + j) := u8_not _ hb.1 hb.2
        have HT : Hid (turnF true (fun i => f (p + i)) j = 255 - f (p + j)) := rfl
        have hyb : 0 ≤ 255 - f (p + j) ∧ 255 - f (p + j) ≤ 255 := by omega
        rw [HT.out] at HE
        generalize 255 - f (p + j) = y at *
        obtain ⟨hy0, hy1⟩ := hyb
        have hq := or_low (valF j (turnF true (fun i => f (p + i)))) y hl.1 (by omega) hy0 hy1
        generalize valF j (turnF true (fun i => f (p + i))) = x at *
        go_wp2
        go_roundg (k - (j + 1))
        case measure => omega
        case rel => exact ⟨rfl, j + 1, by omega, rfl, by rw [HE.out, show wrap64 y = y by unfold wrap64; omega, hq], by go_num⟩
    · obtain rfl : j = k := by omega
      clear hv
      go_wp2
      go_ret2
      exact ⟨rfl, rfl⟩

set_option maxHeartbeats 1000000 in
theorem l4Read_no (ao : Option Addr) (n c : Nat) (p k : Int) (t : Bool) (w : World) (hp1 : p ≤ 9223372036854775807) (hk : 0 ≤ k) (hk7 : k ≤ 7) (hp : p < 0 ∨ (n : Int) - p < k) :
    Calls Try.prog 114 #[.slice ao n c, .int .i64 p, .int .i64 k, .bool t] w fun e w' => e = .returned (.tuple #[.int .i64 0, .bool false]) ∧ w = w' := by
  go_enter Try.func114, Try.ntmps114
  by_cases h1 : p < 0
  · clear hp
    go_wp2
    go_ret2
    exact ⟨rfl, rfl⟩
  · have h2 : (n : Int) - p < k := by omega
    clear hp
    by_cases h3 : (n : Int) < p
    · go_wp2
      go_ret2
      exact ⟨rfl, rfl⟩
    · go_wp2
      go_ret2
      exact ⟨rfl, rfl⟩
end Go.Proofs.Ytclegljalndaeac

/-
  A part of a slice of bytes that reads.
-/
namespace Go.Proofs.Ytclegljalndaeac
open Go.RowKit
set_option maxRecDepth 4000

theorem View.part {w : World} {b off n cap m k : Nat} {f : Nat → Int} (h : View w (some ⟨b, off, none⟩) n cap f) (hm : k + m ≤ n) (c : Nat) (hc : m ≤ c) : View w (some ⟨b, off + k, none⟩) m c (fun i => f (k + i)) := by
  refine ⟨hc, fun i hi => h.byte (k + i) (by omega), fun h0 => ?_⟩
  obtain ⟨b', off', e, hb, hcl⟩ := h.cells (by omega)
  simp only [Option.some.injEq, Addr.mk.injEq, and_true] at e
  obtain ⟨rfl, rfl⟩ := e
  exact ⟨b, off + k, rfl, hb, fun i hi => by have := hcl (k + i) (by omega); rw [← Nat.add_assoc] at this; exact this⟩
end Go.Proofs.Ytclegljalndaeac

/-
  GetFix, the program's and the model's: four bytes as a number, at every slice of bytes that reads and at every place.
-/
namespace Go.Proofs.Ytclegljalndaeac
open Go.RowKit
set_option maxRecDepth 4000

def getF (n : Nat) (f : Nat → Int) (p : Int) : Int × Int × Bool := if p < 0 ∨ (n : Int) - p < 4 then (0, 0, false) else (valF 4 (fun i => f (p.toNat + i)) - 2147483648, p + 4, true)
theorem getF_no (n : Nat) (f : Nat → Int) (p : Int) (h : p < 0 ∨ (n : Int) - p < 4) : getF n f p = (0, 0, false) := by unfold getF; rw [if_pos h]
theorem getF_is (n : Nat) (f : Nat → Int) (p : Nat) (h : p + 4 ≤ n) : getF n f (p : Int) = (valF 4 (fun i => f (p + i)) - 2147483648, (p : Int) + 4, true) := by
  unfold getF; rw [if_neg (by omega), Int.toNat_natCast]
theorem valF4_bd (f : Nat → Int) (h : ∀ i, i < 4 → 0 ≤ f i ∧ f i ≤ 255) : 0 ≤ valF 4 f ∧ valF 4 f ≤ 4294967295 := by
  have h1 := valF_bd 4 f h
  have e : (256 : Int) ^ 4 = 4294967296 := by decide
  omega

set_option maxHeartbeats 1000000 in
theorem getFix_impl {a q : Int} {ok : Bool} (b off n cap : Nat) (f : Nat → Int) (p : Int) (w : World) (hg : Hid (getF n f p = (a, q, ok))) (hv : View w (some ⟨b, off, none⟩) n cap f) (hn : n ≤ 281474976710656) (hp1 : p ≤ 9223372036854775807) :
    Calls Try.prog 109 #[.slice (some ⟨b, off, none⟩) n cap, .int .i64 p] w fun e w' => e = .returned (.tuple #[.int .i64 a, .int .i64 q, .bool ok]) ∧ w = w' := by
  by_cases hp : p < 0
  · have e := hg.out
    rw [getF_no n f p (Or.inl hp)] at e
    obtain ⟨rfl, rfl, rfl⟩ : 0 = a ∧ 0 = q ∧ false = ok := by simpa using e
    clear hg e
    go_enter Try.func109, Try.ntmps109
    go_wp2
    go_ret3
    exact ⟨rfl, rfl⟩
  by_cases h4 : (n : Int) - p < 4
  · have e := hg.out
    rw [getF_no n f p (Or.inr h4)] at e
    obtain ⟨rfl, rfl, rfl⟩ : 0 = a ∧ 0 = q ∧ false = ok := by simpa using e
    clear hg e
    go_enter Try.func109, Try.ntmps109
    go_wp2
    go_ret3
    exact ⟨rfl, rfl⟩
  obtain ⟨i, rfl⟩ := Int.eq_ofNat_of_zero_le (Int.not_lt.1 hp)
  have e := hg.out
  rw [getF_is n f i (by omega)] at e
  simp only [Prod.mk.injEq] at e
  obtain ⟨ea, rfl, rfl⟩ := e
  have hle := hv.le
  have hV := hv.part (k := i) (m := 4) (by omega) 4 (by omega)
  have hbd := valF4_bd (fun j => f (i + j)) hV.byte
  have hz1 : (i : Int) + 4 ≤ (n : Int) := by omega
  have hz2 : (i : Int) + 4 ≤ (cap : Int) := by omega
  clear hg hv
  go_enter Try.func109, Try.ntmps109
  go_wp2_with fail
  refine (numberOf_any _ 4 4 _ w hV (by omega)).mono ?_
  rintro e _ ⟨rfl, rfl⟩
  clear hV
  generalize valF 4 (fun j => f (i + j)) = x at *
  subst ea
  go_wp2
  go_ret3
  exact ⟨rfl, rfl⟩

set_option maxHeartbeats 1000000 in
theorem getFix_spec {a q : Int} {ok : Bool} (b off n cap : Nat) (f : Nat → Int) (p : Int) (w : World) (hg : Hid (getF n f p = (a, q, ok))) (hv : View w (some ⟨b, off, none⟩) n cap f) (hn : n ≤ 281474976710656) (hp1 : p ≤ 9223372036854775807) :
    Calls Try.prog 89 #[.slice (some ⟨b, off, none⟩) n cap, .int .i64 p] w fun e w' => e = .returned (.tuple #[.int .i64 a, .int .i64 q, .bool ok]) ∧ w = w' := by
  by_cases h4 : p < 0 ∨ (n : Int) - p < 4
  · have e := hg.out
    rw [getF_no n f p h4] at e
    obtain ⟨rfl, rfl, rfl⟩ : 0 = a ∧ 0 = q ∧ false = ok := by simpa using e
    clear hg e
    go_enter Try.func89, Try.ntmps89
    go_wp2_with fail
    refine (l4Read_no _ n cap p 4 false w hp1 (by omega) (by omega) h4).mono ?_
    rintro e _ ⟨rfl, rfl⟩
    go_wp2
    go_ret3
    exact ⟨rfl, rfl⟩
  obtain ⟨i, rfl⟩ := Int.eq_ofNat_of_zero_le (a := p) (by omega)
  have e := hg.out
  rw [getF_is n f i (by omega)] at e
  simp only [Prod.mk.injEq] at e
  obtain ⟨ea, rfl, rfl⟩ := e
  have hbd := valF4_bd (turnF false (fun j => f (i + j))) (turnF_bd false (fun j hj => hv.byte (i + j) (by omega)))
  have hz1 : (i : Int) + 4 ≤ (n : Int) := by omega
  have ht : valF 4 (turnF false (fun j => f (i + j))) = valF 4 (fun j => f (i + j)) := rfl
  clear hg h4
  go_enter Try.func89, Try.ntmps89
  go_wp2_with fail
  refine (l4Read_any _ n cap f i 4 false w hv hn (by omega) (by omega)).mono ?_
  rintro e _ ⟨rfl, rfl⟩
  rw [ht] at hbd ⊢
  clear hv ht
  generalize valF 4 (fun j => f (i + j)) = x at *
  subst ea
  go_wp2
  go_ret3
  exact ⟨rfl, rfl⟩
end Go.Proofs.Ytclegljalndaeac

/-
  One value in a key, plainly: which parts are right, what fits, its bytes, and what is read of bytes.
-/
namespace Go.Proofs.Ytclegljalndaeac
open Go.RowKit
set_option maxRecDepth 4000

def partOk (c t : Int) : Bool := decide (0 ≤ c) && decide (c ≤ 9) && (decide (1 ≤ t) && decide (t ≤ 4))
def fitsP (t : Int) (nul : Bool) (k n : Int) (s : ByteArray) : Bool := okF k n s && ((decide (k = t) && decide (k ≠ 0)) || (decide (k = 0) && nul))

/-- The bytes of a value that is there. -/
def valL (k n : Int) (s : ByteArray) : List Int := if k = 1 then fixL n else if k = 2 then varL n else if k = 3 then escL (sl s) ++ [0, 1] else [n % 256]
/-- The bytes of a value that fits. -/
def partL (nul : Bool) (k n : Int) (s : ByteArray) : List Int := if k = 0 then [0] else if nul then 1 :: valL k n s else valL k n s
def turnL (d : Bool) (l : List Int) : List Int := if d then l.map (fun y => 255 - y) else l
/-- What is put. -/
def putPL (c t : Int) (nul d : Bool) (k n : Int) (s : ByteArray) : List Int := if partOk c t && fitsP t nul k n s then turnL d (partL nul k n s) else []

/-- A value, a place and whether there is one. -/
structure Got where
  k : Int
  n : Int
  s : ByteArray
  q : Int
  ok : Bool
def Got.no : Got := ⟨0, 0, noBytes, 0, false⟩
def Got.chk (g : Got) : Got := if g.ok && okF g.k g.n g.s then g else .no

/-- A value of a type, as it is read. -/
def rawT (n : Nat) (f : Nat → Int) (t : Int) (p : Int) : Got :=
  if t = 1 then ⟨1, (getF n f p).1, noBytes, (getF n f p).2.1, (getF n f p).2.2⟩
  else if t = 2 then ⟨2, (getV n f p).1, noBytes, (getV n f p).2.1, (getV n f p).2.2⟩
  else if t = 3 then ⟨3, 0, (getE n f p).1, (getE n f p).2.1, (getE n f p).2.2⟩
  else if 0 ≤ p ∧ p < n then ⟨t, f p.toNat, noBytes, p + 1, true⟩ else ⟨t, 0, noBytes, 0, false⟩
def getT (n : Nat) (f : Nat → Int) (t : Int) (p : Int) : Got := (rawT n f t p).chk
/-- Behind a byte of 0 or 1, where it may be nothing. -/
def getN (n : Nat) (f : Nat → Int) (nul : Bool) (t : Int) (p : Int) : Got :=
  if nul then (if p = n ∨ 1 < f p.toNat then .no else if f p.toNat = 0 then ⟨0, 0, noBytes, p + 1, true⟩ else getT n f t (p + 1)) else getT n f t p
def turned (d : Bool) (f : Nat → Int) : Nat → Int := if d then fun i => 255 - f i else f
def getP (n : Nat) (f : Nat → Int) (c t : Int) (nul d : Bool) (p : Int) : Got :=
  if partOk c t = false ∨ p < 0 ∨ (n : Int) < p then .no else getN n (turned d f) nul t p

theorem okF_few {k n : Int} {s : ByteArray} (h : okF k n s = true) : s.size ≤ 30 := by
  obtain ⟨v, hr, rfl, rfl, rfl⟩ := okF_iff.1 h
  cases v with
  | text s => simpa [V.rng, V.s] using hr
  | _ => exact Nat.zero_le _
theorem valL_byte (k n : Int) (s : ByteArray) : ∀ y ∈ valL k n s, 0 ≤ y ∧ y ≤ 255 := by
  intro y hy
  unfold valL at hy
  split at hy
  · exact fixL_byte n y hy
  · split at hy
    · exact varL_byte n y hy
    · split at hy
      · rcases List.mem_append.1 hy with hy | hy
        · exact escL_byte _ (sl_byte s) y hy
        · simp at hy; omega
      · simp at hy; omega
theorem partL_byte (nul : Bool) (k n : Int) (s : ByteArray) : ∀ y ∈ partL nul k n s, 0 ≤ y ∧ y ≤ 255 := by
  intro y hy
  unfold partL at hy
  split at hy
  · simp at hy; omega
  · split at hy
    · rcases List.mem_cons.1 hy with rfl | hy
      · omega
      · exact valL_byte k n s y hy
    · exact valL_byte k n s y hy
theorem turnL_byte (d : Bool) (l : List Int) (h : ∀ y ∈ l, 0 ≤ y ∧ y ≤ 255) : ∀ y ∈ turnL d l, 0 ≤ y ∧ y ≤ 255 := by
  intro y hy
  unfold turnL at hy
  split at hy
  · obtain ⟨z, hz, rfl⟩ := List.mem_map.1 hy
    have := h z hz
    omega
  · exact h y hy
theorem turnL_len (d : Bool) (l : List Int) : (turnL d l).length = l.length := by unfold turnL; split <;> simp
theorem putPL_byte (c t : Int) (nul d : Bool) (k n : Int) (s : ByteArray) : ∀ y ∈ putPL c t nul d k n s, 0 ≤ y ∧ y ≤ 255 := by
  intro y hy
  unfold putPL at hy
  split at hy
  · exact turnL_byte d _ (partL_byte nul k n s) y hy
  · cases hy
theorem valL_len (k n : Int) (s : ByteArray) : 1 ≤ (valL k n s).length ∧ (valL k n s).length ≤ 2 * s.size + 8 := by
  unfold valL
  split
  · rw [fixL_len]; omega
  · split
    · have := varL_len n; omega
    · split
      · have := (escL_len (sl s)).2
        rw [sl_len] at this
        rw [List.length_append]
        simp
        omega
      · simp
theorem partL_len (nul : Bool) (k n : Int) (s : ByteArray) : 1 ≤ (partL nul k n s).length ∧ (partL nul k n s).length ≤ 2 * s.size + 9 := by
  have := valL_len k n s
  unfold partL
  split
  · simp
  · split
    · rw [List.length_cons]; omega
    · omega
theorem putPL_len (c t : Int) (nul d : Bool) (k n : Int) (s : ByteArray) : (putPL c t nul d k n s).length ≤ 2 * s.size + 9 := by
  have := partL_len nul k n s
  unfold putPL
  split
  · rw [turnL_len]; omega
  · simp
end Go.Proofs.Ytclegljalndaeac

/-
  Keys, plainly: which plans are right, what fits, the bytes of values one behind the other, and what is read of bytes.
-/
namespace Go.Proofs.Ytclegljalndaeac
open Go.RowKit
set_option maxRecDepth 4000

/-- A plan is right. -/
def planOk (n : Nat) (fc ft : Nat → Int) : Bool := (List.range n).all (fun i => partOk (fc i) (ft i)) && decide (n ≤ 6)
/-- Values fit. -/
def fitsAll (n m : Nat) (ft : Nat → Int) (fu : Nat → Bool) (fk fn : Nat → Int) (fs : Nat → ByteArray) : Bool := decide (m ≤ n) && (List.range m).all (fun i => fitsP (ft i) (fu i) (fk i) (fn i) (fs i))
theorem planOk_iff {n : Nat} {fc ft : Nat → Int} : planOk n fc ft = true ↔ (∀ i, i < n → partOk (fc i) (ft i) = true) ∧ n ≤ 6 := by
  unfold planOk; simp
theorem fitsAll_iff {n m : Nat} {ft : Nat → Int} {fu : Nat → Bool} {fk fn : Nat → Int} {fs : Nat → ByteArray} : fitsAll n m ft fu fk fn fs = true ↔ m ≤ n ∧ ∀ i, i < m → fitsP (ft i) (fu i) (fk i) (fn i) (fs i) = true := by
  unfold fitsAll; simp
/-- The first k of the lists, one behind the other. -/
def keyT (g : Nat → List Int) : Nat → List Int
  | 0 => []
  | k + 1 => keyT g k ++ g k
/-- The bytes of the value at a place of a plan. -/
def onePL (fc ft : Nat → Int) (fu fd : Nat → Bool) (fk fn : Nat → Int) (fs : Nat → ByteArray) (i : Nat) : List Int := putPL (fc i) (ft i) (fu i) (fd i) (fk i) (fn i) (fs i)
/-- The bytes of a key. -/
def keyL (n : Nat) (fc ft : Nat → Int) (fu fd : Nat → Bool) (m : Nat) (fk fn : Nat → Int) (fs : Nat → ByteArray) : List Int :=
  if planOk n fc ft && fitsAll n m ft fu fk fn fs then keyT (onePL fc ft fu fd fk fn fs) m else []

theorem keyT_congr {g h : Nat → List Int} : ∀ {k : Nat}, (∀ i, i < k → g i = h i) → keyT g k = keyT h k
  | 0, _ => rfl
  | k + 1, e => by rw [keyT, keyT, keyT_congr (fun i hi => e i (by omega)), e k (by omega)]
/-- What stands behind the first k. -/
theorem keyT_split (g : Nat → List Int) (k : Nat) : ∀ j, keyT g (k + j) = keyT g k ++ keyT (fun i => g (k + i)) j
  | 0 => by simp [keyT]
  | j + 1 => by rw [← Nat.add_assoc, keyT, keyT_split g k j, keyT, List.append_assoc]
theorem keyT_byte {g : Nat → List Int} : ∀ {k : Nat}, (∀ i, i < k → ∀ y ∈ g i, 0 ≤ y ∧ y ≤ 255) → ∀ y ∈ keyT g k, 0 ≤ y ∧ y ≤ 255
  | 0, _, y, hy => by simp [keyT] at hy
  | k + 1, h, y, hy => by
    rw [keyT] at hy
    rcases List.mem_append.1 hy with hy | hy
    · exact keyT_byte (fun i hi => h i (by omega)) y hy
    · exact h k (by omega) y hy
theorem keyL_byte (n : Nat) (fc ft : Nat → Int) (fu fd : Nat → Bool) (m : Nat) (fk fn : Nat → Int) (fs : Nat → ByteArray) : ∀ y ∈ keyL n fc ft fu fd m fk fn fs, 0 ≤ y ∧ y ≤ 255 := by
  intro y hy
  unfold keyL at hy
  split at hy
  · exact keyT_byte (fun i _ => putPL_byte _ _ _ _ _ _ _) y hy
  · cases hy
theorem onePL_len {ft : Nat → Int} {fu : Nat → Bool} {fk fn : Nat → Int} {fs : Nat → ByteArray} {i : Nat} (fc : Nat → Int) (fd : Nat → Bool) (h : fitsP (ft i) (fu i) (fk i) (fn i) (fs i) = true) : (onePL fc ft fu fd fk fn fs i).length ≤ 69 := by
  unfold onePL
  have h1 := putPL_len (fc i) (ft i) (fu i) (fd i) (fk i) (fn i) (fs i)
  have h2 : (fs i).size ≤ 30 := by unfold fitsP at h; simp only [Bool.and_eq_true] at h; exact okF_few h.1
  omega
theorem keyT_len {g : Nat → List Int} : ∀ {k : Nat}, (∀ i, i < k → (g i).length ≤ 69) → (keyT g k).length ≤ k * 69
  | 0, _ => by simp [keyT]
  | k + 1, h => by
    rw [keyT, List.length_append]
    have h1 := keyT_len (fun i hi => h i (by omega)) (k := k)
    have h2 := h k (by omega)
    omega
theorem keyL_len (n : Nat) (fc ft : Nat → Int) (fu fd : Nat → Bool) (m : Nat) (fk fn : Nat → Int) (fs : Nat → ByteArray) : (keyL n fc ft fu fd m fk fn fs).length ≤ 414 := by
  unfold keyL
  split
  · rename_i h
    simp only [Bool.and_eq_true] at h
    obtain ⟨h1, h2⟩ := h
    have hp := planOk_iff.1 h1
    have hf := fitsAll_iff.1 h2
    have := keyT_len (g := onePL fc ft fu fd fk fn fs) (k := m) (fun i hi => onePL_len fc fd (hf.2 i hi))
    omega
  · simp

section
variable (N : Nat) (F : Nat → Int) (fc ft : Nat → Int) (fu fd : Nat → Bool)
/-- The place behind the first k values, as they are read. -/
def decQ : Nat → Option Int
  | 0 => some 0
  | k + 1 => (decQ k).bind (fun p => if (getP N F (fc k) (ft k) (fu k) (fd k) p).ok then some (getP N F (fc k) (ft k) (fu k) (fd k) p).q else none)
/-- The value that is read at a place of a plan. -/
def decG (k : Nat) : Got := getP N F (fc k) (ft k) (fu k) (fd k) ((decQ N F fc ft fu fd k).getD 0)
/-- Whether the bytes are a key of the plan. -/
def decOk (n : Nat) : Bool := planOk n fc ft && decide (decQ N F fc ft fu fd n = some (N : Int))
end
theorem decQ_succ {N : Nat} {F : Nat → Int} {fc ft : Nat → Int} {fu fd : Nat → Bool} {k : Nat} {q : Int} (h : decQ N F fc ft fu fd (k + 1) = some q) : ∃ p, decQ N F fc ft fu fd k = some p ∧ (getP N F (fc k) (ft k) (fu k) (fd k) p).ok = true ∧ (getP N F (fc k) (ft k) (fu k) (fd k) p).q = q := by
  rw [decQ] at h
  obtain ⟨p, h1, h2⟩ := Option.bind_eq_some_iff.1 h
  by_cases e : (getP N F (fc k) (ft k) (fu k) (fd k) p).ok = true
  · rw [if_pos e] at h2
    exact ⟨p, h1, e, Option.some.inj h2⟩
  · rw [if_neg e] at h2; cases h2
end Go.Proofs.Ytclegljalndaeac

/-
  A value, a place and a word, as they are handed back.
-/
namespace Go.Proofs.Ytclegljalndaeac
open Go.RowKit
set_option maxRecDepth 4000

def gotRet (g : Got) : Ending := .returned (.tuple #[.agg #[.int .i64 g.k, .int .i64 g.n, .string g.s], .int .i64 g.q, .bool g.ok])
end Go.Proofs.Ytclegljalndaeac

/-
  The program's putBytes: both slices of bytes, one behind the other, in one new row that holds just them.
-/
namespace Go.Proofs.Ytclegljalndaeac
open Go.RowKit
set_option maxRecDepth 4000

theorem cells_of_any {w : World} {ao : Option Addr} {n cap : Nat} {f : Nat → Int} (h : View w ao n cap f) : ∀ ad, ao = some ad → ∀ j u, (bl (lof n f))[j]? = some u → w.cell? (ad.add j) = some u := by
  rintro ad rfl j u hu
  have hj : j < n := by
    by_cases hj : j < n
    · exact hj
    · rw [List.getElem?_eq_none (by rw [bl_len, lof_len]; omega)] at hu; cases hu
  obtain ⟨b', off', e, _, _⟩ := h.cells (by omega)
  simp only [Option.some.injEq] at e
  subst e
  exact cells_of_view h j u hu

theorem below_new {w w1 : World} (h : w.grownBy w1 none) : Below w.heap.size w w1 := (Below.refl _ _).grown h (Nat.le_refl _) (by intro k hk; cases hk)
theorem below_app {w w1 w2 : World} (h : w.grownBy w1 none) (h2 : w1.grownBy w2 (some w.heap.size)) : Below w.heap.size w w2 :=
  (below_new h).grown h2 h.size (by intro k hk; cases hk; exact Nat.le_refl _)

set_option maxHeartbeats 1000000 in
theorem putBytes_any (b off n cap : Nat) (f : Nat → Int) (ao : Option Addr) (m c : Nat) (g : Nat → Int) (w : World) (hv : View w (some ⟨b, off, none⟩) n cap f) (hg : View w ao m c g) (hno : ao = none → m = 0 ∧ c = 0) (hn : n + m ≤ 70368744177664) :
    Calls Try.prog 57 #[.slice (some ⟨b, off, none⟩) n cap, .slice ao m c] w fun e w' => e = .returned (.slice (some ⟨w.heap.size, 0, none⟩) (n + m) (n + m)) ∧ w'.ownsRow w.heap.size 5 1 (.slice (some ⟨w.heap.size, 0, none⟩) (n + m) (n + m)) (n + m) (bl (lof n f ++ lof m g)) ∧ Below w.heap.size w w' := by
  obtain ⟨i0, hi, hz0, hz1, hz2⟩ := info_parts Try.info5
  go_enter Try.func57, Try.ntmps57
  go_wp2_with (first | (at_make; go_must (refine wpList_make_own _ rfl (.const (.int .i64 0)) (.tmp 10) 22 rfl w.heap.size 5 i0 (.int .u8 0) 1 Try.underlying22 hi hz0 hz1 .i64 .i64 ((n : Int) + (m : Int)) (n + m) rfl rfl (by omega) (by rw [hz2]; omega) (by unfold maxLen; omega) (Nat.le_refl _) ?_); intro w1 hown1 hgr1) | (at_builtin; refine wpList_append_fits_any _ rfl (.tmp 12) (.tmp 13) 22 rfl w.heap.size 5 i0 1 Try.underlying22 hi hz1 w.heap.size 0 (n + m) [] rfl hown1 (some ⟨b, off, none⟩) n cap (bl (lof n f)) rfl (by rw [bl_len, lof_len]; omega) (by intro h; cases h) (cells_of_any (hv.below (below_new hgr1))) (bl_one _) (by omega) ?_; intro w2 hown2 hgr2; simp only [Nat.zero_add, List.nil_append] at hown2) | (at_builtin; refine wpList_append_fits_any _ rfl (.tmp 15) (.tmp 16) 22 rfl w.heap.size 5 i0 1 Try.underlying22 hi hz1 w.heap.size n (n + m) (bl (lof n f)) rfl hown2 ao m c (bl (lof m g)) rfl (by rw [bl_len, lof_len]; omega) hno (cells_of_any (hg.below (below_app hgr1 hgr2))) (bl_one _) (by omega) ?_; intro w3 hown3 hgr3))
  go_ret
  exact ⟨rfl, by rw [bl_append]; exact hown3, (below_app hgr1 hgr2).grown hgr3 (Nat.le_trans hgr1.size hgr2.size) (by intro k hk; cases hk; exact Nat.le_refl _)⟩
end Go.Proofs.Ytclegljalndaeac

/-
  Flip, the program's and the model's: from the place on all bits of the bytes turned, in memory of its own.
-/
namespace Go.Proofs.Ytclegljalndaeac
open Go.RowKit
set_option maxRecDepth 4000

/-- The bytes of f, from p on turned. -/
def flipF (f : Nat → Int) (p : Int) (i : Nat) : Int := if p ≤ i then 255 - f i else f i
theorem flipF_byte {n : Nat} {f : Nat → Int} (p : Int) (h : ∀ i, i < n → 0 ≤ f i ∧ f i ≤ 255) : ∀ i, i < n → 0 ≤ flipF f p i ∧ flipF f p i ≤ 255 := by
  intro i hi
  have := h i hi
  unfold flipF
  split <;> omega

/-- k of the n bytes are turned, as far as they are to be. -/
structure Flipped (t : TypeId) (w wr : World) (g n : Nat) (f : Nat → Int) (p : Int) (k : Nat) : Prop where
  row : Row t wr g n (fun i => if i < k then flipF f p i else f i)
  below : Below w.heap.size w wr

theorem flipped_turn {t : TypeId} {w wr : World} {g n : Nat} {f : Nat → Int} {p : Int} {k : Nat} (h : Flipped t w wr g n f p k) (hg : w.heap.size ≤ g) (hp : p ≤ k) : Flipped t w (wr.setCell ⟨g, k, none⟩ (.int .u8 (255 - f k))) g n f p (k + 1) := by
  refine ⟨(h.row.set k _).congr (fun i _ => ?_), h.below.setCell hg _⟩
  by_cases e : i = k
  · subst e; simp [flipF, hp]
  · rw [if_neg e]
    by_cases hlt : i < k
    · rw [if_pos hlt, if_pos (by omega)]
    · rw [if_neg hlt, if_neg (by omega)]
theorem flipped_keep {t : TypeId} {w wr : World} {g n : Nat} {f : Nat → Int} {p : Int} {k : Nat} (h : Flipped t w wr g n f p k) (hp : ¬ p ≤ k) : Flipped t w wr g n f p (k + 1) := by
  refine ⟨h.row.congr (fun i _ => ?_), h.below⟩
  by_cases e : i = k
  · subst e; simp [flipF, hp]
  · by_cases hlt : i < k
    · rw [if_pos hlt, if_pos (by omega)]
    · rw [if_neg hlt, if_neg (by omega)]

set_option maxHeartbeats 1000000 in
theorem flip_spec (b off n cap : Nat) (f : Nat → Int) (p : Int) (w : World) (hv : View w (some ⟨b, off, none⟩) n cap f) (hn : n ≤ 70368744177664) :
    Calls Try.prog 51 #[.slice (some ⟨b, off, none⟩) n cap, .int .i64 p] w fun e w' => ∃ g c, e = .returned (.slice (some ⟨g, 0, none⟩) n c) ∧ w.heap.size ≤ g ∧ n ≤ c ∧ Row 5 w' g n (flipF f p) ∧ Below w.heap.size w w' := by
  obtain ⟨i0, hi, hz0, hz1, hz2⟩ := info_parts Try.info5
  have hown0 := World.ownsRow_lit (base := w.heap.size) (e := 5) (size := 1) w #[] 0 (Nat.le_refl _) (Nat.zero_le _) rfl
  have hb0 : Below w.heap.size w (w.alloc (.cells #[] 5)) := (Below.refl _ _).alloc (Nat.le_refl _) _
  have hcl := cells_of_view (hv.below hb0)
  have hsz : (w.alloc (.cells #[] 5)).heap.size = w.heap.size + 1 := by simp
  have hby := hv.byte
  go_enter Try.func51, Try.ntmps51
  go_wp2_with (at_builtin; go_must (refine wpList_append_own _ rfl (.tmp 7) (.tmp 8) 22 rfl w.heap.size 5 i0 (.int .u8 0) 1 1 Try.underlying22 hi hz0 hz1 hz2 rfl (by decide) (.slice (some ⟨w.heap.size, 0, none⟩) 0 0) 0 [] rfl hown0 ⟨b, off, none⟩ n cap (bl (lof n f)) rfl (by rw [bl_len, lof_len]; omega) hcl (bl_one _) (by unfold maxLen; omega) (by omega) (by rw [hsz]; omega) ?_); intro v1 w1 hown1 hgr1 hnil; simp only [Nat.zero_add, List.nil_append] at hown1; obtain ⟨g, c, rfl, hg, hgc, hrow⟩ := row_of_own' hown1 (by intro h; have := (hnil.1 h).1; cases this))
  have hb1 : Below w.heap.size w w1 := hb0.grown hgr1 (by simp) (fun k hk => by simp only [Value.ownBlock, Option.some.injEq] at hk; omega)
  have hF0 : Flipped 5 w w1 g n f p 0 := ⟨hrow.congr (fun i hi => by rw [lof_get n f i hi]; simp), hb1⟩
  clear hown0 hcl hsz hgr1 hb0 hv hown1 hnil hrow hb1
  go_loopg [6] n (fun q i wr => ∃ k : Nat, k ≤ n ∧ q = n - k ∧ i = .int .i64 k ∧ Flipped 5 w wr g n f p k)
  case atStart => exact ⟨0, Nat.zero_le _, rfl, rfl, hF0⟩
  case round =>
    obtain ⟨k, hk, rfl, rfl, hF⟩ := hrel
    clear hF0
    by_cases hlt : k < n
    · have hkz : (k : Int) < (n : Int) := by omega
      by_cases hp : p ≤ (k : Int)
      · have hS : Hid (Flipped 5 w (wr.setCell ⟨g, k, none⟩ (.int .u8 (255 - f k))) g n f p (k + 1)) := flipped_turn hF hg hp
        have hc : wr.cell? ⟨g, k, none⟩ = some (.int .u8 (f k)) := by rw [hF.row.cell hlt, if_neg (Nat.lt_irrefl _)]
        have hf := hF.row.frozen k
        have hx : bits .xor .u8 IntKind.u8.max (f k) = 255 - f k := u8_not _ (hby k hlt).1 (hby k hlt).2
        clear hF hby
        go_wp2
        go_roundg (n - (k + 1))
        case measure => omega
        case rel => exact ⟨k + 1, by omega, rfl, by go_num, hS.out⟩
      · have hS : Hid (Flipped 5 w wr g n f p (k + 1)) := flipped_keep hF hp
        clear hF hby
        go_wp2
        go_roundg (n - (k + 1))
        case measure => omega
        case rel => exact ⟨k + 1, by omega, rfl, by go_num, hS.out⟩
    · obtain rfl : k = n := by omega
      have hR : Hid (Row 5 wr g k (flipF f p)) := hF.row.congr (fun i hi => by rw [if_pos hi])
      have hB := hF.below
      clear hF hby
      go_wp2
      go_ret
      exact ⟨g, c, rfl, hg, hgc, hR.out, hB⟩

set_option maxHeartbeats 1000000 in
theorem flip_impl (b off n cap : Nat) (f : Nat → Int) (p : Int) (w : World) (hv : View w (some ⟨b, off, none⟩) n cap f) (hn : n ≤ 70368744177664) (hp1 : p ≤ 9223372036854775807) :
    Calls Try.prog 47 #[.slice (some ⟨b, off, none⟩) n cap, .int .i64 p] w fun e w' => ∃ g c, e = .returned (.slice (some ⟨g, 0, none⟩) n c) ∧ w.heap.size ≤ g ∧ n ≤ c ∧ Row 5 w' g n (flipF f p) ∧ Below w.heap.size w w' := by
  have hby := hv.byte
  go_enter Try.func47, Try.ntmps47
  go_wp2_with fail
  refine (putBytes_any b off n cap f none 0 0 (fun _ => 0) w hv ⟨Nat.le_refl _, fun i hi => absurd hi (Nat.not_lt_zero _), fun h => absurd h (Nat.lt_irrefl _)⟩ (fun _ => ⟨rfl, rfl⟩) (by omega)).mono ?_
  rintro e w1 ⟨rfl, hown, hb1⟩
  rw [Nat.add_zero] at hown ⊢
  have hrow := row_of_owned hown
  have hR0 : Row 5 w1 w.heap.size n f := hrow.congr (fun i hi => by rw [show lof 0 (fun _ => (0 : Int)) = [] from rfl, List.append_nil, lof_get n f i hi])
  have HF : ∀ m : Nat, (∀ i : Nat, i < m → ¬ p ≤ i) → Flipped 5 w w1 w.heap.size n f p m := by
    intro m hm
    refine ⟨hR0.congr (fun i hi => ?_), hb1⟩
    by_cases e : i < m
    · rw [if_pos e, flipF, if_neg (hm i e)]
    · rw [if_neg e]
  have hF0 : Hid (p < 0 → Flipped 5 w w1 w.heap.size n f p 0) := fun _ => HF 0 (fun i hi => absurd hi (Nat.not_lt_zero _))
  have hF1 : Hid (0 ≤ p → Flipped 5 w w1 w.heap.size n f p p.toNat) := fun _ => HF p.toNat (fun i hi => by omega)
  clear hown hrow hR0 HF hv hb1
  go_wp2
  all_goals
    go_loopg [6] (n - p.toNat) (fun q i wr => ∃ k : Nat, q = n - k ∧ i = .int .i64 k ∧ (k : Int) ≤ 9223372036854775807 ∧ p ≤ k ∧ Flipped 5 w wr w.heap.size n f p k)
    case atStart => first | exact ⟨0, by omega, rfl, by omega, by omega, hF0.out (by omega)⟩ | exact ⟨p.toNat, rfl, congrArg (Value.int .i64) (by omega), by omega, by omega, hF1.out (by omega)⟩
    case round =>
      obtain ⟨k, rfl, rfl, hk63, hpk, hF⟩ := hrel
      clear hF0 hF1
      by_cases hlt : k < n
      · have hkz : (k : Int) < (n : Int) := by omega
        have hS : Hid (Flipped 5 w (wr.setCell ⟨w.heap.size, k, none⟩ (.int .u8 (255 - f k))) w.heap.size n f p (k + 1)) := flipped_turn hF (Nat.le_refl _) hpk
        have hc : wr.cell? ⟨w.heap.size, k, none⟩ = some (.int .u8 (f k)) := by rw [hF.row.cell hlt, if_neg (Nat.lt_irrefl _)]
        have hf := hF.row.frozen k
        have hx : bits .xor .u8 IntKind.u8.max (f k) = 255 - f k := u8_not _ (hby k hlt).1 (hby k hlt).2
        clear hF hby
        go_wp2
        go_roundg (n - (k + 1))
        case measure => omega
        case rel => exact ⟨k + 1, rfl, by go_num, by omega, by omega, hS.out⟩
      · have hkz : (n : Int) ≤ (k : Int) := by omega
        have hR : Hid (Row 5 wr w.heap.size n (flipF f p)) := hF.row.congr (fun i hi => by rw [if_pos (by omega)])
        have hB := hF.below
        clear hF hby
        go_wp2
        go_ret
        exact ⟨w.heap.size, n, rfl, Nat.le_refl _, Nat.le_refl _, hR.out, hB⟩
end Go.Proofs.Ytclegljalndaeac

/-
  The program's GetVar: a number of the kept ones, at every slice of bytes that reads and at every place.
-/
namespace Go.Proofs.Ytclegljalndaeac
open Go.RowKit
set_option maxRecDepth 4000

set_option maxHeartbeats 1000000 in
theorem varCount_any (h : Int) (w : World) (h0 : 0 ≤ h) (h1 : h ≤ 255) :
    Calls Try.prog 124 #[.int .u8 h] w fun e w' => e = .returned (.int .i64 (hcnt h : Int)) ∧ w = w' := by
  by_cases hl : h < 128
  · have e : (hcnt h : Int) = 127 - h := by unfold hcnt; rw [if_pos hl]; omega
    rw [e]
    have hx : bits .xor .u8 IntKind.u8.max h = 255 - h := u8_not _ h0 h1
    obtain ⟨y, hy⟩ : ∃ y, 255 - h = y := ⟨_, rfl⟩
    have hy0 : 0 ≤ y := by omega
    have hy1 : y ≤ 255 := by omega
    rw [show 127 - h = y - 128 by omega]
    rw [hy] at hx
    clear hy e
    go_enter Try.func124, Try.ntmps124
    go_wp2
    go_ret
    refine ⟨?_, rfl⟩
    show Ending.returned (.int .i64 (wrap64 (wrap64 y - 128))) = _
    rw [show wrap64 (wrap64 y - 128) = y - 128 by unfold wrap64; omega]
  · have e : (hcnt h : Int) = h - 128 := by unfold hcnt; rw [if_neg hl]; omega
    rw [e]
    go_enter Try.func124, Try.ntmps124
    go_wp2
    go_ret
    exact ⟨rfl, rfl⟩

theorem view_first {w : World} {b off n cap : Nat} {f : Nat → Int} (h : View w (some ⟨b, off, none⟩) n cap f) (h0 : 0 < n) : w.cell? ⟨b, off, none⟩ = some (.int .u8 (f 0)) := by
  obtain ⟨b', off', e, _, hc⟩ := h.cells h0
  cases e
  exact hc 0 h0

set_option maxHeartbeats 1000000 in
theorem getVar_impl {a q : Int} {ok : Bool} (b off n cap : Nat) (f : Nat → Int) (p : Int) (w : World) (hg : Hid (getV n f p = (a, q, ok))) (hv : View w (some ⟨b, off, none⟩) n cap f) (hn : n ≤ 70368744177664) (hp1 : p ≤ 9223372036854775807) :
    Calls Try.prog 111 #[.slice (some ⟨b, off, none⟩) n cap, .int .i64 p] w fun e w' => e = .returned (.tuple #[.int .i64 a, .int .i64 q, .bool ok]) ∧ Below w.heap.size w w' := by
  by_cases hp : p < 0
  · have e := hg.out
    rw [getV_out n f p (Or.inl hp)] at e
    obtain ⟨rfl, rfl, rfl⟩ : 0 = a ∧ 0 = q ∧ false = ok := by simpa using e
    clear hg e
    go_enter Try.func111, Try.ntmps111
    go_wp2
    go_ret3
    exact ⟨rfl, Below.refl _ _⟩
  by_cases h4 : (n : Int) ≤ p
  · have e := hg.out
    rw [getV_out n f p (Or.inr h4)] at e
    obtain ⟨rfl, rfl, rfl⟩ : 0 = a ∧ 0 = q ∧ false = ok := by simpa using e
    clear hg e
    go_enter Try.func111, Try.ntmps111
    go_wp2
    go_ret3
    exact ⟨rfl, Below.refl _ _⟩
  obtain ⟨i, rfl⟩ := Int.eq_ofNat_of_zero_le (Int.not_lt.1 hp)
  have hin : i < n := by omega
  have hle := hv.le
  have hb0 := hv.byte i hin
  have hzi : (i : Int) < (n : Int) := by omega
  obtain ⟨b', off', e', hbl, hcs⟩ := hv.cells (by omega)
  cases e'
  have hci := hcs i hin
  clear hcs
  obtain ⟨c, hc⟩ : ∃ c, Hid (hcnt (f i) = c) := ⟨_, rfl⟩
  by_cases hf : 7 < c ∨ n < i + 1 + c
  · have e := hg.out
    rw [getV_few n f i hin (by rw [hc.out]; exact hf)] at e
    obtain ⟨rfl, rfl, rfl⟩ : 0 = a ∧ 0 = q ∧ false = ok := by simpa using e
    clear hg e
    go_enter Try.func111, Try.ntmps111
    go_wp2_with fail
    refine (varCount_any (f i) w hb0.1 hb0.2).mono ?_
    rw [hc.out]
    rintro e _ ⟨rfl, rfl⟩
    by_cases h7 : 7 < c
    · clear hf
      have hz : (7 : Int) < (c : Int) := by omega
      go_wp2
      go_ret3
      exact ⟨rfl, Below.refl _ _⟩
    · have hz : (c : Int) ≤ 7 := by omega
      have hz2 : (n : Int) - (i : Int) - 1 < (c : Int) := by omega
      clear hf
      go_wp2
      go_ret3
      exact ⟨rfl, Below.refl _ _⟩
  have hc7 : (c : Int) ≤ 7 := by omega
  have hzc : (c : Int) ≤ (n : Int) - (i : Int) - 1 := by omega
  have hzn : (i : Int) + 1 + (c : Int) ≤ (n : Int) := by omega
  have hzc2 : (i : Int) + 1 + (c : Int) ≤ (cap : Int) := by omega
  by_cases hlow : f i < 128
  · have HD : Hid (digF f i = turnF true (fun j => f (i + 1 + j))) := by show _ = _; unfold digF; rw [decide_eq_true hlow]
    go_enter Try.func111, Try.ntmps111
    go_wp2_with fail
    refine (varCount_any (f i) w hb0.1 hb0.2).mono ?_
    rw [hc.out]
    rintro e _ ⟨rfl, rfl⟩
    by_cases hc0 : c = 0
    · subst hc0
      have hV : View w (some ⟨b, off, none⟩) 0 0 (fun j => f (i + 1 + j)) := ⟨Nat.le_refl _, fun j hj => absurd hj (Nat.not_lt_zero _), fun h => absurd h (Nat.lt_irrefl _)⟩
      go_wp2_with fail
      refine (flip_impl b off 0 0 _ 0 w hV (by omega) (by omega)).mono ?_
      rintro e w1 ⟨g, cg, rfl, hgn, hgc, hr, hB⟩
      have hV1 := hr.view hgc (flipF_byte 0 hV.byte)
      replace hV1 : View w1 (some ⟨g, 0, none⟩) 0 cg (digF f i) := hV1.congr (fun j _ => by rw [HD.out]; unfold flipF; rw [if_pos (by omega)]; rfl)
      clear hr hV hgn
      go_wp2_with fail
      refine (numberOf_any _ 0 cg _ w1 hV1 (by omega)).mono ?_
      rintro e _ ⟨rfl, rfl⟩
      have hvb := valF7 0 (digF f i) (by omega) hV1.byte
      have hx : numV f i = -1 := by unfold numV; rw [if_pos hlow, hc.out]; rfl
      have hvz : valF 0 (digF f i) = 0 := rfl
      clear hV1 hvb
      have hbad : ¬ badV f i := by unfold badV; rw [hx, hc.out]; omega
      have e := hg.out
      rw [getV_is n f i hin (by rw [hc.out]; exact hf) hbad, hc.out, hx] at e
      obtain ⟨rfl, rfl, rfl⟩ : -1 = a ∧ (i : Int) + 1 = q ∧ true = ok := by
        simp only [Prod.mk.injEq] at e
        exact ⟨e.1, by omega, e.2.2⟩
      clear hg e
      go_wp2
      go_ret3
      exact ⟨rfl, hB⟩
    ·
      have hV := hv.part (k := i + 1) (m := c) (by omega) c (Nat.le_refl _)
      go_wp2_with fail
      refine (flip_impl b (off + (i + 1)) c c _ 0 w hV (by omega) (by omega)).mono ?_
      rintro e w1 ⟨g, cg, rfl, hgn, hgc, hr, hB⟩
      have hV1 := hr.view hgc (flipF_byte 0 hV.byte)
      replace hV1 : View w1 (some ⟨g, 0, none⟩) c cg (digF f i) := hV1.congr (fun j _ => by rw [HD.out]; unfold flipF; rw [if_pos (by omega)]; rfl)
      clear hr hV hgn
      go_wp2_with fail
      refine (numberOf_any _ c cg _ w1 hV1 (by omega)).mono ?_
      rintro e _ ⟨rfl, rfl⟩
      have hvb := valF7 c (digF f i) (by omega) hV1.byte
      have hx : numV f i = -1 - valF c (digF f i) := by unfold numV; rw [if_pos hlow, hc.out]
      have hcd := view_first hV1 (by omega)
      have hdb := hV1.byte 0 (by omega)
      have hc0z : (0 : Int) < (c : Int) := by omega
      generalize valF c (digF f i) = v at *
      clear hV1
      by_cases hd0 : digF f i 0 = 0
      · have hbad : badV f i := by unfold badV; rw [hc.out]; exact Or.inl ⟨by omega, hd0⟩
        rw [hd0] at hcd
        have e := hg.out
        rw [getV_bad n f i hin (by rw [hc.out]; exact hf) hbad] at e
        obtain ⟨rfl, rfl, rfl⟩ : 0 = a ∧ 0 = q ∧ false = ok := by simpa using e
        clear hg e
        go_wp2
        go_ret3
        exact ⟨rfl, hB⟩
      · have hq0 : (digF f i 0 == 0) = false := by simpa using hd0
        by_cases hr : -1 - v < -1000000000000000 ∨ 1000000000000000 < -1 - v
        · have hbad : badV f i := by unfold badV; rw [hx]; exact Or.inr hr
          rcases hr with hr | hr
          · have e := hg.out
            rw [getV_bad n f i hin (by rw [hc.out]; exact hf) hbad] at e
            obtain ⟨rfl, rfl, rfl⟩ : 0 = a ∧ 0 = q ∧ false = ok := by simpa using e
            clear hg e
            go_wp2
            go_ret3
            exact ⟨rfl, hB⟩
          · omega
        · have hbad : ¬ badV f i := by unfold badV; rw [hx, hc.out]; omega
          have hr1 : -1000000000000000 ≤ -1 - v := by omega
          have hr2 : -1 - v ≤ 1000000000000000 := by omega
          clear hr
          have e := hg.out
          rw [getV_is n f i hin (by rw [hc.out]; exact hf) hbad, hc.out] at e
          simp only [Prod.mk.injEq] at e
          obtain ⟨ea, rfl, rfl⟩ := e
          rw [hx] at ea
          subst ea
          clear hg
          go_wp2
          go_ret3
          exact ⟨rfl, hB⟩
  · have HD : Hid (digF f i = turnF false (fun j => f (i + 1 + j))) := by show _ = _; unfold digF; rw [decide_eq_false hlow]
    go_enter Try.func111, Try.ntmps111
    go_wp2_with fail
    refine (varCount_any (f i) w hb0.1 hb0.2).mono ?_
    rw [hc.out]
    rintro e _ ⟨rfl, rfl⟩
    by_cases hc0 : c = 0
    · subst hc0
      have hV : View w (some ⟨b, off, none⟩) 0 0 (fun j => f (i + 1 + j)) := ⟨Nat.le_refl _, fun j hj => absurd hj (Nat.not_lt_zero _), fun h => absurd h (Nat.lt_irrefl _)⟩
      have hB : Below w.heap.size w w := Below.refl _ _
      have hV1 : View w (some ⟨b, off, none⟩) 0 0 (digF f i) := hV.congr (fun j _ => by rw [HD.out]; rfl)
      clear hV
      go_wp2_with fail
      refine (numberOf_any _ 0 0 _ w hV1 (by omega)).mono ?_
      rintro e _ ⟨rfl, rfl⟩
      have hvb := valF7 0 (digF f i) (by omega) hV1.byte
      have hx : numV f i = 0 := by unfold numV; rw [if_neg (by omega), hc.out]; rfl
      have hvz : valF 0 (digF f i) = 0 := rfl
      clear hV1 hvb
      have hbad : ¬ badV f i := by unfold badV; rw [hx, hc.out]; omega
      have e := hg.out
      rw [getV_is n f i hin (by rw [hc.out]; exact hf) hbad, hc.out, hx] at e
      obtain ⟨rfl, rfl, rfl⟩ : 0 = a ∧ (i : Int) + 1 = q ∧ true = ok := by
        simp only [Prod.mk.injEq] at e
        exact ⟨e.1, by omega, e.2.2⟩
      clear hg e
      go_wp2
      go_ret3
      exact ⟨rfl, hB⟩
    ·
      have hV := hv.part (k := i + 1) (m := c) (by omega) c (Nat.le_refl _)
      have hB : Below w.heap.size w w := Below.refl _ _
      have hV1 : View w (some ⟨b, off + (i + 1), none⟩) c c (digF f i) := hV.congr (fun j _ => by rw [HD.out]; rfl)
      clear hV
      go_wp2_with fail
      refine (numberOf_any _ c c _ w hV1 (by omega)).mono ?_
      rintro e _ ⟨rfl, rfl⟩
      have hvb := valF7 c (digF f i) (by omega) hV1.byte
      have hx : numV f i = valF c (digF f i) := by unfold numV; rw [if_neg (by omega), hc.out]
      have hcd := view_first hV1 (by omega)
      have hdb := hV1.byte 0 (by omega)
      have hc0z : (0 : Int) < (c : Int) := by omega
      generalize valF c (digF f i) = v at *
      clear hV1
      by_cases hd0 : digF f i 0 = 0
      · have hbad : badV f i := by unfold badV; rw [hc.out]; exact Or.inl ⟨by omega, hd0⟩
        rw [hd0] at hcd
        have e := hg.out
        rw [getV_bad n f i hin (by rw [hc.out]; exact hf) hbad] at e
        obtain ⟨rfl, rfl, rfl⟩ : 0 = a ∧ 0 = q ∧ false = ok := by simpa using e
        clear hg e
        go_wp2
        go_ret3
        exact ⟨rfl, hB⟩
      · have hq0 : (digF f i 0 == 0) = false := by simpa using hd0
        by_cases hr : v < -1000000000000000 ∨ 1000000000000000 < v
        · have hbad : badV f i := by unfold badV; rw [hx]; exact Or.inr hr
          rcases hr with hr | hr
          · omega
          · have e := hg.out
            rw [getV_bad n f i hin (by rw [hc.out]; exact hf) hbad] at e
            obtain ⟨rfl, rfl, rfl⟩ : 0 = a ∧ 0 = q ∧ false = ok := by simpa using e
            clear hg e
            go_wp2
            go_ret3
            exact ⟨rfl, hB⟩
        · have hbad : ¬ badV f i := by unfold badV; rw [hx, hc.out]; omega
          have hr1 : -1000000000000000 ≤ v := by omega
          have hr2 : v ≤ 1000000000000000 := by omega
          clear hr
          have e := hg.out
          rw [getV_is n f i hin (by rw [hc.out]; exact hf) hbad, hc.out] at e
          simp only [Prod.mk.injEq] at e
          obtain ⟨ea, rfl, rfl⟩ := e
          rw [hx] at ea
          subst ea
          clear hg
          go_wp2
          go_ret3
          exact ⟨rfl, hB⟩
end Go.Proofs.Ytclegljalndaeac

/-
  Bytes as a string: what 'string(b)' comes to at a slice of bytes that reads.
-/
namespace Go.Proofs.Ytclegljalndaeac
open Go.RowKit
set_option maxRecDepth 4000

theorem conv_view {w : World} {b off n cap : Nat} {f : Nat → Int} (hv : View w (some ⟨b, off, none⟩) n cap f) :
    (convert 22 9 (.slice (some ⟨b, off, none⟩) n cap)).run Try.prog w = .ok (.string (strOfNums (lof n f))) w := by
  refine run_convert_bytes_arg w 22 5 Try.underlying22 Try.underlying5 b off n cap (lof n f) (lof_len n f) ?_ 9 Try.underlying9
  intro i hi
  obtain ⟨b', off', e, _, hc⟩ := hv.cells (by omega)
  simp only [Option.some.injEq, Addr.mk.injEq, and_true] at e
  obtain ⟨rfl, rfl⟩ := e
  rw [hc i hi, lof_get n f i hi]

theorem strOfNums_inj {xs ys : List Int} (hx : ∀ y ∈ xs, 0 ≤ y ∧ y ≤ 255) (hy : ∀ y ∈ ys, 0 ≤ y ∧ y ≤ 255) (h : strOfNums xs = strOfNums ys) : xs = ys := by
  have h1 : xs.map (fun n => UInt8.ofNat n.toNat) = ys.map (fun n => UInt8.ofNat n.toNat) := by
    rw [← strOfNums_data, ← strOfNums_data, h]
  have key : ∀ a b : Int, 0 ≤ a ∧ a ≤ 255 → 0 ≤ b ∧ b ≤ 255 → UInt8.ofNat a.toNat = UInt8.ofNat b.toNat → a = b := by
    intro a b ha hb e
    have := congrArg UInt8.toNat e
    simp at this
    omega
  clear h
  induction xs generalizing ys with
  | nil => cases ys with
    | nil => rfl
    | cons y ys => simp at h1
  | cons x xs ih => cases ys with
    | nil => simp at h1
    | cons y ys =>
      simp only [List.map_cons, List.cons.injEq] at h1
      rw [key x y (hx x (by simp)) (hy y (by simp)) h1.1, ih (fun z hz => hx z (by simp [hz])) (fun z hz => hy z (by simp [hz])) h1.2]

end Go.Proofs.Ytclegljalndaeac

/-
  Bytes that the call owns, or none, as a string.
-/
namespace Go.Proofs.Ytclegljalndaeac
open Go.RowKit
set_option maxRecDepth 4000

theorem conv_own {w : World} {base : Nat} {v : Value} {N : Nat} {l : List Int} (h : w.ownsRow base 5 1 v N (bl l)) (hl : l.length = N) (hy : ∀ y ∈ l, 0 ≤ y ∧ y ≤ 255) :
    (convert 22 9 v).run Try.prog w = .ok (.string (strOfNums l)) w := by
  by_cases hv : v = .slice none 0 0
  · subst hv
    have h0 : N = 0 := by
      rcases h.2 with ⟨_, h0⟩ | ⟨g, c, cur, e, _⟩
      · exact h0
      · cases e
    obtain rfl : l = [] := by
      cases l with
      | nil => rfl
      | cons x xs => simp at hl; omega
    have := run_convert_bytes_nil (P := Try.prog) (w := w) 22 5 Try.underlying22 Try.underlying5 0 0 9 Try.underlying9
    exact this
  · obtain ⟨g, c, rfl, _, hc, hr⟩ := row_of_own' h hv
    have hb : ∀ i, i < N → 0 ≤ l.getD i 0 ∧ l.getD i 0 ≤ 255 := by
      intro i hi
      have hi' : i < l.length := by omega
      have := hy _ (List.getElem_mem hi')
      simpa [hi'] using this
    have := conv_view (hr.view hc hb)
    rw [← hl] at this ⊢
    rw [this, lof_self]
end Go.Proofs.Ytclegljalndaeac

/-
  The program's GetEsc: what is read of the bytes as a text in order, at every slice of bytes that reads and at every place.
-/
namespace Go.Proofs.Ytclegljalndaeac
open Go.RowKit
set_option maxRecDepth 4000

theorem retE {s s' : ByteArray} {b b' : Int} {c c' : Bool} (h1 : s = s') (h2 : b = b') (h3 : c = c') :
    Ending.returned (.tuple #[.string s, .int .i64 b, .bool c]) = .returned (.tuple #[.string s', .int .i64 b', .bool c']) := by rw [h1, h2, h3]

theorem snoc_byte {l : List Int} (h : ∀ y ∈ l, 0 ≤ y ∧ y ≤ 255) (x : Int) (h0 : 0 ≤ x) (h1 : x ≤ 255) : ∀ y ∈ l ++ [x], 0 ≤ y ∧ y ≤ 255 := by
  intro y hy
  rcases List.mem_append.1 hy with hy | hy
  · exact h y hy
  · simp at hy; omega

set_option maxRecDepth 4000 in
set_option maxHeartbeats 2000000 in
theorem getEsc_impl (ao : Option Addr) (n cap : Nat) (f : Nat → Int) (p : Int) (w : World) (s : ByteArray) (q : Int) (ok : Bool) (hg : Hid (getE n f p = (s, q, ok))) (hv : View w ao n cap f) (hn : n ≤ 17592186044416) (hp1 : p ≤ 9223372036854775807) :
    Calls Try.prog 113 #[.slice ao n cap, .int .i64 p] w fun e w' => e = .returned (.tuple #[.string s, .int .i64 q, .bool ok]) ∧ Below w.heap.size w w' := by
  by_cases hp : p < 0
  · have := hg.out
    rw [getE_neg n f p hp] at this
    cases this
    go_enter Try.func113, Try.ntmps113
    go_wp2
    go_ret3
    exact ⟨rfl, Below.refl _ _⟩
  obtain ⟨p, rfl⟩ := Int.eq_ofNat_of_zero_le (Int.not_lt.1 hp)
  obtain ⟨i0, hi, hz0, hz1, hz2⟩ := info_parts Try.info5
  have hown0 : w.ownsRow w.heap.size 5 1 (.slice none 0 0) 0 (bl []) := ⟨rfl, .inl ⟨rfl, rfl⟩⟩
  go_enter Try.func113, Try.ntmps113
  go_wp2
  go_loopg [7, 8] (n - p) (fun g v i wr => ∃ (k : Nat) (acc : List Int), g = n - k ∧ i = .int .i64 k ∧ (k : Int) ≤ 9223372036854775807 ∧ acc.length + p ≤ k ∧ Seen n f p k acc ∧ (∀ y ∈ acc, 0 ≤ y ∧ y ≤ 255) ∧ wr.ownsRow w.heap.size 5 1 v acc.length (bl acc) ∧ Below w.heap.size w wr)
  case atStart => exact ⟨p, [], rfl, rfl, hp1, by simp, Seen.start n f p, (fun y hy => by cases hy), hown0, Below.refl _ _⟩
  case round =>
    obtain ⟨k, acc, rfl, rfl, hk63, hak, hsn, hyb, hown, hB⟩ := hrel
    clear hown0
    have HS : Hid (Seen n f p k acc) := hsn
    have HY : Hid (∀ y ∈ acc, 0 ≤ y ∧ y ≤ 255) := hyb
    clear hsn hyb
    by_cases hlt : k + 1 < n
    · obtain ⟨b, off, rfl, hb, hc⟩ := hv.cells (by omega)
      have hkz : (k : Int) < (n : Int) - 1 := by omega
      have hkz1 : (k : Int) + 1 < (n : Int) := by omega
      have hc0 : wr.cell? ⟨b, off + k, none⟩ = some (.int .u8 (f k)) := by rw [hB.cell (p := ⟨b, off + k, none⟩) hb]; exact hc k (by omega)
      have hc1 : wr.cell? ⟨b, off + (k + 1), none⟩ = some (.int .u8 (f (k + 1))) := by rw [hB.cell (p := ⟨b, off + (k + 1), none⟩) hb]; exact hc (k + 1) hlt
      have hb0 := hv.byte k (by omega)
      obtain ⟨hb00, hb01⟩ := hb0
      have hcv : (convert 22 9 u7).run Try.prog wr = .ok (.string (strOfNums acc)) wr := conv_own hown rfl HY.out
      clear hc
      by_cases h0 : f k = 0
      · have H0 : Hid (f k = 0) := h0
        rw [h0] at hc0
        clear h0 hb00 hb01
        by_cases h1 : f (k + 1) = 1
        · have HG := hg.out
          rw [getE_some (HS.out.ends hlt H0.out h1)] at HG
          cases HG
          rw [h1] at hc1
          go_wp2
          go_ret3
          have := HS.out.1
          exact ⟨retE rfl (by omega) rfl, hB⟩
        · by_cases h2 : f (k + 1) = 255
          · have HS2 : Hid (Seen n f p (k + 2) (acc ++ [0])) := HS.out.goes hlt H0.out h2
            rw [h2] at hc1
            clear hcv
            go_wp2_with (at_builtin; go_must (refine wpList_append_own _ rfl (.tmp 50) (.tmp 51) 22 rfl w.heap.size 5 i0 (.int .u8 0) 1 1 Try.underlying22 hi hz0 hz1 hz2 rfl (by decide) u7 _ _ rfl (hown.alloc _) ⟨wr.heap.size, 0, none⟩ 1 1 [.int .u8 0] rfl rfl (cellNew _ _ _) (bl_one [0]) (by unfold maxLen; omega) (by omega) (by have := hB.size; simp; omega) ?_); intro v2 w2 hown2 hgr2 _)
            have hB2 : Below w.heap.size w w2 := (hB.alloc hB.size _).grown hgr2 (by have := hB.size; simp; omega) (fun k hk => (hown.lt k hk).1)
            have hO2 : w2.ownsRow w.heap.size 5 1 v2 (acc ++ [0]).length (bl (acc ++ [0])) := by
              rw [List.length_append, bl_append]
              exact hown2
            clear hgr2 hown hown2 hB
            go_wp2
            go_roundg (n - (k + 2))
            case measure => omega
            case rel => exact ⟨k + 2, acc ++ [0], rfl, by go_num, by omega, by simp; omega, HS2.out, snoc_byte HY.out 0 (by omega) (by omega), hO2, hB2⟩
          · have HG := hg.out
            rw [getE_none (HS.out.wrong hlt H0.out h1 h2)] at HG
            cases HG
            have q1 : (f (k + 1) == 1) = false := by simpa using h1
            have q2 : (f (k + 1) == 255) = false := by simpa using h2
            clear h1 h2 hcv
            go_wp2
            go_ret3
            exact ⟨rfl, hB⟩
      · have q0 : (f k != 0) = true := by simpa using h0
        have HS2 : Hid (Seen n f p (k + 1) (acc ++ [f k])) := HS.out.plain hlt h0
        clear h0 hcv hc1
        go_wp2_with (at_builtin; go_must (refine wpList_append_own _ rfl (.tmp 25) (.tmp 30) 22 rfl w.heap.size 5 i0 (.int .u8 0) 1 1 Try.underlying22 hi hz0 hz1 hz2 rfl (by decide) u7 _ _ rfl (hown.alloc _) ⟨wr.heap.size, 0, none⟩ 1 1 [.int .u8 (f k)] rfl rfl (cellNew _ _ _) (bl_one [f k]) (by unfold maxLen; omega) (by omega) (by have := hB.size; simp; omega) ?_); intro v2 w2 hown2 hgr2 _)
        have hB2 : Below w.heap.size w w2 := (hB.alloc hB.size _).grown hgr2 (by have := hB.size; simp; omega) (fun k hk => (hown.lt k hk).1)
        have hO2 : w2.ownsRow w.heap.size 5 1 v2 (acc ++ [f k]).length (bl (acc ++ [f k])) := by
          rw [List.length_append, bl_append]
          exact hown2
        clear hgr2 hown hown2 hB
        go_wp2
        go_roundg (n - (k + 1))
        case measure => omega
        case rel => exact ⟨k + 1, acc ++ [f k], rfl, by go_num, by omega, by simp; omega, HS2.out, snoc_byte HY.out (f k) hb00 hb01, hO2, hB2⟩
    · have hkz : (n : Int) - 1 ≤ (k : Int) := by omega
      have HG := hg.out
      rw [getE_none (HS.out.past (by omega))] at HG
      cases HG
      clear hlt
      go_wp2
      go_ret3
      exact ⟨rfl, hB⟩
end Go.Proofs.Ytclegljalndaeac

/-
  Two values are held against each other, all fields at once.
-/
namespace Go.Proofs.Ytclegljalndaeac
open Go.RowKit
set_option maxRecDepth 4000

def valAgg (k n : Int) (s : ByteArray) : Value := .agg #[.int .i64 k, .int .i64 n, .string s]

/-- Whether two values are alike. -/
def eqV (k n : Int) (s : ByteArray) (k' n' : Int) (s' : ByteArray) : Bool := decide (k = k') && decide (n = n') && decide (s = s')

theorem toList_inj {a b : ByteArray} : a.toList = b.toList ↔ a = b := by
  constructor
  · intro h
    rw [ByteArray.toList_eq, ByteArray.toList_eq] at h
    obtain ⟨⟨x⟩⟩ := a
    obtain ⟨⟨y⟩⟩ := b
    simp only at h
    rw [h]
  · rintro rfl; rfl

theorem eqVal_run (k n : Int) (s : ByteArray) (k' n' : Int) (s' : ByteArray) (W : World) :
    (binOp .eql 29 (.agg #[.int .i64 k, .int .i64 n, .string s]) (.agg #[.int .i64 k', .int .i64 n', .string s'])).run Try.prog W = .ok (.bool (eqV k n s k' n' s')) W := by
  by_cases h1 : k = k' <;> by_cases h2 : n = n' <;> by_cases h3 : s = s' <;> simp [go_sem, h1, h2, h3, eqV, toList_inj]

theorem neVal_run (k n : Int) (s : ByteArray) (k' n' : Int) (s' : ByteArray) (W : World) :
    (binOp .neq 29 (.agg #[.int .i64 k, .int .i64 n, .string s]) (.agg #[.int .i64 k', .int .i64 n', .string s'])).run Try.prog W = .ok (.bool (!eqV k n s k' n' s')) W := by
  by_cases h1 : k = k' <;> by_cases h2 : n = n' <;> by_cases h3 : s = s' <;> simp [go_sem, h1, h2, h3, eqV, toList_inj]

end Go.Proofs.Ytclegljalndaeac

