/-
  Together: NumRead, Parts, FlipWalks, PutVarSpec, GetVarSpec, GetWalks, GetSpec, GetTextSpec, RowValSpec, AllUpto, PView, ValOkSpec, PartBox
-/
import Derived.Test.YtikopeihkbpjhasPack1
import Derived.Test.YtikopeihkbpjhasPack2
/-
  The program's numberOf and the model's l4Read: bytes as a number, the highest first.
-/
namespace Go.Proofs.Ytikopeihkbpjhas
open Go.RowKit
set_option maxRecDepth 4000

theorem or_low (x y : Int) (h0 : 0 ≤ x) (h1 : x < 36028797018963968) (h2 : 0 ≤ y) (h3 : y ≤ 255) : bits .or .i64 (x * 256) y = x * 256 + y := by
  have e : bits .or .i64 (x * 256) y = bits .or .i64 y (x * 256) := by
    show IntKind.i64.wrap ((BitVec.ofInt 64 (x * 256) ||| BitVec.ofInt 64 y).toNat : Nat) = IntKind.i64.wrap ((BitVec.ofInt 64 y ||| BitVec.ofInt 64 (x * 256)).toNat : Nat)
    rw [BitVec.or_comm]
  rw [e, i64_or_add 8 y (x * 256) h2 (by show _ < (256 : Int); omega) (by omega) (by show _ % (256 : Int) = 0; omega) (by omega) (by decide)]
  omega

theorem valF_step (k : Nat) (f : Nat → Int) : valF (k + 1) f = valF k f * 256 + f k := rfl
/-- As many bytes as there may be are a number that an int has. -/
theorem valF_lim (k : Nat) (f : Nat → Int) (hk : k ≤ 6) (h : ∀ i, i < k → 0 ≤ f i ∧ f i ≤ 255) : 0 ≤ valF k f ∧ valF k f < 281474976710656 := by
  have h1 := valF_bd k f h
  have h2 : (256 : Int) ^ k ≤ 256 ^ 6 := pow_mono hk
  have e : (256 : Int) ^ 6 = 281474976710656 := by decide
  omega

set_option maxHeartbeats 1000000 in
theorem numberOf_any (ao : Option Addr) (k c : Nat) (f : Nat → Int) (w : World) (hv : View w ao k c f) (hk : k ≤ 7) :
    Calls Try.prog 78 #[.slice ao k c] w fun e w' => e = .returned (.int .i64 (valF k f)) ∧ w = w' := by
  go_enter Try.func78, Try.ntmps78
  go_wp2
  go_loopg [3, 8] k (fun q s i wr => w = wr ∧ ∃ j : Nat, j ≤ k ∧ q = k - j ∧ s = .int .i64 (valF j f) ∧ i = .int .i64 j)
  case atStart => exact ⟨rfl, 0, Nat.zero_le _, rfl, rfl, rfl⟩
  case round =>
    obtain ⟨rfl, j, hj, rfl, rfl, rfl⟩ := hrel
    by_cases hlt : j < k
    · have hb := hv.byte j hlt
      obtain ⟨b, off, rfl, hbl, hc⟩ := hv.cells (by omega)
      have hcj := hc j hlt
      have hl := valF_lim j f (by omega) (fun i hi => hv.byte i (by omega))
      have HE : Hid (valF (j + 1) f = valF j f * 256 + f j) := rfl
      have hq := or_low (valF j f) (f j) hl.1 (by omega) hb.1 hb.2
      have hjz : (j : Int) < (k : Int) := by omega
      clear hc hv
      generalize valF j f = x at *
      go_wp2
      go_roundg (k - (j + 1))
      case measure => omega
      case rel => exact ⟨rfl, j + 1, by omega, rfl, by rw [HE.out], by go_num⟩
    · obtain rfl : j = k := by omega
      clear hv
      go_wp2
      go_ret
      exact ⟨rfl, rfl⟩

set_option maxHeartbeats 1000000 in
theorem l4Read_any (ao : Option Addr) (n c : Nat) (f : Nat → Int) (p k : Nat) (t : Bool) (w : World) (hv : View w ao n c f) (hn : n ≤ 281474976710656) (hk : k ≤ 7) (hp : p + k ≤ n) :
    Calls Try.prog 76 #[.slice ao n c, .int .i64 (p : Int), .int .i64 (k : Int), .bool t] w fun e w' => e = .returned (.tuple #[.int .i64 (valF k (turnF t (fun i => f (p + i)))), .bool true]) ∧ w = w' := by
  have hpz : (p : Int) + (k : Int) ≤ (n : Int) := by omega
  have q1 : decide ((p : Int) < 0) = false := by simp
  have q2 : decide (n < p) = false := by simp; omega
  have q3 : decide ((n : Int) - (p : Int) < (k : Int)) = false := by simp; omega
  go_enter Try.func76, Try.ntmps76
  go_wp2
  go_loopg [10, 11] k (fun q s i wr => w = wr ∧ ∃ j : Nat, j ≤ k ∧ q = k - j ∧ s = .int .i64 (valF j (turnF t (fun i => f (p + i)))) ∧ i = .int .i64 j)
  case atStart => exact ⟨rfl, 0, Nat.zero_le _, rfl, rfl, rfl⟩
  case round =>
    obtain ⟨rfl, j, hj, rfl, rfl, rfl⟩ := hrel
    by_cases hlt : j < k
    · have hb := hv.byte (p + j) (by omega)
      obtain ⟨b, off, rfl, hbl, hc⟩ := hv.cells (by omega)
      have hcj := hc (p + j) (by omega)
      have hl := valF_lim j (turnF t (fun i => f (p + i))) (by omega) (turnF_bd t (fun i hi => hv.byte (p + i) (by omega)))
      have hjz : (j : Int) < (k : Int) := by omega
      have HE : Hid (valF (j + 1) (turnF t (fun i => f (p + i))) = valF j (turnF t (fun i => f (p + i))) * 256 + turnF t (fun i => f (p + i)) j) := rfl
      clear hc hv
      cases t
      · have hq := or_low (valF j (turnF false (fun i => f (p + i)))) (f (p + j)) hl.1 (by omega) hb.1 hb.2
        have HT : Hid (turnF false (fun i => f (p + i)) j = f (p + j)) := rfl
        rw [HT.out] at HE
        generalize valF j (turnF false (fun i => f (p + i))) = x at *
        go_wp2
        go_roundg (k - (j + 1))
        case measure => omega
        case rel => exact ⟨rfl, j + 1, by omega, rfl, by rw [HE.out], by go_num⟩
      · have hx : bits .xor .u8 IntKind.u8.max (f (p + j)) = 255 - f (p + j) := u8_not _ hb.1 hb.2
        have HT : Hid (turnF true (fun i => f (p + i)) j = 255 - f (p + j)) := rfl
        have hyb : 0 ≤ 255 - f (p + j) ∧ 255 - f (p + j) ≤ 255 := by omega
        rw [HT.out] at HE
        generalize 255 - f (p + j) = y at *
        obtain ⟨hy0, hy1⟩ := hyb
        have hq := or_low (valF j (turnF true (fun i => f (p + i)))) y hl.1 (by omega) hy0 hy1
        generalize valF j (turnF true (fun i => f (p + i))) = x at *
        go_wp2
        go_roundg (k - (j + 1))
        case measure => omega
        case rel => exact ⟨rfl, j + 1, by omega, rfl, by rw [HE.out, show wrap64 y = y by unfold wrap64; omega, hq], by go_num⟩
    · obtain rfl : j = k := by omega
      clear hv
      go_wp2
      go_ret2
      exact ⟨rfl, rfl⟩

set_option maxHeartbeats 1000000 in
theorem l4Read_no (ao : Option Addr) (n c : Nat) (p k : Int) (t : Bool) (w : World) (hp1 : p ≤ 9223372036854775807) (hk : 0 ≤ k) (hk7 : k ≤ 7) (hp : p < 0 ∨ (n : Int) - p < k) :
    Calls Try.prog 76 #[.slice ao n c, .int .i64 p, .int .i64 k, .bool t] w fun e w' => e = .returned (.tuple #[.int .i64 0, .bool false]) ∧ w = w' := by
  go_enter Try.func76, Try.ntmps76
  by_cases h1 : p < 0
  · clear hp
    go_wp2
    go_ret2
    exact ⟨rfl, rfl⟩
  · have h2 : (n : Int) - p < k := by omega
    clear hp
    by_cases h3 : (n : Int) < p
    · go_wp2
      go_ret2
      exact ⟨rfl, rfl⟩
    · go_wp2
      go_ret2
      exact ⟨rfl, rfl⟩
end Go.Proofs.Ytikopeihkbpjhas

/-
  A part of a slice of bytes that reads.
-/
namespace Go.Proofs.Ytikopeihkbpjhas
open Go.RowKit
set_option maxRecDepth 4000

theorem View.part {w : World} {b off n cap m k : Nat} {f : Nat → Int} (h : View w (some ⟨b, off, none⟩) n cap f) (hm : k + m ≤ n) (c : Nat) (hc : m ≤ c) : View w (some ⟨b, off + k, none⟩) m c (fun i => f (k + i)) := by
  refine ⟨hc, fun i hi => h.byte (k + i) (by omega), fun h0 => ?_⟩
  obtain ⟨b', off', e, hb, hcl⟩ := h.cells (by omega)
  simp only [Option.some.injEq, Addr.mk.injEq, and_true] at e
  obtain ⟨rfl, rfl⟩ := e
  exact ⟨b, off + k, rfl, hb, fun i hi => by have := hcl (k + i) (by omega); rw [← Nat.add_assoc] at this; exact this⟩
end Go.Proofs.Ytikopeihkbpjhas

/-
  Flip, the program's and the model's: from the place on all bits of the bytes turned, in memory of its own.
-/
namespace Go.Proofs.Ytikopeihkbpjhas
open Go.RowKit
set_option maxRecDepth 4000

/-- The bytes of f, from p on turned. -/
def flipF (f : Nat → Int) (p : Int) (i : Nat) : Int := if p ≤ i then 255 - f i else f i
theorem flipF_byte {n : Nat} {f : Nat → Int} (p : Int) (h : ∀ i, i < n → 0 ≤ f i ∧ f i ≤ 255) : ∀ i, i < n → 0 ≤ flipF f p i ∧ flipF f p i ≤ 255 := by
  intro i hi
  have := h i hi
  unfold flipF
  split <;> omega

/-- k of the n bytes are turned, as far as they are to be. -/
structure Flipped (t : TypeId) (w wr : World) (g n : Nat) (f : Nat → Int) (p : Int) (k : Nat) : Prop where
  row : Row t wr g n (fun i => if i < k then flipF f p i else f i)
  below : Below w.heap.size w wr

theorem flipped_turn {t : TypeId} {w wr : World} {g n : Nat} {f : Nat → Int} {p : Int} {k : Nat} (h : Flipped t w wr g n f p k) (hg : w.heap.size ≤ g) (hp : p ≤ k) : Flipped t w (wr.setCell ⟨g, k, none⟩ (.int .u8 (255 - f k))) g n f p (k + 1) := by
  refine ⟨(h.row.set k _).congr (fun i _ => ?_), h.below.setCell hg _⟩
  by_cases e : i = k
  · subst e; simp [flipF, hp]
  · rw [if_neg e]
    by_cases hlt : i < k
    · rw [if_pos hlt, if_pos (by omega)]
    · rw [if_neg hlt, if_neg (by omega)]
theorem flipped_keep {t : TypeId} {w wr : World} {g n : Nat} {f : Nat → Int} {p : Int} {k : Nat} (h : Flipped t w wr g n f p k) (hp : ¬ p ≤ k) : Flipped t w wr g n f p (k + 1) := by
  refine ⟨h.row.congr (fun i _ => ?_), h.below⟩
  by_cases e : i = k
  · subst e; simp [flipF, hp]
  · by_cases hlt : i < k
    · rw [if_pos hlt, if_pos (by omega)]
    · rw [if_neg hlt, if_neg (by omega)]

set_option maxHeartbeats 1000000 in
theorem flip_spec (b off n cap : Nat) (f : Nat → Int) (p : Int) (w : World) (hv : View w (some ⟨b, off, none⟩) n cap f) (hn : n ≤ 70368744177664) :
    Calls Try.prog 55 #[.slice (some ⟨b, off, none⟩) n cap, .int .i64 p] w fun e w' => ∃ g c, e = .returned (.slice (some ⟨g, 0, none⟩) n c) ∧ w.heap.size ≤ g ∧ n ≤ c ∧ Row 5 w' g n (flipF f p) ∧ Below w.heap.size w w' := by
  obtain ⟨i0, hi, hz0, hz1, hz2⟩ := info_parts Try.info5
  have hown0 := World.ownsRow_lit (base := w.heap.size) (e := 5) (size := 1) w #[] 0 (Nat.le_refl _) (Nat.zero_le _) rfl
  have hb0 : Below w.heap.size w (w.alloc (.cells #[] 5)) := (Below.refl _ _).alloc (Nat.le_refl _) _
  have hcl := cells_of_view (hv.below hb0)
  have hsz : (w.alloc (.cells #[] 5)).heap.size = w.heap.size + 1 := by simp
  have hby := hv.byte
  go_enter Try.func55, Try.ntmps55
  go_wp2_with (at_builtin; go_must (refine wpList_append_own _ rfl (.tmp 7) (.tmp 8) 34 rfl w.heap.size 5 i0 (.int .u8 0) 1 1 Try.underlying34 hi hz0 hz1 hz2 rfl (by decide) (.slice (some ⟨w.heap.size, 0, none⟩) 0 0) 0 [] rfl hown0 ⟨b, off, none⟩ n cap (bl (lof n f)) rfl (by rw [bl_len, lof_len]; omega) hcl (bl_one _) (by unfold maxLen; omega) (by omega) (by rw [hsz]; omega) ?_); intro v1 w1 hown1 hgr1 hnil; simp only [Nat.zero_add, List.nil_append] at hown1; obtain ⟨g, c, rfl, hg, hgc, hrow⟩ := row_of_own' hown1 (by intro h; have := (hnil.1 h).1; cases this))
  have hb1 : Below w.heap.size w w1 := hb0.grown hgr1 (by simp) (fun k hk => by simp only [Value.ownBlock, Option.some.injEq] at hk; omega)
  have hF0 : Flipped 5 w w1 g n f p 0 := ⟨hrow.congr (fun i hi => by rw [lof_get n f i hi]; simp), hb1⟩
  clear hown0 hcl hsz hgr1 hb0 hv hown1 hnil hrow hb1
  go_loopg [6] n (fun q i wr => ∃ k : Nat, k ≤ n ∧ q = n - k ∧ i = .int .i64 k ∧ Flipped 5 w wr g n f p k)
  case atStart => exact ⟨0, Nat.zero_le _, rfl, rfl, hF0⟩
  case round =>
    obtain ⟨k, hk, rfl, rfl, hF⟩ := hrel
    clear hF0
    by_cases hlt : k < n
    · have hkz : (k : Int) < (n : Int) := by omega
      by_cases hp : p ≤ (k : Int)
      · have hS : Hid (Flipped 5 w (wr.setCell ⟨g, k, none⟩ (.int .u8 (255 - f k))) g n f p (k + 1)) := flipped_turn hF hg hp
        have hc : wr.cell? ⟨g, k, none⟩ = some (.int .u8 (f k)) := by rw [hF.row.cell hlt, if_neg (Nat.lt_irrefl _)]
        have hf := hF.row.frozen k
        have hx : bits .xor .u8 IntKind.u8.max (f k) = 255 - f k := u8_not _ (hby k hlt).1 (hby k hlt).2
        clear hF hby
        go_wp2
        go_roundg (n - (k + 1))
        case measure => omega
        case rel => exact ⟨k + 1, by omega, rfl, by go_num, hS.out⟩
      · have hS : Hid (Flipped 5 w wr g n f p (k + 1)) := flipped_keep hF hp
        clear hF hby
        go_wp2
        go_roundg (n - (k + 1))
        case measure => omega
        case rel => exact ⟨k + 1, by omega, rfl, by go_num, hS.out⟩
    · obtain rfl : k = n := by omega
      have hR : Hid (Row 5 wr g k (flipF f p)) := hF.row.congr (fun i hi => by rw [if_pos hi])
      have hB := hF.below
      clear hF hby
      go_wp2
      go_ret
      exact ⟨g, c, rfl, hg, hgc, hR.out, hB⟩

set_option maxHeartbeats 1000000 in
theorem flip_impl (b off n cap : Nat) (f : Nat → Int) (p : Int) (w : World) (hv : View w (some ⟨b, off, none⟩) n cap f) (hn : n ≤ 70368744177664) (hp1 : p ≤ 9223372036854775807) :
    Calls Try.prog 74 #[.slice (some ⟨b, off, none⟩) n cap, .int .i64 p] w fun e w' => ∃ g c, e = .returned (.slice (some ⟨g, 0, none⟩) n c) ∧ w.heap.size ≤ g ∧ n ≤ c ∧ Row 5 w' g n (flipF f p) ∧ Below w.heap.size w w' := by
  have hby := hv.byte
  go_enter Try.func74, Try.ntmps74
  go_wp2_with fail
  refine (putBytes_any b off n cap f none 0 0 (fun _ => 0) w hv ⟨Nat.le_refl _, fun i hi => absurd hi (Nat.not_lt_zero _), fun h => absurd h (Nat.lt_irrefl _)⟩ (fun _ => ⟨rfl, rfl⟩) (by omega)).mono ?_
  rintro e w1 ⟨rfl, hown, hb1⟩
  rw [Nat.add_zero] at hown ⊢
  have hrow := row_of_owned hown
  have hR0 : Row 5 w1 w.heap.size n f := hrow.congr (fun i hi => by rw [show lof 0 (fun _ => (0 : Int)) = [] from rfl, List.append_nil, lof_get n f i hi])
  have HF : ∀ m : Nat, (∀ i : Nat, i < m → ¬ p ≤ i) → Flipped 5 w w1 w.heap.size n f p m := by
    intro m hm
    refine ⟨hR0.congr (fun i hi => ?_), hb1⟩
    by_cases e : i < m
    · rw [if_pos e, flipF, if_neg (hm i e)]
    · rw [if_neg e]
  have hF0 : Hid (p < 0 → Flipped 5 w w1 w.heap.size n f p 0) := fun _ => HF 0 (fun i hi => absurd hi (Nat.not_lt_zero _))
  have hF1 : Hid (0 ≤ p → Flipped 5 w w1 w.heap.size n f p p.toNat) := fun _ => HF p.toNat (fun i hi => by omega)
  clear hown hrow hR0 HF hv hb1
  go_wp2
  all_goals
    go_loopg [6] (n - p.toNat) (fun q i wr => ∃ k : Nat, q = n - k ∧ i = .int .i64 k ∧ (k : Int) ≤ 9223372036854775807 ∧ p ≤ k ∧ Flipped 5 w wr w.heap.size n f p k)
    case atStart => first | exact ⟨0, by omega, rfl, by omega, by omega, hF0.out (by omega)⟩ | exact ⟨p.toNat, rfl, congrArg (Value.int .i64) (by omega), by omega, by omega, hF1.out (by omega)⟩
    case round =>
      obtain ⟨k, rfl, rfl, hk63, hpk, hF⟩ := hrel
      clear hF0 hF1
      by_cases hlt : k < n
      · have hkz : (k : Int) < (n : Int) := by omega
        have hS : Hid (Flipped 5 w (wr.setCell ⟨w.heap.size, k, none⟩ (.int .u8 (255 - f k))) w.heap.size n f p (k + 1)) := flipped_turn hF (Nat.le_refl _) hpk
        have hc : wr.cell? ⟨w.heap.size, k, none⟩ = some (.int .u8 (f k)) := by rw [hF.row.cell hlt, if_neg (Nat.lt_irrefl _)]
        have hf := hF.row.frozen k
        have hx : bits .xor .u8 IntKind.u8.max (f k) = 255 - f k := u8_not _ (hby k hlt).1 (hby k hlt).2
        clear hF hby
        go_wp2
        go_roundg (n - (k + 1))
        case measure => omega
        case rel => exact ⟨k + 1, rfl, by go_num, by omega, by omega, hS.out⟩
      · have hkz : (n : Int) ≤ (k : Int) := by omega
        have hR : Hid (Row 5 wr w.heap.size n (flipF f p)) := hF.row.congr (fun i hi => by rw [if_pos (by omega)])
        have hB := hF.below
        clear hF hby
        go_wp2
        go_ret
        exact ⟨w.heap.size, n, rfl, Nat.le_refl _, Nat.le_refl _, hR.out, hB⟩
end Go.Proofs.Ytikopeihkbpjhas

/-
  The model's l4Bytes and PutVar: what was there, and behind it the number's bytes, in memory of its own.
-/
namespace Go.Proofs.Ytikopeihkbpjhas
open Go.RowKit
set_option maxRecDepth 4000

theorem be_step (k : Nat) (n : Int) : lof (1 + k) (be (1 + k) n) = (n / 256 ^ k % 256) :: lof k (be k n) := by
  rw [lof_cons]
  unfold be dg
  rw [show 1 + k - 1 - 0 = k by omega]
  congr 2
  funext i
  rw [show 1 + k - 1 - (i + 1) = k - 1 - i by omega]

/-- k bytes of the number stand. -/
structure Bytes (t : TypeId) (w wr : World) (s : Int) (k g c : Nat) : Prop where
  low : 0 < k → 256 ^ (k - 1) ≤ s
  le : k ≤ c
  new : w.heap.size ≤ g
  row : Row t wr g k (be k s)
  below : Below w.heap.size w wr
theorem Bytes.view {t : TypeId} {w wr : World} {s : Int} {k g c : Nat} (h : Bytes t w wr s k g c) : View wr (some ⟨g, 0, none⟩) k c (be k s) := h.row.view h.le (fun i _ => be_bd _ _ i)

set_option maxHeartbeats 1000000 in
theorem l4Bytes_of (s : Int) (w : World) (hs0 : 0 ≤ s) (hs1 : s < 72057594037927936) :
    Calls Try.prog 54 #[.int .i64 s] w fun e w' => ∃ g c, e = .returned (.slice (some ⟨g, 0, none⟩) (cnt s) c) ∧ View w' (some ⟨g, 0, none⟩) (cnt s) c (be (cnt s) s) ∧ Below w.heap.size w w' := by
  obtain ⟨i0, hi, hz0, hz1, hz2⟩ := info_parts Try.info5
  have hB0 : Hid (Bytes 5 w (w.alloc (.cells #[] 5)) s 0 w.heap.size 0) :=
    ⟨fun h => absurd h (Nat.lt_irrefl _), Nat.le_refl _, Nat.le_refl _, Row.ofIs (World.rowIs_alloc w #[] 5 _ (fun j hj => absurd hj (Nat.not_lt_zero _))), (Below.refl _ _).alloc (Nat.le_refl _) _⟩
  go_enter Try.func54, Try.ntmps54
  go_wp2
  go_loopg [0, 3] (s.toNat + 1) (fun q a v wr => ∃ k g c : Nat, k ≤ 7 ∧ q = (s / 256 ^ k).toNat + 1 ∧ a = .int .i64 (s / 256 ^ k) ∧ v = .slice (some ⟨g, 0, none⟩) k c ∧ Bytes 5 w wr s k g c)
  case atStart => exact ⟨0, w.heap.size, 0, by omega, by simp, by simp, rfl, hB0.out⟩
  case round =>
    obtain ⟨k, g, c, hk, rfl, rfl, rfl, hB⟩ := hrel
    clear hB0
    have ha0 : 0 ≤ s / 256 ^ k := Int.ediv_nonneg hs0 (Int.le_of_lt (Int.pow_pos (by decide)))
    have ha1 : s / 256 ^ k ≤ s := Int.ediv_le_self _ hs0
    by_cases h0 : s / 256 ^ k = 0
    · have hlt : s < 256 ^ k := by
        have := Int.lt_mul_ediv_self_add (x := s) (k := 256 ^ k) (Int.pow_pos (by decide))
        rw [h0] at this
        simpa using this
      have hc : Hid (cnt s = k) := cnt_is s k hk hlt hB.low
      have hV := hB.view
      have hb := hB.below
      clear hB hlt ha0 ha1
      go_wp2
      go_ret
      exact ⟨g, c, by rw [hc.out]; rfl, by rw [hc.out]; exact hV, hb⟩
    · have hge : 256 ^ k ≤ s := by
        by_cases hh : 256 ^ k ≤ s
        · exact hh
        · exact absurd (Int.ediv_eq_zero_of_lt hs0 (by omega)) h0
      have hk6 : k < 7 := by
        by_cases hh : k < 7
        · exact hh
        · have := pow_mono (a := 7) (b := k) (by omega)
          have e : (256 : Int) ^ 7 = 72057594037927936 := by decide
          omega
      have HN : Hid (s / 256 ^ k / 256 = s / 256 ^ (1 + k)) := by show _ = _; rw [div_pow_succ, Nat.add_comm]
      have HL : Hid (lof (1 + k) (be (1 + k) s) = (s / 256 ^ k % 256) :: lof k (be k s)) := be_step k s
      have HG : Hid (256 ^ k ≤ s) := hge
      have hpos : 0 < s / 256 ^ k := by omega
      have hnew := hB.new
      have hb := hB.below
      have hsz := hb.size
      have hV : ∀ o, View (wr.alloc o) (some ⟨g, 0, none⟩) k c (be k s) := fun o => hB.view.below ((Below.refl _ _).alloc (Nat.le_refl _) _)
      clear hB h0 hge
      generalize s / 256 ^ k = a at *
      have hown0 := World.ownsRow_lit (base := w.heap.size) (e := 5) (size := 1) wr #[.int .u8 (a % 256)] 1 (by omega) (by unfold maxLen; omega) rfl
      have hcl := cells_of_view (hV (.cells #[.int .u8 (a % 256)] 5))
      go_wp2_with (at_builtin; go_must (refine wpList_append_own _ rfl (.tmp 9) (.tmp 10) 34 rfl w.heap.size 5 i0 (.int .u8 0) 1 1 Try.underlying34 hi hz0 hz1 hz2 rfl (by decide) (.slice (some ⟨wr.heap.size, 0, none⟩) 1 1) 1 [.int .u8 (a % 256)] rfl hown0 ⟨g, 0, none⟩ k c (bl (lof k (be k s))) rfl (by rw [bl_len, lof_len]; omega) hcl (bl_one _) (by unfold maxLen; omega) (by omega) (by simp; omega) ?_); intro v1 w1 hown1 hgr1 hnil)
      have hO : w1.ownsRow w.heap.size 5 1 v1 (1 + k) (bl ((a % 256) :: lof k (be k s))) := hown1
      obtain ⟨g1, c1, rfl, hg1, hc1, hr1⟩ := row_of_own hO (by omega)
      have hB1 : Hid (Bytes 5 w w1 s (1 + k) g1 c1) := by
        refine ⟨fun _ => by rw [Nat.add_sub_cancel_left]; exact HG.out, hc1, hg1, hr1.congr (fun i hi => ?_), ?_⟩
        · rw [← HL.out, lof_get (1 + k) _ i hi]
        · exact (hb.alloc hsz _).grown hgr1 (by simp; omega) (fun j hj => by simp only [Value.ownBlock, Option.some.injEq] at hj; omega)
      clear hown1 hO hgr1 hnil hr1 hown0 hcl hV hb
      go_wp2
      go_roundg ((a / 256).toNat + 1)
      case measure => omega
      case rel => exact ⟨1 + k, g1, c1, by omega, by rw [HN.out], by rw [HN.out], rfl, hB1.out⟩
theorem keptL_up (y : Int) (h : 0 ≤ y) : keptL y = (128 + (cnt y : Int)) :: lof (cnt y) (be (cnt y) y) := by
  have e : sizeV y = y := by unfold sizeV; rw [if_neg (by omega)]
  unfold keptL headV
  rw [e, if_neg (by omega)]
  congr 1
  unfold lof
  apply List.map_congr_left
  intro i _
  unfold tailV
  rw [e, if_neg (by omega)]
theorem keptL_down (y : Int) (h : y < 0) : keptL y = (127 - (cnt (-1 - y) : Int)) :: lof (cnt (-1 - y)) (flipF (be (cnt (-1 - y)) (-1 - y)) 0) := by
  have e : sizeV y = -1 - y := by unfold sizeV; rw [if_pos h]
  unfold keptL headV
  rw [e, if_pos h]
  congr 1
  unfold lof
  apply List.map_congr_left
  intro i _
  unfold tailV flipF
  rw [e, if_pos h, if_pos (by omega)]

theorem l4Bytes_any (s : Int) (k : Nat) (w : World) (hs0 : 0 ≤ s) (hs1 : s < 72057594037927936) (hk : cnt s = k) :
    Calls Try.prog 54 #[.int .i64 s] w fun e w' => ∃ g c, e = .returned (.slice (some ⟨g, 0, none⟩) k c) ∧ View w' (some ⟨g, 0, none⟩) k c (be k s) ∧ Below w.heap.size w w' := by
  subst hk
  exact l4Bytes_of s w hs0 hs1
theorem Below.grownAll {w w' : World} (h : Below w.heap.size w w') : w.grownBy w' none := ⟨h.os, h.tape, h.output, h.size, fun k hk _ => h.block k hk⟩

theorem own_below {w w' : World} {base : Nat} {t : TypeId} {v : Value} {n : Nat} {l : List Value} (h : w.ownsRow base t 1 v n l) (hb : Below w.heap.size w w') : w'.ownsRow base t 1 v n l := by
  refine h.kept (Below.grownAll hb) ?_
  cases hv : v.ownBlock with
  | none => exact Or.inl rfl
  | some k => exact Or.inr (fun e => by cases e)
theorem var_done {w w' : World} {B : Nat} {t : TypeId} {v : Value} {n k : Nat} {f F : Nat → Int} (z : Int) (h : w'.ownsRow B t 1 v (n + 1 + k) (bl (lof n f) ++ [.int .u8 z] ++ bl (lof k F))) (hs : w.heap.size ≤ B) :
    w'.ownsRow w.heap.size t 1 v (n + (z :: lof k F).length) (bl (lof n f ++ z :: lof k F)) := by
  have e1 : n + (z :: lof k F).length = n + 1 + k := by rw [List.length_cons, lof_len]; omega
  have e2 : bl (lof n f ++ z :: lof k F) = bl (lof n f) ++ [.int .u8 z] ++ bl (lof k F) := by
    rw [bl_append, List.append_assoc]
    rfl
  rw [e1, e2]
  obtain ⟨h1, h2⟩ := h
  refine ⟨h1, ?_⟩
  rcases h2 with h2 | ⟨g, cap, cur, rfl, hB, r⟩
  · exact Or.inl h2
  · exact Or.inr ⟨g, cap, cur, rfl, Nat.le_trans hs hB, r⟩

set_option maxHeartbeats 1000000 in
theorem putVar_own (b off n cap : Nat) (f : Nat → Int) (x : Int) (w : World) (hv : View w (some ⟨b, off, none⟩) n cap f) (hn : n ≤ 70368744170000) (hx0 : -9223372036854775808 ≤ x) (hx1 : x ≤ 9223372036854775807) :
    Calls Try.prog 35 #[.slice (some ⟨b, off, none⟩) n cap, .int .i64 x] w fun e w' => ∃ v, e = .returned v ∧ w'.ownsRow w.heap.size 5 1 v (n + (varL x).length) (bl (lof n f ++ varL x)) ∧ Below w.heap.size w w' := by
  obtain ⟨i0, hi, hz0, hz1, hz2⟩ := info_parts Try.info5
  have hcase : (1000000000000000 < x ∧ clampV x = 1000000000000000) ∨ (x < -1000000000000000 ∧ clampV x = -1000000000000000) ∨ (0 ≤ x ∧ x ≤ 1000000000000000 ∧ clampV x = x) ∨ (-1000000000000000 ≤ x ∧ x < 0 ∧ clampV x = x) := by
    unfold clampV; (repeat' split) <;> omega
  unfold varL
  rcases hcase with ⟨h1, hy⟩ | ⟨h1, hy⟩ | ⟨h1, h2, hy⟩ | ⟨h1, h2, hy⟩
  all_goals
    rw [hy]
    clear hy
  ·
    obtain ⟨k, hk⟩ : ∃ k, Hid (cnt (1000000000000000) = k) := ⟨_, rfl⟩
    have hk7 : k ≤ 7 := by rw [← hk.out]; exact cnt_le _
    have HK : Hid (keptL (1000000000000000) = (128 + (k : Int)) :: lof k (be k (1000000000000000))) := by
      have h := keptL_up (1000000000000000) (by omega)
      have e : cnt (1000000000000000) = k := hk.out
      rw [e] at h
      exact h
    go_enter Try.func35, Try.ntmps35
    go_wp2_with fail
    refine (l4Bytes_any (1000000000000000) k w (by omega) (by omega) hk.out).mono ?_
    rintro e w0 ⟨g, c, rfl, hV, hb⟩
    have hsz := hb.size
    have hown0 := World.ownsRow_lit (base := w0.heap.size) (e := 5) (size := 1) w0 #[] 0 (Nat.le_refl _) (Nat.zero_le _) rfl
    have hcl := cells_of_view ((hv.below hb).below ((Below.refl w0.heap.size w0).alloc (Nat.le_refl _) (.cells #[] 5)))
    go_wp2_with (first | (at_builtin; refine wpList_append_own _ rfl (.tmp 15) (.tmp 16) 34 rfl w0.heap.size 5 i0 (.int .u8 0) 1 1 Try.underlying34 hi hz0 hz1 hz2 rfl (by decide) (.slice (some ⟨w0.heap.size, 0, none⟩) 0 0) 0 [] rfl hown0 ⟨b, off, none⟩ n cap (bl (lof n f)) rfl (by rw [bl_len, lof_len]; omega) hcl (bl_one _) (by unfold maxLen; omega) (by omega) (by simp) ?_; intro v1 w1 hown1 hgr1 hnil1; simp only [Nat.zero_add, List.nil_append] at hown1; have hb1 : Below w0.heap.size w0 w1 := ((Below.refl _ _).alloc (Nat.le_refl _) _).grown hgr1 (by simp) (fun k hk => by simp only [Value.ownBlock, Option.some.injEq] at hk; omega); have hs1 := hb1.size; clear hown0 hcl hgr1 hnil1) | (at_builtin; refine wpList_append_own _ rfl (.tmp 17) (.tmp 22) 34 rfl w0.heap.size 5 i0 (.int .u8 0) 1 1 Try.underlying34 hi hz0 hz1 hz2 rfl (by decide) v1 _ _ rfl (hown1.alloc _) ⟨w1.heap.size, 0, none⟩ 1 1 [.int .u8 (128 + (k : Int))] rfl rfl (cellNew _ _ _) (bl_one [128 + (k : Int)]) (by unfold maxLen; omega) (by omega) (by simp; omega) ?_; intro v2 w2 hown2 hgr2 hnil2; have hb2 : Below w0.heap.size w0 w2 := (hb1.alloc hs1 _).grown hgr2 (by simp; omega) (fun k hk => (hown1.lt k hk).1); have hV2 := hV.below hb2; have hs2 := hb2.size; clear hgr2 hnil2 hb1 hown1) | (at_builtin; refine wpList_append_own _ rfl (.tmp 23) (.tmp 24) 34 rfl w0.heap.size 5 i0 (.int .u8 0) 1 1 Try.underlying34 hi hz0 hz1 hz2 rfl (by decide) v2 _ _ rfl hown2 ⟨g, 0, none⟩ k c (bl (lof k (be k (1000000000000000)))) rfl (by rw [bl_len, lof_len]; omega) (cells_of_view hV2) (bl_one _) (by unfold maxLen; omega) (by omega) (by omega) ?_; intro v4 w4 hown4 hgr4 hnil4; have hb4 : Below w0.heap.size w0 w4 := hb2.grown hgr4 hs2 (fun k hk => (hown2.lt k hk).1)))
    go_ret
    refine ⟨v4, rfl, ?_, hb.trans (hb4.mono hsz)⟩
    rw [HK.out]
    exact var_done _ hown4 hsz
  ·
    obtain ⟨k, hk⟩ : ∃ k, Hid (cnt (999999999999999) = k) := ⟨_, rfl⟩
    have hk7 : k ≤ 7 := by rw [← hk.out]; exact cnt_le _
    have HK : Hid (keptL (-1000000000000000) = (127 - (k : Int)) :: lof k (flipF (be k (999999999999999)) 0)) := by
      have h := keptL_down (-1000000000000000) (by omega)
      have e : cnt (-1 - (-1000000000000000)) = k := hk.out
      rw [e] at h
      exact h
    go_enter Try.func35, Try.ntmps35
    go_wp2_with fail
    refine (l4Bytes_any (999999999999999) k w (by omega) (by omega) hk.out).mono ?_
    rintro e w0 ⟨g, c, rfl, hV, hb⟩
    have hsz := hb.size
    have hown0 := World.ownsRow_lit (base := w0.heap.size) (e := 5) (size := 1) w0 #[] 0 (Nat.le_refl _) (Nat.zero_le _) rfl
    have hcl := cells_of_view ((hv.below hb).below ((Below.refl w0.heap.size w0).alloc (Nat.le_refl _) (.cells #[] 5)))
    go_wp2_with (first | (at_builtin; refine wpList_append_own _ rfl (.tmp 29) (.tmp 30) 34 rfl w0.heap.size 5 i0 (.int .u8 0) 1 1 Try.underlying34 hi hz0 hz1 hz2 rfl (by decide) (.slice (some ⟨w0.heap.size, 0, none⟩) 0 0) 0 [] rfl hown0 ⟨b, off, none⟩ n cap (bl (lof n f)) rfl (by rw [bl_len, lof_len]; omega) hcl (bl_one _) (by unfold maxLen; omega) (by omega) (by simp) ?_; intro v1 w1 hown1 hgr1 hnil1; simp only [Nat.zero_add, List.nil_append] at hown1; have hb1 : Below w0.heap.size w0 w1 := ((Below.refl _ _).alloc (Nat.le_refl _) _).grown hgr1 (by simp) (fun k hk => by simp only [Value.ownBlock, Option.some.injEq] at hk; omega); have hs1 := hb1.size; clear hown0 hcl hgr1 hnil1) | (at_builtin; refine wpList_append_own _ rfl (.tmp 31) (.tmp 36) 34 rfl w0.heap.size 5 i0 (.int .u8 0) 1 1 Try.underlying34 hi hz0 hz1 hz2 rfl (by decide) v1 _ _ rfl (hown1.alloc _) ⟨w1.heap.size, 0, none⟩ 1 1 [.int .u8 (127 - (k : Int))] rfl rfl (cellNew _ _ _) (bl_one [127 - (k : Int)]) (by unfold maxLen; omega) (by omega) (by simp; omega) ?_; intro v2 w2 hown2 hgr2 hnil2; have hb2 : Below w0.heap.size w0 w2 := (hb1.alloc hs1 _).grown hgr2 (by simp; omega) (fun k hk => (hown1.lt k hk).1); have hV2 := hV.below hb2; have hs2 := hb2.size; clear hgr2 hnil2 hb1 hown1))
    refine (flip_spec g 0 k c (be k (999999999999999)) 0 w2 hV2 (by omega)).mono ?_
    rintro e w3 ⟨g2, c2, rfl, hg2, hc2, hr3, hb3⟩
    have hown3 := own_below hown2 hb3
    have hV3 := hr3.view hc2 (flipF_byte 0 (fun i _ => be_bd _ _ i))
    replace hb3 := hb2.trans (hb3.mono hs2)
    have hs3 := hb3.size
    clear hown2 hb2 hV2 hr3
    go_wp2_with (at_builtin; refine wpList_append_own _ rfl (.tmp 37) (.tmp 39) 34 rfl w0.heap.size 5 i0 (.int .u8 0) 1 1 Try.underlying34 hi hz0 hz1 hz2 rfl (by decide) v2 _ _ rfl hown3 ⟨g2, 0, none⟩ k c2 (bl (lof k (flipF (be k (999999999999999)) 0))) rfl (by rw [bl_len, lof_len]; omega) (cells_of_view hV3) (bl_one _) (by unfold maxLen; omega) (by omega) (by omega) ?_; intro v4 w4 hown4 hgr4 hnil4; have hb4 : Below w0.heap.size w0 w4 := hb3.grown hgr4 hs3 (fun k hk => (hown3.lt k hk).1))
    go_ret
    refine ⟨v4, rfl, ?_, hb.trans (hb4.mono hsz)⟩
    rw [HK.out]
    exact var_done _ hown4 hsz
  ·
    obtain ⟨k, hk⟩ : ∃ k, Hid (cnt (x) = k) := ⟨_, rfl⟩
    have hk7 : k ≤ 7 := by rw [← hk.out]; exact cnt_le _
    have HK : Hid (keptL (x) = (128 + (k : Int)) :: lof k (be k (x))) := by
      have h := keptL_up (x) (by omega)
      have e : cnt (x) = k := hk.out
      rw [e] at h
      exact h
    go_enter Try.func35, Try.ntmps35
    go_wp2_with fail
    refine (l4Bytes_any (x) k w (by omega) (by omega) hk.out).mono ?_
    rintro e w0 ⟨g, c, rfl, hV, hb⟩
    have hsz := hb.size
    have hown0 := World.ownsRow_lit (base := w0.heap.size) (e := 5) (size := 1) w0 #[] 0 (Nat.le_refl _) (Nat.zero_le _) rfl
    have hcl := cells_of_view ((hv.below hb).below ((Below.refl w0.heap.size w0).alloc (Nat.le_refl _) (.cells #[] 5)))
    go_wp2_with (first | (at_builtin; refine wpList_append_own _ rfl (.tmp 15) (.tmp 16) 34 rfl w0.heap.size 5 i0 (.int .u8 0) 1 1 Try.underlying34 hi hz0 hz1 hz2 rfl (by decide) (.slice (some ⟨w0.heap.size, 0, none⟩) 0 0) 0 [] rfl hown0 ⟨b, off, none⟩ n cap (bl (lof n f)) rfl (by rw [bl_len, lof_len]; omega) hcl (bl_one _) (by unfold maxLen; omega) (by omega) (by simp) ?_; intro v1 w1 hown1 hgr1 hnil1; simp only [Nat.zero_add, List.nil_append] at hown1; have hb1 : Below w0.heap.size w0 w1 := ((Below.refl _ _).alloc (Nat.le_refl _) _).grown hgr1 (by simp) (fun k hk => by simp only [Value.ownBlock, Option.some.injEq] at hk; omega); have hs1 := hb1.size; clear hown0 hcl hgr1 hnil1) | (at_builtin; refine wpList_append_own _ rfl (.tmp 17) (.tmp 22) 34 rfl w0.heap.size 5 i0 (.int .u8 0) 1 1 Try.underlying34 hi hz0 hz1 hz2 rfl (by decide) v1 _ _ rfl (hown1.alloc _) ⟨w1.heap.size, 0, none⟩ 1 1 [.int .u8 (128 + (k : Int))] rfl rfl (cellNew _ _ _) (bl_one [128 + (k : Int)]) (by unfold maxLen; omega) (by omega) (by simp; omega) ?_; intro v2 w2 hown2 hgr2 hnil2; have hb2 : Below w0.heap.size w0 w2 := (hb1.alloc hs1 _).grown hgr2 (by simp; omega) (fun k hk => (hown1.lt k hk).1); have hV2 := hV.below hb2; have hs2 := hb2.size; clear hgr2 hnil2 hb1 hown1) | (at_builtin; refine wpList_append_own _ rfl (.tmp 23) (.tmp 24) 34 rfl w0.heap.size 5 i0 (.int .u8 0) 1 1 Try.underlying34 hi hz0 hz1 hz2 rfl (by decide) v2 _ _ rfl hown2 ⟨g, 0, none⟩ k c (bl (lof k (be k (x)))) rfl (by rw [bl_len, lof_len]; omega) (cells_of_view hV2) (bl_one _) (by unfold maxLen; omega) (by omega) (by omega) ?_; intro v4 w4 hown4 hgr4 hnil4; have hb4 : Below w0.heap.size w0 w4 := hb2.grown hgr4 hs2 (fun k hk => (hown2.lt k hk).1)))
    go_ret
    refine ⟨v4, rfl, ?_, hb.trans (hb4.mono hsz)⟩
    rw [HK.out]
    exact var_done _ hown4 hsz
  ·
    obtain ⟨k, hk⟩ : ∃ k, Hid (cnt (-1 - x) = k) := ⟨_, rfl⟩
    have hk7 : k ≤ 7 := by rw [← hk.out]; exact cnt_le _
    have HK : Hid (keptL (x) = (127 - (k : Int)) :: lof k (flipF (be k (-1 - x)) 0)) := by
      have h := keptL_down (x) (by omega)
      have e : cnt (-1 - (x)) = k := hk.out
      rw [e] at h
      exact h
    go_enter Try.func35, Try.ntmps35
    go_wp2_with fail
    refine (l4Bytes_any (-1 - x) k w (by omega) (by omega) hk.out).mono ?_
    rintro e w0 ⟨g, c, rfl, hV, hb⟩
    have hsz := hb.size
    have hown0 := World.ownsRow_lit (base := w0.heap.size) (e := 5) (size := 1) w0 #[] 0 (Nat.le_refl _) (Nat.zero_le _) rfl
    have hcl := cells_of_view ((hv.below hb).below ((Below.refl w0.heap.size w0).alloc (Nat.le_refl _) (.cells #[] 5)))
    go_wp2_with (first | (at_builtin; refine wpList_append_own _ rfl (.tmp 29) (.tmp 30) 34 rfl w0.heap.size 5 i0 (.int .u8 0) 1 1 Try.underlying34 hi hz0 hz1 hz2 rfl (by decide) (.slice (some ⟨w0.heap.size, 0, none⟩) 0 0) 0 [] rfl hown0 ⟨b, off, none⟩ n cap (bl (lof n f)) rfl (by rw [bl_len, lof_len]; omega) hcl (bl_one _) (by unfold maxLen; omega) (by omega) (by simp) ?_; intro v1 w1 hown1 hgr1 hnil1; simp only [Nat.zero_add, List.nil_append] at hown1; have hb1 : Below w0.heap.size w0 w1 := ((Below.refl _ _).alloc (Nat.le_refl _) _).grown hgr1 (by simp) (fun k hk => by simp only [Value.ownBlock, Option.some.injEq] at hk; omega); have hs1 := hb1.size; clear hown0 hcl hgr1 hnil1) | (at_builtin; refine wpList_append_own _ rfl (.tmp 31) (.tmp 36) 34 rfl w0.heap.size 5 i0 (.int .u8 0) 1 1 Try.underlying34 hi hz0 hz1 hz2 rfl (by decide) v1 _ _ rfl (hown1.alloc _) ⟨w1.heap.size, 0, none⟩ 1 1 [.int .u8 (127 - (k : Int))] rfl rfl (cellNew _ _ _) (bl_one [127 - (k : Int)]) (by unfold maxLen; omega) (by omega) (by simp; omega) ?_; intro v2 w2 hown2 hgr2 hnil2; have hb2 : Below w0.heap.size w0 w2 := (hb1.alloc hs1 _).grown hgr2 (by simp; omega) (fun k hk => (hown1.lt k hk).1); have hV2 := hV.below hb2; have hs2 := hb2.size; clear hgr2 hnil2 hb1 hown1))
    refine (flip_spec g 0 k c (be k (-1 - x)) 0 w2 hV2 (by omega)).mono ?_
    rintro e w3 ⟨g2, c2, rfl, hg2, hc2, hr3, hb3⟩
    have hown3 := own_below hown2 hb3
    have hV3 := hr3.view hc2 (flipF_byte 0 (fun i _ => be_bd _ _ i))
    replace hb3 := hb2.trans (hb3.mono hs2)
    have hs3 := hb3.size
    clear hown2 hb2 hV2 hr3
    go_wp2_with (at_builtin; refine wpList_append_own _ rfl (.tmp 37) (.tmp 39) 34 rfl w0.heap.size 5 i0 (.int .u8 0) 1 1 Try.underlying34 hi hz0 hz1 hz2 rfl (by decide) v2 _ _ rfl hown3 ⟨g2, 0, none⟩ k c2 (bl (lof k (flipF (be k (-1 - x)) 0))) rfl (by rw [bl_len, lof_len]; omega) (cells_of_view hV3) (bl_one _) (by unfold maxLen; omega) (by omega) (by omega) ?_; intro v4 w4 hown4 hgr4 hnil4; have hb4 : Below w0.heap.size w0 w4 := hb3.grown hgr4 hs3 (fun k hk => (hown3.lt k hk).1))
    go_ret
    refine ⟨v4, rfl, ?_, hb.trans (hb4.mono hsz)⟩
    rw [HK.out]
    exact var_done _ hown4 hsz
end Go.Proofs.Ytikopeihkbpjhas

/-
  The model's GetVar: it answers as the program's.
-/
namespace Go.Proofs.Ytikopeihkbpjhas
open Go.RowKit
set_option maxRecDepth 4000

theorem view_nil (w : World) (b : Nat) : View w (some ⟨b, 0, none⟩) 0 0 (fun _ => 0) := ⟨Nat.le_refl _, fun _ hi => absurd hi (Nat.not_lt_zero _), fun h => absurd h (Nat.lt_irrefl _)⟩

set_option maxHeartbeats 1000000 in
theorem l1In_any (x l m : Int) (w : World) :
    Calls Try.prog 68 #[.int .i64 x, .int .i64 l, .int .i64 m] w fun e w' => e = .returned (.bool (decide (l ≤ x) && decide (x ≤ m))) ∧ w = w' := by
  go_enter Try.func68, Try.ntmps68
  by_cases h : l ≤ x
  · have e1 : decide (l ≤ x) = true := by simpa using h
    go_wp2
    go_ret
    exact ⟨by simp [h], rfl⟩
  · have e1 : decide (l ≤ x) = false := by simpa using h
    go_wp2
    go_ret
    exact ⟨by simp, rfl⟩

theorem l1In_yes (x l m : Int) (w : World) (h1 : l ≤ x) (h2 : x ≤ m) :
    Calls Try.prog 68 #[.int .i64 x, .int .i64 l, .int .i64 m] w fun e w' => e = .returned (.bool true) ∧ w = w' := by
  have h := l1In_any x l m w
  rw [decide_eq_true h1, decide_eq_true h2] at h
  exact h
theorem l1In_no (x l m : Int) (w : World) (h1 : x < l ∨ m < x) :
    Calls Try.prog 68 #[.int .i64 x, .int .i64 l, .int .i64 m] w fun e w' => e = .returned (.bool false) ∧ w = w' := by
  have h := l1In_any x l m w
  have e : (decide (l ≤ x) && decide (x ≤ m)) = false := by
    rcases h1 with h1 | h1
    · rw [decide_eq_false (by omega), Bool.false_and]
    · rw [decide_eq_false (p := x ≤ m) (by omega), Bool.and_false]
  rw [e] at h
  exact h

/-- How many bytes the model puts of a number. -/
theorem putVar_many (b : Nat) (x : Int) (k : Nat) (w : World) (hk : Hid ((varL x).length = k + 1)) (hx0 : -9223372036854775808 ≤ x) (hx1 : x ≤ 9223372036854775807) :
    Calls Try.prog 35 #[.slice (some ⟨b, 0, none⟩) 0 0, .int .i64 x] w fun e w' => ∃ g c, e = .returned (.slice (some ⟨g, 0, none⟩) (k + 1) c) ∧ Below w.heap.size w w' := by
  refine (putVar_own b 0 0 0 (fun _ => 0) x w (view_nil w b) (by omega) hx0 hx1).mono ?_
  rintro e w' ⟨v, rfl, hown, hb⟩
  rw [Nat.zero_add, hk.out] at hown
  obtain ⟨g, c, rfl, hg, hc, hr⟩ := row_of_own hown (by omega)
  exact ⟨g, c, rfl, hb⟩

theorem sizeV_num (f : Nat → Int) (i : Nat) (h : 0 ≤ valF (hcnt (f i)) (digF f i)) : sizeV (numV f i) = valF (hcnt (f i)) (digF f i) := by
  unfold sizeV numV
  (repeat' split) <;> omega

set_option maxHeartbeats 1000000 in
theorem getVar_spec {a q : Int} {ok : Bool} (b off n cap : Nat) (f : Nat → Int) (p : Int) (w : World) (hg : Hid (getV n f p = (a, q, ok))) (hv : View w (some ⟨b, off, none⟩) n cap f) (hn : n ≤ 70368744177664) (hp1 : p ≤ 9223372036854775807) :
    Calls Try.prog 62 #[.slice (some ⟨b, off, none⟩) n cap, .int .i64 p] w fun e w' => e = .returned (.tuple #[.int .i64 a, .int .i64 q, .bool ok]) ∧ Below w.heap.size w w' := by
  by_cases hp : p < 0
  · have e := hg.out
    rw [getV_out n f p (Or.inl hp)] at e
    obtain ⟨rfl, rfl, rfl⟩ : 0 = a ∧ 0 = q ∧ false = ok := by simpa using e
    clear hg e
    go_enter Try.func62, Try.ntmps62
    go_wp2
    go_ret3
    exact ⟨rfl, Below.refl _ _⟩
  by_cases h4 : (n : Int) ≤ p
  · have e := hg.out
    rw [getV_out n f p (Or.inr h4)] at e
    obtain ⟨rfl, rfl, rfl⟩ : 0 = a ∧ 0 = q ∧ false = ok := by simpa using e
    clear hg e
    go_enter Try.func62, Try.ntmps62
    go_wp2
    go_ret3
    exact ⟨rfl, Below.refl _ _⟩
  obtain ⟨i, rfl⟩ := Int.eq_ofNat_of_zero_le (Int.not_lt.1 hp)
  have hin : i < n := by omega
  have hle := hv.le
  have hb0 := hv.byte i hin
  have hzi : (i : Int) < (n : Int) := by omega
  obtain ⟨b', off', e', hbl, hcs⟩ := hv.cells (by omega)
  cases e'
  have hci := hcs i hin
  clear hcs
  go_enter Try.func62, Try.ntmps62
  obtain ⟨c, hc⟩ : ∃ c, Hid (hcnt (f i) = c) := ⟨_, rfl⟩
  have hcz : (f i < 128 ∧ (c : Int) = 127 - f i) ∨ (128 ≤ f i ∧ (c : Int) = f i - 128) := by
    rw [← hc.out]; unfold hcnt; split
    · left; omega
    · right; omega
  go_wp2_with fail
  by_cases hf : 7 < c
  ·
    have e := hg.out
    rw [getV_few n f i hin (by rw [hc.out]; exact Or.inl hf)] at e
    obtain ⟨rfl, rfl, rfl⟩ : 0 = a ∧ 0 = q ∧ false = ok := by simpa using e
    clear hg e
    refine (l1In_no (f i) 120 135 w (by omega)).mono ?_
    rintro e _ ⟨rfl, rfl⟩
    clear hcz
    go_wp2
    go_ret3
    exact ⟨rfl, Below.refl _ _⟩
  refine (l1In_yes (f i) 120 135 w (by omega) (by omega)).mono ?_
  rintro e _ ⟨rfl, rfl⟩
  rcases hcz with ⟨hlow, hcz⟩ | ⟨hlow, hcz⟩
  ·
    have HD : Hid (turnF true (fun j => f (i + 1 + j)) = digF f i) := by show _ = _; unfold digF; rw [decide_eq_true (by omega)]
    have hzh : f i < 128 := by omega
    by_cases hfew : n < i + 1 + c
    ·
      have e := hg.out
      rw [getV_few n f i hin (by rw [hc.out]; exact Or.inr hfew)] at e
      obtain ⟨rfl, rfl, rfl⟩ : 0 = a ∧ 0 = q ∧ false = ok := by simpa using e
      clear hg e
      go_wp2_with fail
      refine (l4Read_no _ n cap _ _ true w (by omega) (by omega) (by omega) (Or.inr (by omega))).mono ?_
      rintro e _ ⟨rfl, rfl⟩
      go_wp2
      go_ret3
      exact ⟨rfl, Below.refl _ _⟩
    have hok : ¬ (7 < hcnt (f i) ∨ n < i + 1 + hcnt (f i)) := by rw [hc.out]; omega
    have hl4 := l4Read_any (some ⟨b, off, none⟩) n cap f (i + 1) c true w hv (by omega) (by omega) (by omega)
    rw [HD.out] at hl4
    have hvb := valF7 c (digF f i) (by omega) (by unfold digF; exact turnF_bd _ (fun j hj => hv.byte (i + 1 + j) (by omega)))
    have hx : numV f i = -1 - valF c (digF f i) := by unfold numV; rw [if_pos (by omega), hc.out]
    have hsz := sizeV_num f i (by rw [hc.out]; exact hvb.1)
    have hcv := cnt_valF c (digF f i) (by omega) (by unfold digF; exact turnF_bd _ (fun j hj => hv.byte (i + 1 + j) (by omega)))
    rw [hc.out] at hsz
    have HCV : Hid (cnt (valF c (digF f i)) = c ↔ ¬ (0 < c ∧ digF f i 0 = 0)) := hcv
    have HSZ : Hid (sizeV (numV f i) = valF c (digF f i)) := hsz
    clear hcv hsz HD
    generalize valF c (digF f i) = v at *
    rw [show ((i + 1 : Nat) : Int) = (i : Int) + 1 by omega] at hl4
    go_wp2_with fail
    rw [show -1 - (f i - 128) = (c : Int) by omega]
    refine hl4.mono ?_
    rintro e _ ⟨rfl, rfl⟩
    clear hl4
    by_cases hr : -1 - v < -1000000000000000 ∨ 1000000000000000 < -1 - v
    ·
      have e := hg.out
      rw [getV_bad n f i hin hok (by unfold badV; rw [hx]; exact Or.inr hr)] at e
      obtain ⟨rfl, rfl, rfl⟩ : 0 = a ∧ 0 = q ∧ false = ok := by simpa using e
      clear hg e
      go_wp2_with fail
      refine (l1In_no _ _ _ w hr).mono ?_
      rintro e _ ⟨rfl, rfl⟩
      go_wp2
      go_ret3
      exact ⟨rfl, Below.refl _ _⟩
    go_wp2_with fail
    refine (l1In_yes _ _ _ w (by omega) (by omega)).mono ?_
    rintro e _ ⟨rfl, rfl⟩
    go_wp2_with fail
    obtain ⟨k, hk⟩ : ∃ k, Hid (cnt v = k) := ⟨_, rfl⟩
    have HK : Hid ((varL (-1 - v)).length = k + 1) := by
      show _ = _
      have e1 : clampV (-1 - v) = -1 - v := by unfold clampV; rw [if_neg (by omega), if_neg (by omega)]
      have e2 := HSZ.out
      rw [hx] at e2
      unfold varL
      rw [keptL_len, e1, e2, hk.out]
    refine (putVar_many _ (-1 - v) k _ HK (by omega) (by omega)).mono ?_
    rintro e w1 ⟨g, cg, rfl, hb1⟩
    have hB : Below w.heap.size w w1 := ((Below.refl _ _).alloc (Nat.le_refl _) _).trans (hb1.mono (by simp))
    clear hb1 HK
    by_cases hkc : k = c
    · have hbad : ¬ badV f i := by
        unfold badV
        rw [hx, hc.out]
        have := HCV.out.1 (by rw [hk.out]; exact hkc)
        omega
      have e := hg.out
      rw [getV_is n f i hin hok hbad, hc.out, hx] at e
      simp only [Prod.mk.injEq] at e
      obtain ⟨rfl, rfl, rfl⟩ := e
      clear hg hbad HCV HSZ hx
      go_wp2_with fail
      go_ret3
      refine ⟨?_, hB⟩
      rw [hcz]
      rfl
    · have hbad : badV f i := by
        unfold badV
        rw [hc.out]
        by_cases h0 : 0 < c ∧ digF f i 0 = 0
        · exact Or.inl h0
        · exact absurd (HCV.out.2 h0) (by rw [hk.out]; exact hkc)
      have e := hg.out
      rw [getV_bad n f i hin hok hbad] at e
      obtain ⟨rfl, rfl, rfl⟩ : 0 = a ∧ 0 = q ∧ false = ok := by simpa using e
      clear hg e
      clear hbad HCV HSZ hx
      go_wp2_with fail
      go_ret3
      exact ⟨rfl, hB⟩
  ·
    have HD : Hid (turnF false (fun j => f (i + 1 + j)) = digF f i) := by show _ = _; unfold digF; rw [decide_eq_false (by omega)]
    have hzh : f i ≥ 128 := by omega
    have hdf : decide (f i - 128 < 0) = false := by simp; omega
    by_cases hfew : n < i + 1 + c
    ·
      have e := hg.out
      rw [getV_few n f i hin (by rw [hc.out]; exact Or.inr hfew)] at e
      obtain ⟨rfl, rfl, rfl⟩ : 0 = a ∧ 0 = q ∧ false = ok := by simpa using e
      clear hg e
      go_wp2_with fail
      refine (l4Read_no _ n cap _ _ false w (by omega) (by omega) (by omega) (Or.inr (by omega))).mono ?_
      rintro e _ ⟨rfl, rfl⟩
      go_wp2
      go_ret3
      exact ⟨rfl, Below.refl _ _⟩
    have hok : ¬ (7 < hcnt (f i) ∨ n < i + 1 + hcnt (f i)) := by rw [hc.out]; omega
    have hl4 := l4Read_any (some ⟨b, off, none⟩) n cap f (i + 1) c false w hv (by omega) (by omega) (by omega)
    rw [HD.out] at hl4
    have hvb := valF7 c (digF f i) (by omega) (by unfold digF; exact turnF_bd _ (fun j hj => hv.byte (i + 1 + j) (by omega)))
    have hx : numV f i = valF c (digF f i) := by unfold numV; rw [if_neg (by omega), hc.out]
    have hsz := sizeV_num f i (by rw [hc.out]; exact hvb.1)
    have hcv := cnt_valF c (digF f i) (by omega) (by unfold digF; exact turnF_bd _ (fun j hj => hv.byte (i + 1 + j) (by omega)))
    rw [hc.out] at hsz
    have HCV : Hid (cnt (valF c (digF f i)) = c ↔ ¬ (0 < c ∧ digF f i 0 = 0)) := hcv
    have HSZ : Hid (sizeV (numV f i) = valF c (digF f i)) := hsz
    clear hcv hsz HD
    generalize valF c (digF f i) = v at *
    rw [show ((i + 1 : Nat) : Int) = (i : Int) + 1 by omega] at hl4
    go_wp2_with fail
    rw [show f i - 128 = (c : Int) by omega]
    refine hl4.mono ?_
    rintro e _ ⟨rfl, rfl⟩
    clear hl4
    by_cases hr : v < -1000000000000000 ∨ 1000000000000000 < v
    ·
      have e := hg.out
      rw [getV_bad n f i hin hok (by unfold badV; rw [hx]; exact Or.inr hr)] at e
      obtain ⟨rfl, rfl, rfl⟩ : 0 = a ∧ 0 = q ∧ false = ok := by simpa using e
      clear hg e
      go_wp2_with fail
      refine (l1In_no _ _ _ w hr).mono ?_
      rintro e _ ⟨rfl, rfl⟩
      go_wp2
      go_ret3
      exact ⟨rfl, Below.refl _ _⟩
    go_wp2_with fail
    refine (l1In_yes _ _ _ w (by omega) (by omega)).mono ?_
    rintro e _ ⟨rfl, rfl⟩
    go_wp2_with fail
    obtain ⟨k, hk⟩ : ∃ k, Hid (cnt v = k) := ⟨_, rfl⟩
    have HK : Hid ((varL (v)).length = k + 1) := by
      show _ = _
      have e1 : clampV (v) = v := by unfold clampV; rw [if_neg (by omega), if_neg (by omega)]
      have e2 := HSZ.out
      rw [hx] at e2
      unfold varL
      rw [keptL_len, e1, e2, hk.out]
    refine (putVar_many _ (v) k _ HK (by omega) (by omega)).mono ?_
    rintro e w1 ⟨g, cg, rfl, hb1⟩
    have hB : Below w.heap.size w w1 := ((Below.refl _ _).alloc (Nat.le_refl _) _).trans (hb1.mono (by simp))
    clear hb1 HK
    by_cases hkc : k = c
    · have hbad : ¬ badV f i := by
        unfold badV
        rw [hx, hc.out]
        have := HCV.out.1 (by rw [hk.out]; exact hkc)
        omega
      have e := hg.out
      rw [getV_is n f i hin hok hbad, hc.out, hx] at e
      simp only [Prod.mk.injEq] at e
      obtain ⟨rfl, rfl, rfl⟩ := e
      clear hg hbad HCV HSZ hx
      go_wp2_with fail
      go_ret3
      refine ⟨?_, hB⟩
      rw [hcz]
      rfl
    · have hbad : badV f i := by
        unfold badV
        rw [hc.out]
        by_cases h0 : 0 < c ∧ digF f i 0 = 0
        · exact Or.inl h0
        · exact absurd (HCV.out.2 h0) (by rw [hk.out]; exact hkc)
      have e := hg.out
      rw [getV_bad n f i hin hok hbad] at e
      obtain ⟨rfl, rfl, rfl⟩ : 0 = a ∧ 0 = q ∧ false = ok := by simpa using e
      clear hg e
      clear hbad HCV HSZ hx
      go_wp2_with fail
      go_ret3
      exact ⟨rfl, hB⟩
end Go.Proofs.Ytikopeihkbpjhas

/-
  The program's GetU and the model's come to the same plain function, at every slice of bytes that reads and at every place.
-/
namespace Go.Proofs.Ytikopeihkbpjhas
open Go.RowKit
set_option maxRecDepth 4000

theorem ret3 {a b a' b' : Int} {c c' : Bool} (h1 : a = a') (h2 : b = b') (h3 : c = c') :
    Ending.returned (.tuple #[.int .i64 a, .int .i64 b, .bool c]) = .returned (.tuple #[.int .i64 a', .int .i64 b', .bool c']) := by rw [h1, h2, h3]

def getRet (r : Int × Int × Bool) : Ending := .returned (.tuple #[.int .i64 r.1, .int .i64 r.2.1, .bool r.2.2])

set_option maxHeartbeats 1000000 in
theorem getU_impl (ao : Option Addr) (n cap : Nat) (f : Nat → Int) (p : Int) (w : World) (hv : View w ao n cap f) (hn : n ≤ 281474976710656) (hp1 : p ≤ 9223372036854775807) :
    Calls Try.prog 46 #[.slice ao n cap, .int .i64 p] w fun e w' => e = getRet (getU n f p) ∧ w' = w := by
  by_cases hp : p < 0
  · rw [getU_neg n f p hp]
    go_enter Try.func46, Try.ntmps46
    go_wp2
    go_ret3
    exact ⟨rfl, rfl⟩
  obtain ⟨i, rfl⟩ := Int.eq_ofNat_of_zero_le (Int.not_lt.1 hp)
  by_cases h0 : i < n
  case neg =>
    rw [getU_past n f i (by omega)]
    have hge : (n : Int) ≤ (i : Int) := by omega
    go_enter Try.func46, Try.ntmps46
    go_wp2
    refine wp_loop_rounds 1 ?_
    rw [rounds_succ]
    go_wp2
    go_ret3
    exact ⟨rfl, rfl⟩
  obtain ⟨b, off, rfl, hb, hc⟩ := hv.cells (by omega)
  have hb0 := hv.byte i h0
  have hc0 := hc i h0
  have hz0 : (i : Int) < (n : Int) := by omega
  by_cases h1 : f i < 128
  · rw [getU_1 n f i h0 h1]
    clear hc hv
    go_enter Try.func46, Try.ntmps46
    go_wp2
    refine wp_loop_rounds 1 ?_
    rw [rounds_succ]
    go_wp2
    all_goals
      go_ret3
      exact ⟨ret3 (by first | rfl | (dsimp only; omega)) (by first | rfl | (dsimp only; omega)) rfl, rfl⟩
  by_cases h2 : i + 1 < n
  case neg =>
    rw [getU_2end n f i h0 (by omega) (by omega)]
    clear hc hv
    go_enter Try.func46, Try.ntmps46
    go_wp2
    refine wp_loop_rounds 2 ?_
    rw [rounds_succ]
    go_wp2
    all_goals
      rw [rounds_succ]
      go_wp2
    all_goals
      go_ret3
      exact ⟨ret3 (by first | rfl | (dsimp only; omega)) (by first | rfl | (dsimp only; omega)) rfl, rfl⟩
  have hb1 := hv.byte (i + 1) h2
  have hc1 := hc (i + 1) h2
  have hz1 : (i : Int) + 1 < (n : Int) := by omega
  by_cases h3 : f (i + 1) < 128
  case pos =>
    by_cases h4 : f (i + 1) = 0
    case pos =>
      rw [getU_2zero n f i h2 (by omega) h4]
      clear hc hv
      go_enter Try.func46, Try.ntmps46
      go_wp2
      refine wp_loop_rounds 2 ?_
      rw [rounds_succ]
      go_wp2
      all_goals
        rw [rounds_succ]
        go_wp2
      all_goals
        go_ret3
        exact ⟨ret3 (by first | rfl | (dsimp only; omega)) (by first | rfl | (dsimp only; omega)) rfl, rfl⟩
    case neg =>
      rw [getU_2 n f i h2 (by omega) h3 h4]
      clear hc hv
      go_enter Try.func46, Try.ntmps46
      go_wp2
      refine wp_loop_rounds 2 ?_
      rw [rounds_succ]
      go_wp2
      all_goals
        rw [rounds_succ]
        go_wp2
      all_goals
        go_ret3
        exact ⟨ret3 (by first | rfl | (dsimp only; omega)) (by first | rfl | (dsimp only; omega)) rfl, rfl⟩
  by_cases h5 : i + 2 < n
  case neg =>
    rw [getU_3end n f i h2 (by omega) (by omega) (by omega)]
    clear hc hv
    go_enter Try.func46, Try.ntmps46
    go_wp2
    refine wp_loop_rounds 3 ?_
    rw [rounds_succ]
    go_wp2
    all_goals
      rw [rounds_succ]
      go_wp2
    all_goals
      rw [rounds_succ]
      go_wp2
    all_goals
      go_ret3
      exact ⟨ret3 (by first | rfl | (dsimp only; omega)) (by first | rfl | (dsimp only; omega)) rfl, rfl⟩
  have hb2 := hv.byte (i + 2) h5
  have hc2 := hc (i + 2) h5
  have hz2 : (i : Int) + 2 < (n : Int) := by omega
  by_cases h6 : f (i + 2) < 128
  case neg =>
    rw [getU_long n f i h5 (by omega) (by omega) (by omega)]
    clear hc hv
    go_enter Try.func46, Try.ntmps46
    go_wp2
    refine wp_loop_rounds 4 ?_
    rw [rounds_succ]
    go_wp2
    all_goals
      rw [rounds_succ]
      go_wp2
    all_goals
      rw [rounds_succ]
      go_wp2
    all_goals
      rw [rounds_succ]
      go_wp2
    all_goals
      go_ret3
      exact ⟨ret3 (by first | rfl | (dsimp only; omega)) (by first | rfl | (dsimp only; omega)) rfl, rfl⟩
  by_cases h7 : f (i + 2) = 0 ∨ 1000000 < f i - 128 + (f (i + 1) - 128) * 128 + f (i + 2) * 16384
  case pos =>
    rw [getU_3no n f i h5 (by omega) (by omega) h6 h7]
    clear hc hv
    go_enter Try.func46, Try.ntmps46
    go_wp2
    refine wp_loop_rounds 3 ?_
    rw [rounds_succ]
    go_wp2
    all_goals
      rw [rounds_succ]
      go_wp2
    all_goals
      rw [rounds_succ]
      go_wp2
    all_goals
      go_ret3
      exact ⟨ret3 (by first | rfl | (dsimp only; omega)) (by first | rfl | (dsimp only; omega)) rfl, rfl⟩
  case neg =>
    rw [getU_3 n f i h5 (by omega) (by omega) h6 h7]
    clear hc hv
    go_enter Try.func46, Try.ntmps46
    go_wp2
    refine wp_loop_rounds 3 ?_
    rw [rounds_succ]
    go_wp2
    all_goals
      rw [rounds_succ]
      go_wp2
    all_goals
      rw [rounds_succ]
      go_wp2
    all_goals
      go_ret3
      exact ⟨ret3 (by first | rfl | (dsimp only; omega)) (by first | rfl | (dsimp only; omega)) rfl, rfl⟩
end Go.Proofs.Ytikopeihkbpjhas

/-
  The model's GetU comes to the same plain function as the program, at every slice of bytes that reads and at every place.
-/
namespace Go.Proofs.Ytikopeihkbpjhas
open Go.RowKit
set_option maxRecDepth 4000

set_option maxHeartbeats 1000000 in
theorem getU_spec (ao : Option Addr) (n cap : Nat) (f : Nat → Int) (p : Int) (w : World) (hv : View w ao n cap f) (hn : n ≤ 281474976710656) (hp1 : p ≤ 9223372036854775807) :
    Calls Try.prog 43 #[.slice ao n cap, .int .i64 p] w fun e w' => e = getRet (getU n f p) ∧ w' = w := by
  by_cases hp : p < 0
  · rw [getU_neg n f p hp]
    go_enter Try.func43, Try.ntmps43
    go_wp2
    refine wp_loop_rounds 1 ?_
    rw [rounds_succ]
    go_wp2
    go_ret3
    exact ⟨rfl, rfl⟩
  obtain ⟨i, rfl⟩ := Int.eq_ofNat_of_zero_le (Int.not_lt.1 hp)
  by_cases h0 : i < n
  case neg =>
    rw [getU_past n f i (by omega)]
    have hge : (n : Int) ≤ (i : Int) := by omega
    go_enter Try.func43, Try.ntmps43
    go_wp2
    refine wp_loop_rounds 1 ?_
    rw [rounds_succ]
    go_wp2
    go_ret3
    exact ⟨rfl, rfl⟩
  obtain ⟨b, off, rfl, hb, hc⟩ := hv.cells (by omega)
  have hb0 := hv.byte i h0
  have hc0 := hc i h0
  have hz0 : (i : Int) < (n : Int) := by omega
  have hA : ∀ x : Int, bits .and .i64 x 127 = x % 128 := i64_and127
  have q0 : bits .or .i64 0 (f i % 128) = f i % 128 := by
    rw [i64_or_add 0 0 (f i % 128) (by omega) (by decide) (by omega) (by simp [Int.emod_one]) (by omega) (by decide)]; omega
  by_cases h1 : f i < 128
  · rw [getU_1 n f i h0 h1]
    clear hc hv
    go_enter Try.func43, Try.ntmps43
    go_wp2
    refine wp_loop_rounds 1 ?_
    rw [rounds_succ]
    go_wp2
    all_goals
      go_ret3
      exact ⟨ret3 (by first | rfl | (dsimp only; omega)) (by first | rfl | (dsimp only; omega)) rfl, rfl⟩
  by_cases h2 : i + 1 < n
  case neg =>
    rw [getU_2end n f i h0 (by omega) (by omega)]
    clear hc hv
    go_enter Try.func43, Try.ntmps43
    go_wp2
    refine wp_loop_rounds 2 ?_
    rw [rounds_succ]
    go_wp2
    all_goals
      rw [rounds_succ]
      go_wp2
    all_goals
      go_ret3
      exact ⟨ret3 (by first | rfl | (dsimp only; omega)) (by first | rfl | (dsimp only; omega)) rfl, rfl⟩
  have hb1 := hv.byte (i + 1) h2
  have hc1 := hc (i + 1) h2
  have hz1 : (i : Int) + 1 < (n : Int) := by omega
  have q1 : bits .or .i64 (f i % 128) (f (i + 1) % 128 * 128) = f i % 128 + f (i + 1) % 128 * 128 :=
    i64_or_add 7 _ _ (by omega) (by show _ < (128 : Int); omega) (by omega) (by show _ % (128 : Int) = 0; omega) (by omega) (by decide)
  by_cases h3 : f (i + 1) < 128
  case pos =>
    by_cases h4 : f (i + 1) = 0
    case pos =>
      rw [getU_2zero n f i h2 (by omega) h4]
      clear hc hv
      go_enter Try.func43, Try.ntmps43
      go_wp2
      refine wp_loop_rounds 2 ?_
      rw [rounds_succ]
      go_wp2
      all_goals
        rw [rounds_succ]
        go_wp2
      all_goals
        go_ret3
        exact ⟨ret3 (by first | rfl | (dsimp only; omega)) (by first | rfl | (dsimp only; omega)) rfl, rfl⟩
    case neg =>
      rw [getU_2 n f i h2 (by omega) h3 h4]
      clear hc hv
      have hq1 : (f (i + 1) == 0) = false := beq_eq_false_iff_ne.2 h4
      go_enter Try.func43, Try.ntmps43
      go_wp2
      refine wp_loop_rounds 2 ?_
      rw [rounds_succ]
      go_wp2
      all_goals
        rw [rounds_succ]
        go_wp2
      all_goals
        go_ret3
        exact ⟨ret3 (by first | rfl | (dsimp only; omega)) (by first | rfl | (dsimp only; omega)) rfl, rfl⟩
  by_cases h5 : i + 2 < n
  case neg =>
    rw [getU_3end n f i h2 (by omega) (by omega) (by omega)]
    clear hc hv
    go_enter Try.func43, Try.ntmps43
    go_wp2
    refine wp_loop_rounds 3 ?_
    rw [rounds_succ]
    go_wp2
    all_goals
      rw [rounds_succ]
      go_wp2
    all_goals
      rw [rounds_succ]
      go_wp2
    all_goals
      go_ret3
      exact ⟨ret3 (by first | rfl | (dsimp only; omega)) (by first | rfl | (dsimp only; omega)) rfl, rfl⟩
  have hb2 := hv.byte (i + 2) h5
  have hc2 := hc (i + 2) h5
  have hz2 : (i : Int) + 2 < (n : Int) := by omega
  have q2 : bits .or .i64 (f i % 128 + f (i + 1) % 128 * 128) (f (i + 2) % 128 * 16384) = f i % 128 + f (i + 1) % 128 * 128 + f (i + 2) % 128 * 16384 :=
    i64_or_add 14 _ _ (by omega) (by show _ < (16384 : Int); omega) (by omega) (by show _ % (16384 : Int) = 0; omega) (by omega) (by decide)
  by_cases h6 : f (i + 2) < 128
  case neg =>
    rw [getU_long n f i h5 (by omega) (by omega) (by omega)]
    clear hc hv
    go_enter Try.func43, Try.ntmps43
    go_wp2
    refine wp_loop_rounds 4 ?_
    rw [rounds_succ]
    go_wp2
    all_goals
      rw [rounds_succ]
      go_wp2
    all_goals
      rw [rounds_succ]
      go_wp2
    all_goals
      rw [rounds_succ]
      go_wp2
    all_goals
      go_ret3
      exact ⟨ret3 (by first | rfl | (dsimp only; omega)) (by first | rfl | (dsimp only; omega)) rfl, rfl⟩
  by_cases h7 : f (i + 2) = 0 ∨ 1000000 < f i - 128 + (f (i + 1) - 128) * 128 + f (i + 2) * 16384
  case pos =>
    rw [getU_3no n f i h5 (by omega) (by omega) h6 h7]
    clear hc hv
    go_enter Try.func43, Try.ntmps43
    go_wp2
    refine wp_loop_rounds 3 ?_
    rw [rounds_succ]
    go_wp2
    all_goals
      rw [rounds_succ]
      go_wp2
    all_goals
      rw [rounds_succ]
      go_wp2
    all_goals
      go_ret3
      exact ⟨ret3 (by first | rfl | (dsimp only; omega)) (by first | rfl | (dsimp only; omega)) rfl, rfl⟩
  case neg =>
    rw [getU_3 n f i h5 (by omega) (by omega) h6 h7]
    clear hc hv
    have hq2 : (f (i + 2) == 0) = false := beq_eq_false_iff_ne.2 (fun e => h7 (Or.inl e))
    go_enter Try.func43, Try.ntmps43
    go_wp2
    refine wp_loop_rounds 3 ?_
    rw [rounds_succ]
    go_wp2
    all_goals
      rw [rounds_succ]
      go_wp2
    all_goals
      rw [rounds_succ]
      go_wp2
    all_goals
      go_ret3
      exact ⟨ret3 (by first | rfl | (dsimp only; omega)) (by first | rfl | (dsimp only; omega)) rfl, rfl⟩
end Go.Proofs.Ytikopeihkbpjhas

/-
  The model's GetText: the bytes behind a number that says how many they are, as a text.
-/
namespace Go.Proofs.Ytikopeihkbpjhas
open Go.RowKit
set_option maxRecDepth 4000

theorem getU_spec' {a b : Int} {c : Bool} (ao : Option Addr) (n cap : Nat) (f : Nat → Int) (p : Int) (w : World) (hg : Hid (getU n f p = (a, b, c))) (hv : View w ao n cap f) (hn : n ≤ 281474976710656) (hp1 : p ≤ 9223372036854775807) :
    Calls Try.prog 43 #[.slice ao n cap, .int .i64 p] w fun e w' => e = .returned (.tuple #[.int .i64 a, .int .i64 b, .bool c]) ∧ w = w' := by
  refine (getU_spec ao n cap f p w hv hn hp1).mono ?_
  rintro e w' ⟨he, hw⟩
  rw [hg.out] at he
  exact ⟨he, hw.symm⟩
set_option maxHeartbeats 1000000 in
theorem getText_spec (b off n cap : Nat) (f : Nat → Int) (p : Int) (w : World) (s : ByteArray) (q : Int) (ok : Bool) (hg : Hid (getText n f p = (s, q, ok))) (hv : View w (some ⟨b, off, none⟩) n cap f) (hn : n ≤ 281474976710656) (hp1 : p ≤ 9223372036854775807) :
    Calls Try.prog 63 #[.slice (some ⟨b, off, none⟩) n cap, .int .i64 p] w fun e w' => e = .returned (.tuple #[.string s, .int .i64 q, .bool ok]) ∧ w = w' := by
  obtain ⟨a, r, c, hu⟩ : ∃ a r c, Hid (getU n f p = (a, r, c)) := ⟨_, _, _, rfl⟩
  have hbd : c = true → 0 ≤ a ∧ a ≤ 1000000 ∧ 0 ≤ r ∧ r ≤ n := by rintro rfl; exact getU_bd hv.byte hu.out
  have hT : getText n f p = if c = true ∧ a ≤ n - r then (strOfNums (lof a.toNat (fun i => f (r.toNat + i))), r + a, true) else (strOfNums [], 0, false) := by unfold getText; rw [hu.out]
  rw [hg.out] at hT
  cases c with
  | false =>
    rw [if_neg (by simp)] at hT
    cases hT
    clear hbd
    go_enter Try.func63, Try.ntmps63
    go_wp2_with fail
    refine (getU_spec' _ n cap f p w hu hv hn hp1).mono ?_
    rintro e _ ⟨rfl, rfl⟩
    go_wp2
    go_ret3
    exact ⟨rfl, rfl⟩
  | true =>
    obtain ⟨h0, h1, h2, h3⟩ := hbd rfl
    obtain ⟨a, rfl⟩ := Int.eq_ofNat_of_zero_le h0
    obtain ⟨r, rfl⟩ := Int.eq_ofNat_of_zero_le h2
    clear hbd
    by_cases hl : (a : Int) ≤ n - r
    · rw [if_pos ⟨rfl, hl⟩, Int.toNat_natCast, Int.toNat_natCast] at hT
      simp only [Prod.mk.injEq] at hT
      obtain ⟨rfl, rfl, rfl⟩ := hT
      have hle := hv.le
      have hcap : (r : Int) + a ≤ cap := by omega
      by_cases hrc : r < cap
      · have hrz : (r : Int) < cap := by omega
        have q1 : (convert 34 9 (.slice (some ⟨b, off + r, none⟩) a (cap - r))).run Try.prog w = .ok (.string (strOfNums (lof a (fun i => f (r + i))))) w := conv_view (hv.cut (by omega))
        go_enter Try.func63, Try.ntmps63
        go_wp2_with fail
        refine (getU_spec' _ n cap f p w hu hv hn hp1).mono ?_
        rintro e _ ⟨rfl, rfl⟩
        go_wp2
        go_ret3
        exact ⟨rfl, rfl⟩
      · obtain rfl : r = cap := by omega
        obtain rfl : a = 0 := by omega
        have hrz : ¬ (r : Int) < r := by omega
        have q2 : (convert 34 9 (.slice (some ⟨b, off, none⟩) 0 0)).run Try.prog w = .ok (.string (strOfNums (lof 0 f))) w := conv_view ⟨Nat.le_refl _, fun _ h => absurd h (Nat.not_lt_zero _), fun h => absurd h (Nat.lt_irrefl _)⟩
        go_enter Try.func63, Try.ntmps63
        go_wp2_with fail
        refine (getU_spec' _ n r f p w hu hv hn hp1).mono ?_
        rintro e _ ⟨rfl, rfl⟩
        go_wp2
        go_ret3
        exact ⟨retT rfl (by omega) rfl, rfl⟩
    · rw [if_neg (by simp [hl])] at hT
      cases hT
      have hl2 : (n : Int) - r < a := by omega
      go_enter Try.func63, Try.ntmps63
      go_wp2_with fail
      refine (getU_spec' _ n cap f p w hu hv hn hp1).mono ?_
      rintro e _ ⟨rfl, rfl⟩
      go_wp2
      go_ret3
      exact ⟨rfl, rfl⟩
end Go.Proofs.Ytikopeihkbpjhas

/-
  The model's l7Val comes to the plain one.
-/
namespace Go.Proofs.Ytikopeihkbpjhas
open Go.RowKit
set_option maxRecDepth 4000

set_option linter.unusedSimpArgs false in
set_option maxHeartbeats 2000000 in
theorem specL7Val_any (b off N cb : Nat) (F : Nat → Int) (p : Int) (w : World) (hv : View w (some ⟨b, off, none⟩) N cb F) (hN : N ≤ 10000000) (hp1 : p ≤ 9223372036854775807) :
    Calls Try.prog 44 #[.slice (some ⟨b, off, none⟩) N cb, .int .i64 p] w fun e w' => e = gotRet (getR N F p) ∧ Below w.heap.size w w' := by
  obtain ⟨a, q1, ok, hu⟩ : ∃ a q1 ok, Hid (getU N F p = (a, q1, ok)) := ⟨_, _, _, rfl⟩
  have hb1 : Below w.heap.size w (w.alloc (.cells #[.int .i64 0, .int .i64 0, .string ⟨#[]⟩] 52)) := (Below.refl _ _).alloc (Nat.le_refl _) _
  have hbd : ok = true → 0 ≤ a ∧ a ≤ 1000000 ∧ 0 ≤ q1 ∧ q1 ≤ N := by rintro rfl; exact getU_bd hv.byte hu.out
  have hno : ok = false → a = 0 ∧ q1 = 0 := by rintro rfl; exact getU_none hu.out
  have hq1 : q1 ≤ 9223372036854775807 := by cases ok with
    | true => have := hbd rfl; omega
    | false => have := hno rfl; omega
  have hR := Box.new w 0 0 ⟨#[]⟩
  have hv1 := hv.below hb1
  obtain ⟨W1, hW1⟩ : ∃ W1, Hid (w.alloc (.cells #[.int .i64 0, .int .i64 0, .string ⟨#[]⟩] 52) = W1) := ⟨_, rfl⟩
  have hb2 : Below W1.heap.size W1 (W1.alloc (.cells #[.int .i64 a, .int .i64 0, .string ⟨#[]⟩] 52)) := (Below.refl _ _).alloc (Nat.le_refl _) _
  have hV := Box.new W1 a 0 ⟨#[]⟩
  rw [hW1.out] at hR hv1 hb1
  have hR2 := hR.below hb2
  have hv2 := hv1.below hb2
  have hB2 := hb1.trans (hb2.mono hb1.size)
  have hl1 : w.heap.size < W1.heap.size := hR.lt
  obtain ⟨W2, hW2⟩ : ∃ W2, Hid (W1.alloc (.cells #[.int .i64 a, .int .i64 0, .string ⟨#[]⟩] 52) = W2) := ⟨_, rfl⟩
  obtain ⟨A, hA⟩ : ∃ A, Hid (W1.heap.size = A) := ⟨_, rfl⟩
  rw [hW2.out] at hV hR2 hv2 hB2
  rw [hA.out] at hV
  have hAw : w.heap.size < A := by rw [← hA.out]; exact hl1
  go_enter Try.func44, Try.ntmps44
  go_wp2_with (rw [hW1.out])
  refine (getU_spec' _ N cb F p W1 hu hv1 (by omega) hp1).mono ?_
  rintro e _ ⟨rfl, rfl⟩
  clear hR hv1 hb2 hv
  have hG : Hid (getR N F p = (if a = 1 ∨ a = 2 then ⟨a, (getV N F q1).1, noBytes, (getV N F q1).2.1, ok && (getV N F q1).2.2⟩
    else if a = 3 then ⟨3, 0, (getText N F q1).1, (getText N F q1).2.1, ok && (getText N F q1).2.2⟩
    else if a = 4 then (if q1 < N then ⟨4, F q1.toNat, noBytes, q1 + 1, ok⟩ else ⟨4, 0, noBytes, q1, false⟩)
    else ⟨a, 0, noBytes, q1, ok⟩)) := by show _ = _; unfold getR; rw [hu.out]
  have hne : A ≠ w.heap.size := by omega
  clear hu
  obtain ⟨z0, z1, z2⟩ := hV.cells
  obtain ⟨y0, y1, y2⟩ := hV.frozen
  obtain ⟨r0, r1, r2⟩ := hR2.cells
  obtain ⟨s0, s1, s2⟩ := hR2.frozen
  by_cases c1 : a = 1 ∨ a = 2
  · obtain rfl : ok = true := by cases ok with
      | true => rfl
      | false => have := hno rfl; omega
    obtain ⟨v, q2, o2, hgv⟩ : ∃ v q2 o2, Hid (getV N F q1 = (v, q2, o2)) := ⟨_, _, _, rfl⟩
    have HG : Hid (getR N F p = ⟨a, v, noBytes, q2, o2⟩) := by show _ = _; rw [hG.out, if_pos c1, hgv.out]; rfl
    have hC := getVar_spec b off N cb F q1 W2 hgv hv2 (by omega) hq1
    clear hG hgv hno hbd
    rcases c1 with rfl | rfl
    · go_wp2_with (rw [hW2.out, hA.out])
      refine hC.mono ?_
      rintro e w3 ⟨rfl, hb3⟩
      have hV3 := hV.below hb3
      have hR3 := hR2.below hb3
      have hB3 := hB2.trans (hb3.mono hB2.size)
      clear hC z0 z1 z2 y0 y1 y2 r0 r1 r2 s0 s1 s2
      obtain ⟨z0, z1, z2⟩ := hV3.cells
      obtain ⟨y0, y1, y2⟩ := hV3.frozen
      obtain ⟨r0, r1, r2⟩ := hR3.cells
      obtain ⟨s0, s1, s2⟩ := hR3.frozen
      have hR4 : Box (w3.setCell ⟨A, 1, none⟩ (.int .i64 v)) w.heap.size 0 0 ⟨#[]⟩ := hR3.other (D := A) (i := 1) (Ne.symm hne) (.int .i64 v)
      obtain ⟨g0, g1, g2⟩ := hR4.cells
      have hgs := stored3 (.int .i64 1) (.int .i64 v) (.string ⟨#[]⟩) g0 g1 g2
      have HBf : Hid (Below w.heap.size w ((((w3.setCell ⟨A, 1, none⟩ (.int .i64 v)).setCell ⟨w.heap.size, 0, none⟩ (.int .i64 1)).setCell ⟨w.heap.size, 1, none⟩ (.int .i64 v)).setCell ⟨w.heap.size, 2, none⟩ (.string ⟨#[]⟩))) := (((hB3.setCell (p := ⟨A, 1, none⟩) (Nat.le_of_lt hAw) (.int .i64 v)).setCell (p := ⟨w.heap.size, 0, none⟩) (Nat.le_refl _) _).setCell (p := ⟨w.heap.size, 1, none⟩) (Nat.le_refl _) _).setCell (p := ⟨w.heap.size, 2, none⟩) (Nat.le_refl _) _
      clear hb3 hV3 hV hR2 hv2 hB2 hR3 hR4 hB3
      go_wp2
      exact bodyPost_ret (v := .tuple #[.agg #[.int .i64 1, .int .i64 v, .string ⟨#[]⟩], .int .i64 q2, .bool o2]) (by simp [results, Try.results44, go_sem, hgs]) rfl ⟨by rw [HG.out]; rfl, HBf.out⟩
    · go_wp2_with (rw [hW2.out, hA.out])
      refine hC.mono ?_
      rintro e w3 ⟨rfl, hb3⟩
      have hV3 := hV.below hb3
      have hR3 := hR2.below hb3
      have hB3 := hB2.trans (hb3.mono hB2.size)
      clear hC z0 z1 z2 y0 y1 y2 r0 r1 r2 s0 s1 s2
      obtain ⟨z0, z1, z2⟩ := hV3.cells
      obtain ⟨y0, y1, y2⟩ := hV3.frozen
      obtain ⟨r0, r1, r2⟩ := hR3.cells
      obtain ⟨s0, s1, s2⟩ := hR3.frozen
      have hR4 : Box (w3.setCell ⟨A, 1, none⟩ (.int .i64 v)) w.heap.size 0 0 ⟨#[]⟩ := hR3.other (D := A) (i := 1) (Ne.symm hne) (.int .i64 v)
      obtain ⟨g0, g1, g2⟩ := hR4.cells
      have hgs := stored3 (.int .i64 2) (.int .i64 v) (.string ⟨#[]⟩) g0 g1 g2
      have HBf : Hid (Below w.heap.size w ((((w3.setCell ⟨A, 1, none⟩ (.int .i64 v)).setCell ⟨w.heap.size, 0, none⟩ (.int .i64 2)).setCell ⟨w.heap.size, 1, none⟩ (.int .i64 v)).setCell ⟨w.heap.size, 2, none⟩ (.string ⟨#[]⟩))) := (((hB3.setCell (p := ⟨A, 1, none⟩) (Nat.le_of_lt hAw) (.int .i64 v)).setCell (p := ⟨w.heap.size, 0, none⟩) (Nat.le_refl _) _).setCell (p := ⟨w.heap.size, 1, none⟩) (Nat.le_refl _) _).setCell (p := ⟨w.heap.size, 2, none⟩) (Nat.le_refl _) _
      clear hb3 hV3 hV hR2 hv2 hB2 hR3 hR4 hB3
      go_wp2
      exact bodyPost_ret (v := .tuple #[.agg #[.int .i64 2, .int .i64 v, .string ⟨#[]⟩], .int .i64 q2, .bool o2]) (by simp [results, Try.results44, go_sem, hgs]) rfl ⟨by rw [HG.out]; rfl, HBf.out⟩
  by_cases c2 : a = 3
  · obtain rfl : ok = true := by cases ok with
      | true => rfl
      | false => have := hno rfl; omega
    obtain ⟨v, q2, o2, hgv⟩ : ∃ v q2 o2, Hid (getText N F q1 = (v, q2, o2)) := ⟨_, _, _, rfl⟩
    have HG : Hid (getR N F p = ⟨3, 0, v, q2, o2⟩) := by show _ = _; rw [hG.out, if_neg c1, if_pos c2, hgv.out]; rfl
    have hC : Calls Try.prog 63 #[.slice (some ⟨b, off, none⟩) N cb, .int .i64 q1] W2 fun e w' => e = .returned (.tuple #[.string v, .int .i64 q2, .bool o2]) ∧ Below W2.heap.size W2 w' := (getText_spec b off N cb F q1 W2 v q2 o2 hgv hv2 (by omega) hq1).mono (fun e w' h => ⟨h.1, by rw [← h.2]; exact Below.refl _ _⟩)
    clear hG hgv hno hbd c1
    subst c2
    go_wp2_with (rw [hW2.out, hA.out])
    refine hC.mono ?_
    rintro e w3 ⟨rfl, hb3⟩
    have hV3 := hV.below hb3
    have hR3 := hR2.below hb3
    have hB3 := hB2.trans (hb3.mono hB2.size)
    clear hC z0 z1 z2 y0 y1 y2 r0 r1 r2 s0 s1 s2
    obtain ⟨z0, z1, z2⟩ := hV3.cells
    obtain ⟨y0, y1, y2⟩ := hV3.frozen
    obtain ⟨r0, r1, r2⟩ := hR3.cells
    obtain ⟨s0, s1, s2⟩ := hR3.frozen
    have hR4 : Box (w3.setCell ⟨A, 2, none⟩ (.string v)) w.heap.size 0 0 ⟨#[]⟩ := hR3.other (D := A) (i := 2) (Ne.symm hne) (.string v)
    obtain ⟨g0, g1, g2⟩ := hR4.cells
    have hgs := stored3 (.int .i64 3) (.int .i64 0) (.string v) g0 g1 g2
    have HBf : Hid (Below w.heap.size w ((((w3.setCell ⟨A, 2, none⟩ (.string v)).setCell ⟨w.heap.size, 0, none⟩ (.int .i64 3)).setCell ⟨w.heap.size, 1, none⟩ (.int .i64 0)).setCell ⟨w.heap.size, 2, none⟩ (.string v))) := (((hB3.setCell (p := ⟨A, 2, none⟩) (Nat.le_of_lt hAw) (.string v)).setCell (p := ⟨w.heap.size, 0, none⟩) (Nat.le_refl _) _).setCell (p := ⟨w.heap.size, 1, none⟩) (Nat.le_refl _) _).setCell (p := ⟨w.heap.size, 2, none⟩) (Nat.le_refl _) _
    clear hb3 hV3 hV hR2 hv2 hB2 hR3 hR4 hB3
    go_wp2
    exact bodyPost_ret (v := .tuple #[.agg #[.int .i64 3, .int .i64 0, .string v], .int .i64 q2, .bool o2]) (by simp [results, Try.results44, go_sem, hgs]) rfl ⟨by rw [HG.out]; rfl, HBf.out⟩
  by_cases c3 : a = 4
  · obtain rfl : ok = true := by cases ok with
      | true => rfl
      | false => have := hno rfl; omega
    have hbq := hbd rfl
    obtain ⟨j, rfl⟩ : ∃ j : Nat, q1 = j := ⟨q1.toNat, by omega⟩
    have hR3 := hR2
    have hB3 := hB2
    by_cases c4 : (j : Int) < (N : Int)
    · obtain ⟨b', o', e', hlt', hcc⟩ := hv2.cells (by omega)
      cases e'
      have hcj := hcc j (by omega)
      obtain ⟨v, hvj⟩ : ∃ v, F j = v := ⟨_, rfl⟩
      rw [hvj] at hcj
      have hvb := hv2.byte j (by omega)
      rw [hvj] at hvb
      have hwv : wrap64 v = v := by unfold wrap64; omega
      have HG : Hid (getR N F p = ⟨4, v, noBytes, (j : Int) + 1, true⟩) := by show _ = _; rw [hG.out, if_neg c1, if_neg c2, if_pos c3, if_pos c4, Int.toNat_natCast, hvj]
      clear hG hno hbd c1 c2 hcc hvj
      subst c3
      have hR4 : Box (W2.setCell ⟨A, 1, none⟩ (.int .i64 v)) w.heap.size 0 0 ⟨#[]⟩ := hR3.other (D := A) (i := 1) (Ne.symm hne) (.int .i64 v)
      obtain ⟨g0, g1, g2⟩ := hR4.cells
      have hgs := stored3 (.int .i64 4) (.int .i64 v) (.string ⟨#[]⟩) g0 g1 g2
      have HBf : Hid (Below w.heap.size w ((((W2.setCell ⟨A, 1, none⟩ (.int .i64 v)).setCell ⟨w.heap.size, 0, none⟩ (.int .i64 4)).setCell ⟨w.heap.size, 1, none⟩ (.int .i64 v)).setCell ⟨w.heap.size, 2, none⟩ (.string ⟨#[]⟩))) := (((hB3.setCell (p := ⟨A, 1, none⟩) (Nat.le_of_lt hAw) (.int .i64 v)).setCell (p := ⟨w.heap.size, 0, none⟩) (Nat.le_refl _) _).setCell (p := ⟨w.heap.size, 1, none⟩) (Nat.le_refl _) _).setCell (p := ⟨w.heap.size, 2, none⟩) (Nat.le_refl _) _
      clear hV hR2 hv2 hB2 hR3 hR4 hB3
      go_wp2_with (rw [hW2.out, hA.out])
      exact bodyPost_ret (v := .tuple #[.agg #[.int .i64 4, .int .i64 v, .string ⟨#[]⟩], .int .i64 ((j : Int) + 1), .bool true]) (by simp [results, Try.results44, go_sem, hgs]) rfl ⟨by rw [HG.out]; rfl, HBf.out⟩
    · have HG : Hid (getR N F p = ⟨4, 0, noBytes, (j : Int), false⟩) := by show _ = _; rw [hG.out, if_neg c1, if_neg c2, if_pos c3, if_neg c4]
      clear hG hno hbd c1 c2
      subst c3
      have hR4 : Box W2 w.heap.size 0 0 ⟨#[]⟩ := hR3
      obtain ⟨g0, g1, g2⟩ := hR4.cells
      have hgs := stored3 (.int .i64 4) (.int .i64 0) (.string ⟨#[]⟩) g0 g1 g2
      have HBf : Hid (Below w.heap.size w (((W2.setCell ⟨w.heap.size, 0, none⟩ (.int .i64 4)).setCell ⟨w.heap.size, 1, none⟩ (.int .i64 0)).setCell ⟨w.heap.size, 2, none⟩ (.string ⟨#[]⟩))) := ((hB3.setCell (p := ⟨w.heap.size, 0, none⟩) (Nat.le_refl _) _).setCell (p := ⟨w.heap.size, 1, none⟩) (Nat.le_refl _) _).setCell (p := ⟨w.heap.size, 2, none⟩) (Nat.le_refl _) _
      clear hV hR2 hv2 hB2 hR3 hR4 hB3
      go_wp2_with (rw [hW2.out, hA.out])
      exact bodyPost_ret (v := .tuple #[.agg #[.int .i64 4, .int .i64 0, .string ⟨#[]⟩], .int .i64 (j : Int), .bool false]) (by simp [results, Try.results44, go_sem, hgs]) rfl ⟨by rw [HG.out]; rfl, HBf.out⟩
  have HG : Hid (getR N F p = ⟨a, 0, noBytes, q1, ok⟩) := by show _ = _; rw [hG.out, if_neg c1, if_neg c2, if_neg c3]
  have c11 : ¬ a = 1 := fun e => c1 (.inl e)
  have c12 : ¬ a = 2 := fun e => c1 (.inr e)
  have hR3 := hR2
  have hB3 := hB2
  clear hG hno hbd c1
  have hR4 : Box W2 w.heap.size 0 0 ⟨#[]⟩ := hR3
  obtain ⟨g0, g1, g2⟩ := hR4.cells
  have hgs := stored3 (.int .i64 a) (.int .i64 0) (.string ⟨#[]⟩) g0 g1 g2
  have HBf : Hid (Below w.heap.size w (((W2.setCell ⟨w.heap.size, 0, none⟩ (.int .i64 a)).setCell ⟨w.heap.size, 1, none⟩ (.int .i64 0)).setCell ⟨w.heap.size, 2, none⟩ (.string ⟨#[]⟩))) := ((hB3.setCell (p := ⟨w.heap.size, 0, none⟩) (Nat.le_refl _) _).setCell (p := ⟨w.heap.size, 1, none⟩) (Nat.le_refl _) _).setCell (p := ⟨w.heap.size, 2, none⟩) (Nat.le_refl _) _
  clear hV hR2 hv2 hB2 hR3 hR4 hB3
  cases ok
  all_goals
    go_wp2_with (rw [hW2.out, hA.out])
    first | exact bodyPost_ret (v := .tuple #[.agg #[.int .i64 a, .int .i64 0, .string ⟨#[]⟩], .int .i64 q1, .bool true]) (by simp [results, Try.results44, go_sem, hgs]) rfl ⟨by rw [HG.out]; rfl, HBf.out⟩ | exact bodyPost_ret (v := .tuple #[.agg #[.int .i64 a, .int .i64 0, .string ⟨#[]⟩], .int .i64 q1, .bool false]) (by simp [results, Try.results44, go_sem, hgs]) rfl ⟨by rw [HG.out]; rfl, HBf.out⟩
end Go.Proofs.Ytikopeihkbpjhas

/-
  All up to a number.
-/
namespace Go.Proofs.Ytikopeihkbpjhas

theorem allUpto_no {p : Nat → Bool} {n k : Nat} (hk : k < n) (h : p k = false) : (List.range n).all p = false := by
  rw [Bool.eq_false_iff]
  intro e
  have := List.all_eq_true.1 e k (List.mem_range.2 hk)
  rw [h] at this; cases this
theorem allUpto_yes {p : Nat → Bool} {n : Nat} (h : ∀ i, i < n → p i = true) : (List.range n).all p = true :=
  List.all_eq_true.2 (fun i hi => h i (List.mem_range.1 hi))
end Go.Proofs.Ytikopeihkbpjhas

/-
  A slice of parts that reads, by functions of the index, and how that is carried from one world to the next.
-/
namespace Go.Proofs.Ytikopeihkbpjhas
open Go.RowKit
set_option maxRecDepth 4000

/-- The slice value '.slice ao n cap' reads, in the world w, as n parts. -/
structure PView (w : World) (ao : Option Addr) (n cap : Nat) (fc ft : Nat → Int) (fu fd : Nat → Bool) : Prop where
  le : n ≤ cap
  cells : 0 < n → ∃ b off, ao = some ⟨b, off, none⟩ ∧ b < w.heap.size ∧ ∀ i, i < n → w.cell? ⟨b, off + i * 4, none⟩ = some (.int .i64 (fc i)) ∧ w.cell? ⟨b, off + i * 4 + 1, none⟩ = some (.int .i64 (ft i)) ∧ w.cell? ⟨b, off + i * 4 + 2, none⟩ = some (.bool (fu i)) ∧ w.cell? ⟨b, off + i * 4 + 3, none⟩ = some (.bool (fd i))

theorem PView.below {w w' : World} {ao : Option Addr} {n cap : Nat} {fc ft : Nat → Int} {fu fd : Nat → Bool} (h : PView w ao n cap fc ft fu fd) (hb : Below w.heap.size w w') : PView w' ao n cap fc ft fu fd := by
  refine ⟨h.le, fun hn => ?_⟩
  obtain ⟨b, off, e, hlt, hc⟩ := h.cells hn
  refine ⟨b, off, e, Nat.lt_of_lt_of_le hlt hb.size, fun i hi => ?_⟩
  rw [hb.cell (p := ⟨b, off + i * 4, none⟩) hlt, hb.cell (p := ⟨b, off + i * 4 + 1, none⟩) hlt, hb.cell (p := ⟨b, off + i * 4 + 2, none⟩) hlt, hb.cell (p := ⟨b, off + i * 4 + 3, none⟩) hlt]
  exact hc i hi
end Go.Proofs.Ytikopeihkbpjhas

/-
  The model's soundness of a value comes to the plain one.
-/
namespace Go.Proofs.Ytikopeihkbpjhas
open Go.RowKit
set_option maxRecDepth 4000

/-- What the model asks, kind by kind. -/
theorem okF_spec0 (n : Int) (s : ByteArray) : okF 0 n s = (decide (n = 0) && decide (s = noBytes)) := by
  simp [okF, ofFields, V.rng, V.k, V.n, V.s, eq_comm]
theorem okF_spec1 (n : Int) (s : ByteArray) : okF 1 n s = (decide (-2147483648 ≤ n) && decide (n ≤ 2147483647) && decide (s = noBytes)) := by
  simp [okF, ofFields, V.rng, V.k, V.n, V.s, eq_comm]
theorem okF_spec2 (n : Int) (s : ByteArray) : okF 2 n s = (decide (-1000000000000000 ≤ n) && decide (n ≤ 1000000000000000) && decide (s = noBytes)) := by
  simp [okF, ofFields, V.rng, V.k, V.n, V.s, eq_comm]
theorem okF_spec3 (n : Int) (s : ByteArray) : okF 3 n s = (decide (s.size ≤ 30) && decide (n = 0)) := by
  simp [okF, ofFields, V.rng, V.k, V.n, V.s, eq_comm]
theorem okF_spec4 (n : Int) (s : ByteArray) : okF 4 n s = (decide (0 ≤ n) && decide (n ≤ 1) && decide (s = noBytes)) := by
  by_cases h0 : n = 0
  · subst h0; simp [okF, ofFields, V.rng, V.k, V.n, V.s, eq_comm]
  · by_cases h1 : n = 1
    · subst h1; simp [okF, ofFields, V.rng, V.k, V.n, V.s, eq_comm]
    · have e : (decide (0 ≤ n) && decide (n ≤ 1)) = false := by simp; omega
      rw [e]
      simp [okF, ofFields, V.rng, V.k, V.n, V.s, h0]
      intro h; omega
theorem okF_specX {k : Int} (n : Int) (s : ByteArray) (h0 : k ≠ 0) (h1 : k ≠ 1) (h2 : k ≠ 2) (h3 : k ≠ 3) (h4 : k ≠ 4) : okF k n s = false := by
  simp [okF, ofFields, h0, h1, h2, h3, h4]

theorem isE (s : ByteArray) : s.toList.isEmpty = decide (s = noBytes) := by
  rw [ByteArray.toList_eq]
  obtain ⟨⟨l⟩⟩ := s
  cases l with
  | nil => simp [noBytes]
  | cons c r => simp [noBytes]

set_option maxHeartbeats 1000000 in
theorem specValOk_any (k n : Int) (s : ByteArray) (w : World) (hs : s.size ≤ 281474976710656) :
    Calls Try.prog 69 #[valAgg k n s] w fun e w' => e = .returned (.bool (okF k n s)) ∧ Below w.heap.size w w' := by
  unfold valAgg
  by_cases k0 : k = 0
  · subst k0
    rw [okF_spec0]
    go_enter Try.func69, Try.ntmps69
    go_wp2
    all_goals
      go_ret
      refine ⟨congrArg (fun b => Ending.returned (.bool b)) ?_, (Below.refl _ _).alloc (Nat.le_refl _) _⟩
      first | rfl | (simp [isE, *] <;> omega) | (simp_all [isE] <;> omega)
  by_cases k1 : k = 1
  · subst k1
    rw [okF_spec1]
    go_enter Try.func69, Try.ntmps69
    go_wp2
    all_goals
      go_ret
      refine ⟨congrArg (fun b => Ending.returned (.bool b)) ?_, (Below.refl _ _).alloc (Nat.le_refl _) _⟩
      first | rfl | (simp [isE, *] <;> omega) | (simp_all [isE] <;> omega)
  by_cases k2 : k = 2
  · subst k2
    rw [okF_spec2]
    go_enter Try.func69, Try.ntmps69
    go_wp2
    all_goals
      go_ret
      refine ⟨congrArg (fun b => Ending.returned (.bool b)) ?_, (Below.refl _ _).alloc (Nat.le_refl _) _⟩
      first | rfl | (simp [isE, *] <;> omega) | (simp_all [isE] <;> omega)
  by_cases k3 : k = 3
  · subst k3
    rw [okF_spec3]
    go_enter Try.func69, Try.ntmps69
    go_wp2
    all_goals
      go_ret
      refine ⟨congrArg (fun b => Ending.returned (.bool b)) ?_, (Below.refl _ _).alloc (Nat.le_refl _) _⟩
      (rw [Bool.eq_iff_iff]; simp; omega)
  by_cases k4 : k = 4
  · subst k4
    rw [okF_spec4]
    go_enter Try.func69, Try.ntmps69
    go_wp2
    all_goals
      go_ret
      refine ⟨congrArg (fun b => Ending.returned (.bool b)) ?_, (Below.refl _ _).alloc (Nat.le_refl _) _⟩
      first | rfl | (simp [isE, *] <;> omega) | (simp_all [isE] <;> omega)
  rw [okF_specX n s k0 k1 k2 k3 k4]
  have q0 : (k == 0) = false := by simpa using k0
  have q1 : (k == 1) = false := by simpa using k1
  have q2 : (k == 2) = false := by simpa using k2
  have q3 : (k == 3) = false := by simpa using k3
  have q4 : (k == 4) = false := by simpa using k4
  clear k0 k1 k2 k3 k4
  go_enter Try.func69, Try.ntmps69
  go_wp2
  go_ret
  exact ⟨rfl, (Below.refl _ _).alloc (Nat.le_refl _) _⟩
end Go.Proofs.Ytikopeihkbpjhas

/-
  A part of a key in a variable of the call's own.
-/
namespace Go.Proofs.Ytikopeihkbpjhas
open Go.RowKit
set_option maxRecDepth 4000

/-- The four cells of a part. -/
def partC (c t : Int) (nul d : Bool) : Nat → Value
  | 0 => .int .i64 c
  | 1 => .int .i64 t
  | 2 => .bool nul
  | _ => .bool d

/-- A part in a variable of the call's own. -/
def PBox (w : World) (B : Nat) (c t : Int) (nul d : Bool) : Prop := w.rowIs B 49 4 (partC c t nul d)
section
variable {w w' : World} {B D i : Nat} {c t : Int} {nul d : Bool}
theorem PBox.new (w : World) (c t : Int) (nul d : Bool) : PBox (w.alloc (.cells #[.int .i64 c, .int .i64 t, .bool nul, .bool d] 49)) w.heap.size c t nul d :=
  World.rowIs_alloc w _ 49 (partC c t nul d) (fun j hj => by match j, hj with | 0, _ => rfl | 1, _ => rfl | 2, _ => rfl | 3, _ => rfl)
theorem PBox.cells (h : PBox w B c t nul d) : w.cell? ⟨B, 0, none⟩ = some (.int .i64 c) ∧ w.cell? ⟨B, 1, none⟩ = some (.int .i64 t) ∧ w.cell? ⟨B, 2, none⟩ = some (.bool nul) ∧ w.cell? ⟨B, 3, none⟩ = some (.bool d) :=
  ⟨h.cell (i := 0) (by decide), h.cell (i := 1) (by decide), h.cell (i := 2) (by decide), h.cell (i := 3) (by decide)⟩
theorem PBox.frozen (h : PBox w B c t nul d) : w.frozen? ⟨B, 0, none⟩ = false ∧ w.frozen? ⟨B, 1, none⟩ = false ∧ w.frozen? ⟨B, 2, none⟩ = false ∧ w.frozen? ⟨B, 3, none⟩ = false :=
  ⟨World.rowIs.frozen h 0, World.rowIs.frozen h 1, World.rowIs.frozen h 2, World.rowIs.frozen h 3⟩
theorem PBox.lt (h : PBox w B c t nul d) : B < w.heap.size := World.rowIs.lt h
theorem PBox.below (h : PBox w B c t nul d) (hb : Below w.heap.size w w') : PBox w' B c t nul d := h.of_block (hb.block B h.lt)
theorem PBox.other (h : PBox w B c t nul d) (hne : B ≠ D) (u : Value) : PBox (w.setCell ⟨D, i, none⟩ u) B c t nul d := h.of_block (Below.heap_setCell _ _ _ _ hne)
theorem PBox.drew (h : PBox w B c t nul d) : PBox w.drew B c t nul d := h
end
end Go.Proofs.Ytikopeihkbpjhas

