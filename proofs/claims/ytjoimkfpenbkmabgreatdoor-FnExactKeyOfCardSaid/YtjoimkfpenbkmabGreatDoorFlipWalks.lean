/-
  FlipWalks
-/
import Derived.Test.YtjoimkfpenbkmabGreatDoorPackK15
/-
  Flip, the program's and the model's: from the place on all bits of the bytes turned, in memory of its own.
-/
namespace Go.Proofs.YtjoimkfpenbkmabGreatDoor
open Go.RowKit
set_option maxRecDepth 4000

/-- The bytes of f, from p on turned. -/
def flipF (f : Nat → Int) (p : Int) (i : Nat) : Int := if p ≤ i then 255 - f i else f i
theorem flipF_byte {n : Nat} {f : Nat → Int} (p : Int) (h : ∀ i, i < n → 0 ≤ f i ∧ f i ≤ 255) : ∀ i, i < n → 0 ≤ flipF f p i ∧ flipF f p i ≤ 255 := by
  intro i hi
  have := h i hi
  unfold flipF
  split <;> omega

/-- k of the n bytes are turned, as far as they are to be. -/
structure Flipped (t : TypeId) (w wr : World) (g n : Nat) (f : Nat → Int) (p : Int) (k : Nat) : Prop where
  row : Row t wr g n (fun i => if i < k then flipF f p i else f i)
  below : Below w.heap.size w wr

theorem flipped_turn {t : TypeId} {w wr : World} {g n : Nat} {f : Nat → Int} {p : Int} {k : Nat} (h : Flipped t w wr g n f p k) (hg : w.heap.size ≤ g) (hp : p ≤ k) : Flipped t w (wr.setCell ⟨g, k, none⟩ (.int .u8 (255 - f k))) g n f p (k + 1) := by
  refine ⟨(h.row.set k _).congr (fun i _ => ?_), h.below.setCell hg _⟩
  by_cases e : i = k
  · subst e; simp [flipF, hp]
  · rw [if_neg e]
    by_cases hlt : i < k
    · rw [if_pos hlt, if_pos (by omega)]
    · rw [if_neg hlt, if_neg (by omega)]
theorem flipped_keep {t : TypeId} {w wr : World} {g n : Nat} {f : Nat → Int} {p : Int} {k : Nat} (h : Flipped t w wr g n f p k) (hp : ¬ p ≤ k) : Flipped t w wr g n f p (k + 1) := by
  refine ⟨h.row.congr (fun i _ => ?_), h.below⟩
  by_cases e : i = k
  · subst e; simp [flipF, hp]
  · by_cases hlt : i < k
    · rw [if_pos hlt, if_pos (by omega)]
    · rw [if_neg hlt, if_neg (by omega)]

set_option maxHeartbeats 1000000 in
theorem flip_spec (b off n cap : Nat) (f : Nat → Int) (p : Int) (w : World) (hv : View w (some ⟨b, off, none⟩) n cap f) (hn : n ≤ 70368744177664) :
    Calls Tryz.prog 102 #[.slice (some ⟨b, off, none⟩) n cap, .int .i64 p] w fun e w' => ∃ g c, e = .returned (.slice (some ⟨g, 0, none⟩) n c) ∧ w.heap.size ≤ g ∧ n ≤ c ∧ Row 5 w' g n (flipF f p) ∧ Below w.heap.size w w' := by
  obtain ⟨i0, hi, hz0, hz1, hz2⟩ := info_parts Tryz.info5
  have hown0 := World.ownsRow_lit (base := w.heap.size) (e := 5) (size := 1) w #[] 0 (Nat.le_refl _) (Nat.zero_le _) rfl
  have hb0 : Below w.heap.size w (w.alloc (.cells #[] 5)) := (Below.refl _ _).alloc (Nat.le_refl _) _
  have hcl := cells_of_view (hv.below hb0)
  have hsz : (w.alloc (.cells #[] 5)).heap.size = w.heap.size + 1 := by simp
  have hby := hv.byte
  go_enter Tryz.func102, Tryz.ntmps102
  go_wp2_with (at_builtin; go_must (refine wpList_append_own _ rfl (.tmp 7) (.tmp 8) 26 rfl w.heap.size 5 i0 (.int .u8 0) 1 1 Tryz.underlying26 hi hz0 hz1 hz2 rfl (by decide) (.slice (some ⟨w.heap.size, 0, none⟩) 0 0) 0 [] rfl hown0 ⟨b, off, none⟩ n cap (bl (lof n f)) rfl (by rw [bl_len, lof_len]; omega) hcl (bl_one _) (by unfold maxLen; omega) (by omega) (by rw [hsz]; omega) ?_); intro v1 w1 hown1 hgr1 hnil; simp only [Nat.zero_add, List.nil_append] at hown1; obtain ⟨g, c, rfl, hg, hgc, hrow⟩ := row_of_own' hown1 (by intro h; have := (hnil.1 h).1; cases this))
  have hb1 : Below w.heap.size w w1 := hb0.grown hgr1 (by simp) (fun k hk => by simp only [Value.ownBlock, Option.some.injEq] at hk; omega)
  have hF0 : Flipped 5 w w1 g n f p 0 := ⟨hrow.congr (fun i hi => by rw [lof_get n f i hi]; simp), hb1⟩
  clear hown0 hcl hsz hgr1 hb0 hv hown1 hnil hrow hb1
  go_loopg [6] n (fun q i wr => ∃ k : Nat, k ≤ n ∧ q = n - k ∧ i = .int .i64 k ∧ Flipped 5 w wr g n f p k)
  case atStart => exact ⟨0, Nat.zero_le _, rfl, rfl, hF0⟩
  case round =>
    obtain ⟨k, hk, rfl, rfl, hF⟩ := hrel
    clear hF0
    by_cases hlt : k < n
    · have hkz : (k : Int) < (n : Int) := by omega
      by_cases hp : p ≤ (k : Int)
      · have hS : Hid (Flipped 5 w (wr.setCell ⟨g, k, none⟩ (.int .u8 (255 - f k))) g n f p (k + 1)) := flipped_turn hF hg hp
        have hc : wr.cell? ⟨g, k, none⟩ = some (.int .u8 (f k)) := by rw [hF.row.cell hlt, if_neg (Nat.lt_irrefl _)]
        have hf := hF.row.frozen k
        have hx : bits .xor .u8 IntKind.u8.max (f k) = 255 - f k := u8_not _ (hby k hlt).1 (hby k hlt).2
        clear hF hby
        go_wp2
        go_roundg (n - (k + 1))
        case measure => omega
        case rel => exact ⟨k + 1, by omega, rfl, by go_num, hS.out⟩
      · have hS : Hid (Flipped 5 w wr g n f p (k + 1)) := flipped_keep hF hp
        clear hF hby
        go_wp2
        go_roundg (n - (k + 1))
        case measure => omega
        case rel => exact ⟨k + 1, by omega, rfl, by go_num, hS.out⟩
    · obtain rfl : k = n := by omega
      have hR : Hid (Row 5 wr g k (flipF f p)) := hF.row.congr (fun i hi => by rw [if_pos hi])
      have hB := hF.below
      clear hF hby
      go_wp2
      go_ret
      exact ⟨g, c, rfl, hg, hgc, hR.out, hB⟩

set_option maxHeartbeats 1000000 in
theorem flip_impl (b off n cap : Nat) (f : Nat → Int) (p : Int) (w : World) (hv : View w (some ⟨b, off, none⟩) n cap f) (hn : n ≤ 70368744177664) (hp1 : p ≤ 9223372036854775807) :
    Calls Tryz.prog 122 #[.slice (some ⟨b, off, none⟩) n cap, .int .i64 p] w fun e w' => ∃ g c, e = .returned (.slice (some ⟨g, 0, none⟩) n c) ∧ w.heap.size ≤ g ∧ n ≤ c ∧ Row 5 w' g n (flipF f p) ∧ Below w.heap.size w w' := by
  have hby := hv.byte
  go_enter Tryz.func122, Tryz.ntmps122
  go_wp2_with fail
  refine (putBytes_any b off n cap f none 0 0 (fun _ => 0) w hv ⟨Nat.le_refl _, fun i hi => absurd hi (Nat.not_lt_zero _), fun h => absurd h (Nat.lt_irrefl _)⟩ (fun _ => ⟨rfl, rfl⟩) (by omega)).mono ?_
  rintro e w1 ⟨rfl, hown, hb1⟩
  rw [Nat.add_zero] at hown ⊢
  have hrow := row_of_owned hown
  have hR0 : Row 5 w1 w.heap.size n f := hrow.congr (fun i hi => by rw [show lof 0 (fun _ => (0 : Int)) = [] from rfl, List.append_nil, lof_get n f i hi])
  have HF : ∀ m : Nat, (∀ i : Nat, i < m → ¬ p ≤ i) → Flipped 5 w w1 w.heap.size n f p m := by
    intro m hm
    refine ⟨hR0.congr (fun i hi => ?_), hb1⟩
    by_cases e : i < m
    · rw [if_pos e, flipF, if_neg (hm i e)]
    · rw [if_neg e]
  have hF0 : Hid (p < 0 → Flipped 5 w w1 w.heap.size n f p 0) := fun _ => HF 0 (fun i hi => absurd hi (Nat.not_lt_zero _))
  have hF1 : Hid (0 ≤ p → Flipped 5 w w1 w.heap.size n f p p.toNat) := fun _ => HF p.toNat (fun i hi => by omega)
  clear hown hrow hR0 HF hv hb1
  go_wp2
  all_goals
    go_loopg [6] (n - p.toNat) (fun q i wr => ∃ k : Nat, q = n - k ∧ i = .int .i64 k ∧ (k : Int) ≤ 9223372036854775807 ∧ p ≤ k ∧ Flipped 5 w wr w.heap.size n f p k)
    case atStart => first
      | exact ⟨0, by omega, rfl, by omega, by omega, hF0.out (by omega)⟩
      | exact ⟨p.toNat, rfl, congrArg (Value.int .i64) (by omega), by omega, by omega, hF1.out (by omega)⟩
      | (by_cases hp0 : p < 0
         · exact ⟨0, by omega, congrArg (Value.int .i64) (by omega), by omega, by omega, hF0.out hp0⟩
         · exact ⟨p.toNat, rfl, congrArg (Value.int .i64) (by omega), by omega, by omega, hF1.out (by omega)⟩)
    case round =>
      obtain ⟨k, rfl, rfl, hk63, hpk, hF⟩ := hrel
      clear hF0 hF1
      by_cases hlt : k < n
      · have hkz : (k : Int) < (n : Int) := by omega
        have hS : Hid (Flipped 5 w (wr.setCell ⟨w.heap.size, k, none⟩ (.int .u8 (255 - f k))) w.heap.size n f p (k + 1)) := flipped_turn hF (Nat.le_refl _) hpk
        have hc : wr.cell? ⟨w.heap.size, k, none⟩ = some (.int .u8 (f k)) := by rw [hF.row.cell hlt, if_neg (Nat.lt_irrefl _)]
        have hf := hF.row.frozen k
        have hx : bits .xor .u8 IntKind.u8.max (f k) = 255 - f k := u8_not _ (hby k hlt).1 (hby k hlt).2
        clear hF hby
        go_wp2
        go_roundg (n - (k + 1))
        case measure => omega
        case rel => exact ⟨k + 1, rfl, by go_num, by omega, by omega, hS.out⟩
      · have hkz : (n : Int) ≤ (k : Int) := by omega
        have hR : Hid (Row 5 wr w.heap.size n (flipF f p)) := hF.row.congr (fun i hi => by rw [if_pos (by omega)])
        have hB := hF.below
        clear hF hby
        go_wp2
        go_ret
        exact ⟨w.heap.size, n, rfl, Nat.le_refl _, Nat.le_refl _, hR.out, hB⟩
end Go.Proofs.YtjoimkfpenbkmabGreatDoor

