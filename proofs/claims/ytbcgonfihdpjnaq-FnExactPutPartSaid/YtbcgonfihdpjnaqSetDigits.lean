/-
  The program's setDigits: it fills all of the room with the number's last bytes, the highest first, and writes nothing else.
-/
import Derived.Test.YtbcgonfihdpjnaqInfo
import Derived.Test.YtbcgonfihdpjnaqNumPlain
namespace Go.Proofs.Ytbcgonfihdpjnaq
open Go.RowKit
set_option maxRecDepth 4000

/-- From d on the room holds what it is to hold. -/
def fillF (off k d : Nat) (n : Int) (f : Nat → Int) (i : Nat) : Int := if off + d ≤ i ∧ i < off + k then be k n (i - off) else f i
theorem fillF_step (off k d : Nat) (n : Int) (f : Nat → Int) (hd : d + 1 ≤ k) (i : Nat) : (if i = off + d then n / 256 ^ (k - (d + 1)) % 256 else fillF off k (d + 1) n f i) = fillF off k d n f i := by
  unfold fillF
  by_cases e : i = off + d
  · subst e
    rw [if_pos rfl, if_pos (by omega)]
    unfold be dg
    rw [show k - 1 - (off + d - off) = k - (d + 1) by omega]
  · rw [if_neg e]
    by_cases h : off + (d + 1) ≤ i ∧ i < off + k
    · rw [if_pos h, if_pos (by omega)]
    · rw [if_neg h, if_neg (by omega)]

/-- Of the room all behind d is filled. -/
structure Filled (t : TypeId) (w wr : World) (g off k m : Nat) (n : Int) (f : Nat → Int) (d : Nat) : Prop where
  row : Row t wr g m (fillF off k d n f)
  only : Only g w wr
theorem filled_step {t : TypeId} {w wr : World} {g off k m : Nat} {n : Int} {f : Nat → Int} {d : Nat} (h : Filled t w wr g off k m n f (d + 1)) (hd : d + 1 ≤ k) : Filled t w (wr.setCell ⟨g, off + d, none⟩ (.int .u8 (n / 256 ^ (k - (d + 1)) % 256))) g off k m n f d :=
  ⟨(h.row.set (off + d) _).congr (fun i _ => fillF_step off k d n f hd i), h.only.setCell _⟩

set_option maxHeartbeats 1000000 in
theorem setDigits_any (t : TypeId) (g off k c m : Nat) (f : Nat → Int) (n : Int) (w : World) (hr : Row t w g m f) (hm : off + k ≤ m) (hk : k ≤ 1000) (hn0 : 0 ≤ n) :
    Calls Try.prog 71 #[.slice (some ⟨g, off, none⟩) k c, .int .i64 n] w fun e w' => e = .returned (.tuple #[]) ∧ Row t w' g m (fillF off k 0 n f) ∧ Only g w w' := by
  have hF0 : Filled t w w g off k m n f k := ⟨hr.congr (fun i _ => by unfold fillF; rw [if_neg (by omega)]), Only.refl _ _⟩
  clear hr
  go_enter Try.func71, Try.ntmps71
  go_wp2
  go_loopg [1, 4] k (fun q a i wr => ∃ d : Nat, d ≤ k ∧ q = d ∧ a = .int .i64 (n / 256 ^ (k - d)) ∧ i = .int .i64 ((d : Int) - 1) ∧ Filled t w wr g off k m n f d)
  case atStart => exact ⟨k, Nat.le_refl _, rfl, by simp, rfl, hF0⟩
  case round =>
    obtain ⟨d, hd, hq, rfl, rfl, hF⟩ := hrel
    clear hF0
    have ha0 : 0 ≤ n / 256 ^ (k - d) := Int.ediv_nonneg hn0 (Int.le_of_lt (Int.pow_pos (by decide)))
    have ha1 : n / 256 ^ (k - d) ≤ n := Int.ediv_le_self _ hn0
    rcases d with _ | d
    · have hR := hF.row
      have hO := hF.only
      clear hF
      go_wp2
      go_end0
      exact ⟨rfl, hR, hO⟩
    · have HS : Hid _ := filled_step hF hd
      have hc := hF.row.cell (i := off + d) (by omega)
      have hf := hF.row.frozen (off + d)
      have HN : Hid (n / 256 ^ (k - (d + 1)) / 256 = n / 256 ^ (k - d)) := by show _ = _; rw [div_pow_succ, show k - (d + 1) + 1 = k - d by omega]
      clear hF
      generalize n / 256 ^ (k - (d + 1)) = a at *
      go_wp2
      go_roundg d
      case measure => omega
      case rel => exact ⟨d, by omega, rfl, by rw [← HN.out], by go_num, HS.out⟩
end Go.Proofs.Ytbcgonfihdpjnaq
