/-
  Together: OwnZ, ReadLen, OzView, SameB, Big
-/
import Derived.Test.YtdhfbblameiloaaND3
import Derived.Test.YtdhfbblameiloaaND39
import Derived.Test.YtdhfbblameiloaaND38
import Derived.Test.YtdhfbblameiloaaND26
import Derived.Test.YtdhfbblameiloaaND25
import Derived.Test.YtdhfbblameiloaaND1
/-
  Bytes of the call's own, whatever lies behind them.
-/
namespace Go.Proofs.Ytdhfbblameiloaa
open Go.RowKit
set_option maxRecDepth 4000

/-- Bytes of the call's own. -/
structure OZ (w : World) (B : Nat) (v : Value) (l : List Int) : Prop where
  is : ∃ a c, v = .slice a l.length c ∧ l.length ≤ c ∧ (a = none → c = 0) ∧ (∀ x ∈ l, 0 ≤ x ∧ x ≤ 255) ∧ (l = [] ∨ ∃ g, a = some ⟨g, 0, none⟩ ∧ B ≤ g ∧ RowZ 5 w g l.length (bf l))
theorem OB.oz {w : World} {B : Nat} {v : Value} {l : List Int} (h : OB w B v l) : OZ w B v l := by
  obtain ⟨a, c, e, h1, h2, h3, h4⟩ := h.is
  refine ⟨a, c, e, h1, h2, h3, ?_⟩
  rcases h4 with h4 | ⟨g, ea, hb, hr⟩
  · exact .inl h4
  · exact .inr ⟨g, ea, hb, RowZ.ofRow hr⟩
theorem OZ.up {w w' : World} {B : Nat} {v : Value} {l : List Int} (h : OZ w B v l) (hu : Up B w w') : OZ w' B v l := by
  obtain ⟨a, c, e, h1, h2, h3, h4⟩ := h.is
  refine ⟨a, c, e, h1, h2, h3, ?_⟩
  rcases h4 with h4 | ⟨g, ea, hb, hr⟩
  · exact .inl h4
  · exact .inr ⟨g, ea, hb, hr.of_block (hu.2 g hb hr.lt)⟩
theorem OZ.mono {w : World} {B B' : Nat} {v : Value} {l : List Int} (h : OZ w B v l) (hB : B' ≤ B) : OZ w B' v l := by
  obtain ⟨a, c, e, h1, h2, h3, h4⟩ := h.is
  refine ⟨a, c, e, h1, h2, h3, ?_⟩
  rcases h4 with h4 | ⟨g, ea, hb, hr⟩
  · exact .inl h4
  · exact .inr ⟨g, ea, by omega, hr⟩
theorem bf_bytes {l : List Int} (h : ∀ x ∈ l, 0 ≤ x ∧ x ≤ 255) : ∀ i, i < l.length → 0 ≤ bf l i ∧ bf l i ≤ 255 := by
  intro i hi
  have : bf l i = l[i] := by simp [bf, hi]
  rw [this]
  exact h _ (List.getElem_mem hi)
theorem OZ.lv {w : World} {B : Nat} {v : Value} {l : List Int} (h : OZ w B v l) : LV w v l := by
  obtain ⟨a, c, e, h1, h2, h3, h4⟩ := h.is
  refine ⟨a, c, e, ⟨h1, bf_bytes h3, fun hn => ?_⟩, h2⟩
  rcases h4 with h4 | ⟨g, ea, hb, hr⟩
  · subst h4; simp at hn
  · exact ⟨g, 0, ea, hr.lt, fun i hi => by rw [Nat.zero_add]; exact hr.cell hi⟩
/-- What a call that answers bytes and a bool comes to. -/
def BTo (w : World) (l : List Int) (ok : Bool) (e : Ending) (w' : World) : Prop := ∃ v, e = .returned (.tuple #[v, .bool ok]) ∧ OZ w' w.heap.size v l ∧ Below w.heap.size w w'
end Go.Proofs.Ytdhfbblameiloaa

/-
  What ReadSec comes to, as bytes and a bool; how many bytes.
-/
namespace Go.Proofs.Ytdhfbblameiloaa
open Go.RowKit
set_option maxRecDepth 4000

def hasB (D : PDisk) (n : Int) : Bool := decide (0 ≤ n ∧ n < D.secs.length)
theorem hasB_iff (D : PDisk) (n : Int) : hasB D n = true ↔ HasS D n := by simp [hasB, HasS]
theorem ReadTo.bto {w w' : World} {D : PDisk} {n : Int} {e : Ending} (h : ReadTo w D n e w') : BTo w (readB D n) (hasB D n) e w' := by
  obtain ⟨v, ok, rfl, hok, hO, hb⟩ := h
  have : ok = hasB D n := by
    rw [Bool.eq_iff_iff, hok, hasB_iff]
  subst this
  exact ⟨v, rfl, hO.oz, hb⟩
theorem lastW_mem {l : List (Int × List Int)} {n : Int} : ∀ {k : Nat} {b : List Int}, lastW l n k = some b → ∃ x ∈ l, x.2 = b
  | 0, b, h => by cases h
  | k + 1, b, h => by
    rw [lastW] at h
    split at h
    · obtain ⟨x, hx, rfl⟩ := Option.map_eq_some_iff.1 h
      exact ⟨x, List.mem_of_getElem? hx, rfl⟩
    · exact lastW_mem h
theorem readB_len {D : PDisk} (hf : KFine D) (n : Int) : (readB D n).length ≤ 1048576 := by
  unfold readB
  split
  · rename_i hn
    cases hl : lastW D.cache n D.cache.length with
    | some b =>
      obtain ⟨x, hx, rfl⟩ := lastW_mem hl
      exact hf.cache x hx
    | none =>
      have hi : n.toNat < D.secs.length := by omega
      have e : (Option.none.getD (D.secs.getD n.toNat []) : List Int) = D.secs[n.toNat] := by simp [hi]
      rw [e]
      exact hf.sec _ (List.getElem_mem hi)
  · simp
end Go.Proofs.Ytdhfbblameiloaa

/-
  Bytes of an answer read.
-/
namespace Go.Proofs.Ytdhfbblameiloaa
open Go.RowKit
set_option maxRecDepth 4000

theorem oz_view {w : World} {B : Nat} {v : Value} {l : List Int} (h : OZ w B v l) : ∃ a c, v = .slice a l.length c ∧ View w a l.length c (bf l) := by
  obtain ⟨a, c, e, h1, h2, h3, h4⟩ := h.is
  refine ⟨a, c, e, ?_⟩
  rcases h4 with rfl | ⟨g, rfl, hg, hr⟩
  · exact ⟨by simp, fun i hi => absurd hi (Nat.not_lt_zero _), fun h => absurd h (Nat.lt_irrefl _)⟩
  · exact hr.view h1 (bytes_of_list h3)

end Go.Proofs.Ytdhfbblameiloaa

/-
  What the law's own helpers sameBytes and begins come to, at every two slices of bytes that read.
-/
namespace Go.Proofs.Ytdhfbblameiloaa
open Go.RowKit
set_option maxRecDepth 4000

set_option maxHeartbeats 1000000 in
theorem sameBytes_any (a1 a2 : Option Addr) (n m c1 c2 : Nat) (f g : Nat → Int) (w : World) (h1 : View w a1 n c1 f) (h2 : View w a2 m c2 g) (hn : n ≤ 281474976710656) (hm : m ≤ 281474976710656) :
    Calls Try.prog 25 #[.slice a1 n c1, .slice a2 m c2] w fun e w' => e = .returned (.bool (decide (lof n f = lof m g))) ∧ Below w.heap.size w w' := by
  by_cases hnm : n = m
  · subst hnm
    have q0 : ((n : Int) != (n : Int)) = false := by simp
    go_enter Try.func25, Try.ntmps25
    go_wp2
    go_loopg [5] n (fun q i wr => ∃ k : Nat, k ≤ n ∧ q = n - k ∧ i = .int .i64 k ∧ Below w.heap.size w wr ∧ ∀ j, j < k → f j = g j)
    case atStart => exact ⟨0, Nat.zero_le _, rfl, rfl, Below.refl _ _, fun j hj => absurd hj (Nat.not_lt_zero _)⟩
    case round =>
      obtain ⟨k, hk, rfl, rfl, hB, hE⟩ := hrel
      have HE : Hid (∀ j, j < k → f j = g j) := hE
      clear hE
      by_cases hlt : k < n
      · obtain ⟨b1, o1, rfl, hb1, hc1⟩ := h1.cells (by omega)
        obtain ⟨b2, o2, rfl, hb2, hc2⟩ := h2.cells (by omega)
        have hkz : (k : Int) < (n : Int) := by omega
        have e1 : wr.cell? ⟨b1, o1 + k, none⟩ = some (.int .u8 (f k)) := by rw [hB.cell (p := ⟨b1, o1 + k, none⟩) hb1]; exact hc1 k hlt
        have e2 : wr.cell? ⟨b2, o2 + k, none⟩ = some (.int .u8 (g k)) := by rw [hB.cell (p := ⟨b2, o2 + k, none⟩) hb2]; exact hc2 k hlt
        clear hc1 hc2
        by_cases he : f k = g k
        · have q1 : (f k != g k) = false := by simpa using he
          have HE2 : Hid (∀ j, j < k + 1 → f j = g j) := fun j hj => by
            by_cases e : j = k
            · subst e; exact he
            · exact HE.out j (by omega)
          clear he
          go_wp2
          go_region
          all_goals go_wp2
          all_goals
            go_roundg (n - (k + 1))
            case measure => omega
            case rel => exact ⟨k + 1, by omega, rfl, by go_num, by first | exact hB.drew | exact hB, HE2.out⟩
        · have q1 : (f k != g k) = true := by simpa using he
          have HD : Hid (decide (lof n f = lof n g) = false) := by
            show _ = _
            rw [decide_eq_false_iff_not, lof_eq]
            exact fun h => he (h k hlt)
          clear he
          go_wp2
          go_region
          all_goals go_wp2
          all_goals
            go_ret
            exact ⟨by rw [HD.out]; rfl, by first | exact hB.drew | exact hB⟩
      · obtain rfl : k = n := by omega
        have HD : Hid (decide (lof k f = lof k g) = true) := by
          show _ = _
          rw [decide_eq_true_iff, lof_eq]
          exact HE.out
        go_wp2
        go_ret
        exact ⟨by rw [HD.out]; rfl, hB⟩
  · have q0 : ((n : Int) != (m : Int)) = true := by simp; omega
    have HD : Hid (decide (lof n f = lof m g) = false) := by
      show _ = _
      rw [decide_eq_false_iff_not]
      intro h
      have := congrArg List.length h
      rw [lof_len, lof_len] at this
      exact hnm this
    go_enter Try.func25, Try.ntmps25
    go_wp2
    go_ret
    exact ⟨by rw [HD.out]; rfl, Below.refl _ _⟩
end Go.Proofs.Ytdhfbblameiloaa

/-
  Whether a code is too long.
-/
namespace Go.Proofs.Ytdhfbblameiloaa
open Go.RowKit
set_option maxRecDepth 4000

theorem big_any (ao : Option Addr) (n cap : Nat) (w : World) (_hn : n ≤ 9223372036854775807) :
    Calls Try.prog 19 #[.slice ao n cap] w fun e w' => e = .returned (.bool (decide ((1048576 : Int) < (n : Int)))) ∧ w = w' := by
  go_enter Try.func19, Try.ntmps19
  go_wp2
  go_ret
  exact ⟨rfl, rfl⟩

end Go.Proofs.Ytdhfbblameiloaa

