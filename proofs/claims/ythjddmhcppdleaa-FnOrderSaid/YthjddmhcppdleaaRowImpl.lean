/-
  The program's SameRow.
-/
import Derived.Test.YthjddmhcppdleaaRowEq
import Derived.Test.YthjddmhcppdleaaVView
import Derived.Test.YthjddmhcppdleaaSameImpl
import Derived.Deep.LoopGhost
namespace Go.Proofs.Ythjddmhcppdleaa
open Go.RowKit

set_option maxHeartbeats 2000000 in
theorem equalFunc_any (a1 a2 : Option Addr) (n m c1 c2 : Nat) (fk fn : Nat → Int) (fs : Nat → ByteArray) (gk gn : Nat → Int) (gs : Nat → ByteArray) (w : World) (h1 : VView w a1 n c1 fk fn fs) (h2 : VView w a2 m c2 gk gn gs) (hn : n ≤ 281474976710656) (hm : m ≤ 281474976710656) :
    Calls Try.prog 39 #[.slice a1 n c1, .slice a2 m c2, .func (.func 22) #[] #[]] w fun e w' => e = .returned (.bool (rowEq n m fk fn fs gk gn gs)) ∧ Below w.heap.size w w' := by
  by_cases e : n = m
  case neg =>
    have e1 : ((n : Int) != (m : Int)) = true := by simp; omega
    have er : rowEq n m fk fn fs gk gn gs = false := by unfold rowEq; rw [decide_eq_false e]; rfl
    rw [er]
    go_enter Try.func39, Try.ntmps39
    go_wp2
    go_ret
    exact ⟨rfl, Below.refl _ _⟩
  subst e
  have er : rowEq n n fk fn fs gk gn gs = allEq fk fn fs gk gn gs n := by unfold rowEq; simp
  rw [er]
  clear er
  go_enter Try.func39, Try.ntmps39
  go_wp2
  go_loopg [17] n (fun q i wr => ∃ k : Nat, k ≤ n ∧ q = n - k ∧ i = .int .i64 k ∧ Below w.heap.size w wr ∧ allEq fk fn fs gk gn gs k = true)
  case atStart => exact ⟨0, Nat.zero_le _, rfl, rfl, Below.refl _ _, rfl⟩
  case round =>
    obtain ⟨k, hk, rfl, rfl, hB, hA⟩ := hrel
    by_cases hlt : k < n
    · obtain ⟨b1, o1, rfl, hb1, hc1⟩ := (h1.below hB).cells (by omega)
      obtain ⟨b2, o2, rfl, hb2, hc2⟩ := (h2.below hB).cells (by omega)
      obtain ⟨x0, x1, x2⟩ := hc1 k hlt
      obtain ⟨y0, y1, y2⟩ := hc2 k hlt
      have hkz : (k : Int) < (n : Int) := by omega
      have hV := fun W => sameVal_impl (fk k) (fn k) (fs k) (gk k) (gn k) (gs k) W
      have hS : Hid (allEq fk fn fs gk gn gs (k + 1) = eqV (fk k) (fn k) (fs k) (gk k) (gn k) (gs k)) := by
        show allEq fk fn fs gk gn gs (k + 1) = _
        simp only [allEq, hA, Bool.true_and]
      have hbad : Hid (eqV (fk k) (fn k) (fs k) (gk k) (gn k) (gs k) = false → allEq fk fn fs gk gn gs n = false) := fun h => allEq_bad h n hlt
      clear hc1 hc2 h1 h2 hA
      generalize eqV (fk k) (fn k) (fs k) (gk k) (gn k) (gs k) = z at *
      generalize fk k = p0 at *
      generalize fn k = p1 at *
      generalize fs k = p2 at *
      generalize gk k = r0 at *
      generalize gn k = r1 at *
      generalize gs k = r2 at *
      go_wp2_with fail
      refine (hV _).mono ?_
      rintro e w2 ⟨rfl, hB2⟩
      have hB3 : Below w.heap.size w w2 := ((hB.alloc hB.size _).alloc (by have := hB.size; simp; omega) _).trans (hB2.mono (by have := hB.size; simp; omega))
      clear hB2 hV x0 x1 x2 y0 y1 y2 hb1 hb2
      cases z
      · have hbad2 : Hid (allEq fk fn fs gk gn gs n = false) := hbad.out rfl
        clear hbad
        go_wp2
        go_ret
        exact ⟨by rw [hbad2.out]; rfl, hB3⟩
      · go_wp2
        go_roundg (n - (k + 1))
        case measure => omega
        case rel => exact ⟨k + 1, by omega, rfl, by go_num, hB3, hS.out⟩
    · have hkn : k = n := by omega
      have hA : Hid (allEq fk fn fs gk gn gs n = true) := by rw [← hkn]; exact hA
      go_wp2
      go_ret
      exact ⟨by rw [hA.out]; rfl, hB⟩
set_option maxHeartbeats 2000000 in
theorem sameRow_impl (a1 a2 : Option Addr) (n m c1 c2 : Nat) (fk fn : Nat → Int) (fs : Nat → ByteArray) (gk gn : Nat → Int) (gs : Nat → ByteArray) (w : World) (h1 : VView w a1 n c1 fk fn fs) (h2 : VView w a2 m c2 gk gn gs) (hn : n ≤ 281474976710656) (hm : m ≤ 281474976710656) :
    Calls Try.prog 23 #[.slice a1 n c1, .slice a2 m c2] w fun e w' => e = .returned (.bool (rowEq n m fk fn fs gk gn gs)) ∧ Below w.heap.size w w' := by
  have hE := equalFunc_any a1 a2 n m c1 c2 fk fn fs gk gn gs w h1 h2 hn hm
  clear h1 h2
  generalize rowEq n m fk fn fs gk gn gs = z at *
  go_enter Try.func23, Try.ntmps23
  go_wp2_with fail
  refine hE.mono ?_
  rintro e w1 ⟨rfl, hB⟩
  go_wp2
  go_ret
  exact ⟨rfl, hB⟩

end Go.Proofs.Ythjddmhcppdleaa
