/-
  The walk over the law FnExactPartOk, out of what the program's PartOk comes to.
-/
import Derived.Test.YtbcgonfihdpjnaqPartSpec
import Derived.Test.YtbcgonfihdpjnaqPartHelp
namespace Go.Proofs.Ytbcgonfihdpjnaq
open Go.RowKit
set_option maxRecDepth 4000

/-- Four cells that were put into a variable of the call's own read as they did. -/
theorem boxed4 {w W' : World} {T : TypeId} {a b c d : Value} {B : Nat} (h : Below B (w.alloc (.cells #[a, b, c, d] T)) W') (hB : w.heap.size < B) : W'.cell? ⟨w.heap.size, 0, none⟩ = some a ∧ W'.cell? ⟨w.heap.size, 1, none⟩ = some b ∧ W'.cell? ⟨w.heap.size, 2, none⟩ = some c ∧ W'.cell? ⟨w.heap.size, 3, none⟩ = some d := by
  refine ⟨?_, ?_, ?_, ?_⟩
  all_goals (rw [h.cell hB]; simp [go_sem])

set_option maxHeartbeats 1000000 in
theorem lawPartOk (c t : Int) (nul d : Bool) (w : World)
    (hI : ∀ W, Calls Try.prog 14 #[.agg #[.int .i64 c, .int .i64 t, .bool nul, .bool d]] W fun e w' => e = .returned (.bool (partOk c t)) ∧ Below W.heap.size W w') :
    Calls Try.prog 4 #[.agg #[.int .i64 c, .int .i64 t, .bool nul, .bool d]] w fun e w' => e = .returned (.bool true) ∧ Below w.heap.size w w' := by
  obtain ⟨W0, hW0⟩ : ∃ W0, Hid (W0 = w.alloc (.cells #[.int .i64 c, .int .i64 t, .bool nul, .bool d] 29)) := ⟨_, rfl⟩
  have hsz : W0.heap.size = w.heap.size + 1 := by rw [hW0.out]; simp
  have hb0 : Below w.heap.size w W0 := by rw [hW0.out]; exact (Below.refl _ _).alloc (Nat.le_refl _) _
  obtain ⟨o, ho⟩ : ∃ o, Hid (partOk c t = o) := ⟨_, rfl⟩
  go_enter Try.func4, Try.ntmps4
  go_wp2_with fail
  rw [← hW0.out]
  refine (toPart_any c t nul d W0).mono ?_
  rintro e w1 ⟨rfl, hb1⟩
  go_wp2_with fail
  refine (specPartOk_any c t nul d w1).mono ?_
  rintro e w2 ⟨rfl, hb2⟩
  rw [ho.out]
  replace hb2 := hb1.trans (hb2.mono hb1.size)
  obtain ⟨c0, c1, c2, c3⟩ := boxed4 (hW0.out ▸ hb2) (by rw [← hW0.out]; omega)
  clear hb1
  go_wp2_with fail
  clear c0 c1 c2 c3
  refine (toPart_any c t nul d w2).mono ?_
  rintro e w3 ⟨rfl, hb3⟩
  replace hb3 := hb2.trans (hb3.mono hb2.size)
  clear hb2
  go_wp2_with fail
  refine (hI w3).mono ?_
  rintro e w4 ⟨rfl, hb4⟩
  rw [ho.out]
  have HB : Hid (Below w.heap.size w w4) := hb0.trans ((hb3.trans (hb4.mono hb3.size)).mono (by omega))
  clear hb3 hb4 hb0
  have q : (o != o) = false := by cases o <;> rfl
  go_wp2
  go_ret
  exact ⟨rfl, HB.out⟩
end Go.Proofs.Ytbcgonfihdpjnaq
