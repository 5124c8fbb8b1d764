/-
  PartsIn
-/
import Derived.Test.YtclegljalndaearPack5
import Derived.Lib.SmallJoins
import Derived.Deep.Strs
import Derived.Deep.LoopGhost
/-
  What the frame of a row hands over of a slice of parts that came in.
-/
namespace Go.Proofs.Ytclegljalndaear
open Go.RowKit Go.Deep Go.Joins

theorem partsIn {H : Type} {enc : TypeId × Value → H} {W : World} {sp : Nat → Bool} {a : Option Addr} {len cap : Nat} {d : DataW H} {p : List MemPlace} {T : TypeId}
    (ht : Try.prog.underlying T = some (.slice 53)) (h : DataW.Trod enc Try.prog W 0 sp true T (.slice a len cap) d p) :
    ∃ fc ft fu fd, PView W a len cap fc ft fu fd ∧ cap ≤ maxLen := by
  obtain ⟨fuel, hf⟩ := h
  have c3 : Try.prog.cellsOf 53 = 4 := by kernel_rfl
  rcases DataW.trod_slice ht hf with ⟨hcs, _⟩ | ⟨x, l, c, elems, rest, n, _, hcs, _, _, hl, hm, hlen, hel, _, _⟩
  · simp [Value.cells] at hcs
    obtain ⟨rfl, rfl, rfl⟩ := hcs
    exact ⟨fun _ => 0, fun _ => 0, fun _ => false, fun _ => false, ⟨Nat.le_refl _, fun h => absurd h (Nat.lt_irrefl _)⟩, Nat.zero_le _⟩
  · simp [Value.cells] at hcs
    obtain ⟨rfl, rfl, rfl⟩ := hcs
    have each : ∀ i, i < len → ∃ (k m : Int) (u v : Bool), W.cell? (x.add (i * 4)) = some (.int .i64 k) ∧ W.cell? ((x.add (i * 4)).add 1) = some (.int .i64 m) ∧ W.cell? ((x.add (i * 4)).add 2) = some (.bool u) ∧ W.cell? ((x.add (i * 4)).add 3) = some (.bool v) := by
      intro i hi
      have h1 := hel i hi
      rw [c3] at h1
      have h2 : elems[i]? = some elems[i] := List.getElem?_eq_getElem (by omega)
      rw [h2] at h1
      obtain ⟨cs, hcs, htr⟩ := Option.bind_eq_some_iff.1 h1
      obtain ⟨_, hl3, hcell⟩ := World.cells?_some hcs
      obtain ⟨y0, y1, y2, y3, m, _, _, t0, t1, t2, t3⟩ := trod_struct4 Try.underlying53 htr
      have o1 : Try.prog.cellsOf 3 = 1 := by kernel_rfl
      have o2 : Try.prog.cellsOf 4 = 1 := by kernel_rfl
      simp only [o1, o2] at t0 t1 t2 t3
      match cs, hl3 with
      | [c0, c1, c2, c3], _ =>
        simp only [List.drop_zero, List.drop_succ_cons, List.take_succ_cons, List.take_zero] at t0 t1 t2 t3
        obtain ⟨k, e0, _, _⟩ := DataW.trod_int Try.underlying3 t0
        obtain ⟨m, e1, _, _⟩ := DataW.trod_int Try.underlying3 t1
        obtain ⟨u, e2, _⟩ := DataW.trod_bool Try.underlying4 t2
        obtain ⟨v, e3, _⟩ := DataW.trod_bool Try.underlying4 t3
        simp only [List.cons.injEq, and_true] at e0 e1 e2 e3
        subst e0 e1 e2 e3
        refine ⟨k, m, u, v, ?_, ?_, ?_, ?_⟩
        · have := hcell 0 (by omega)
          simpa [Addr.add] using this
        · exact hcell 1 (by omega)
        · exact hcell 2 (by omega)
        · exact hcell 3 (by omega)
    refine ⟨fun i => if h : i < len then (each i h).choose else 0, fun i => if h : i < len then (each i h).choose_spec.choose else 0, fun i => if h : i < len then (each i h).choose_spec.choose_spec.choose else false, fun i => if h : i < len then (each i h).choose_spec.choose_spec.choose_spec.choose else false, ⟨hl, fun hn => ?_⟩, hm⟩
    obtain ⟨b, off, spot⟩ := x
    obtain ⟨k0, m0, u0, v0, h0, _⟩ := each 0 hn
    have hs : spot = none := by simpa [Addr.add] using World.cell?_spot h0
    subst hs
    refine ⟨b, off, rfl, World.block_lt_of_cell? _ _ h0, fun i hi => ?_⟩
    have hsp := (each i hi).choose_spec.choose_spec.choose_spec.choose_spec
    have ea : (⟨b, off, none⟩ : Addr).add (i * 4) = ⟨b, off + i * 4, none⟩ := by unfold Addr.add; split <;> simp_all
    have eb : ∀ j, (⟨b, off + i * 4, none⟩ : Addr).add j = ⟨b, off + i * 4 + j, none⟩ := fun j => by unfold Addr.add; split <;> simp_all
    have e1 : (⟨b, off + i * 4 + 1, none⟩ : Addr) = ((⟨b, off, none⟩ : Addr).add (i * 4)).add 1 := by rw [ea, eb]
    have e2 : (⟨b, off + i * 4 + 2, none⟩ : Addr) = ((⟨b, off, none⟩ : Addr).add (i * 4)).add 2 := by rw [ea, eb]
    have e3 : (⟨b, off + i * 4 + 3, none⟩ : Addr) = ((⟨b, off, none⟩ : Addr).add (i * 4)).add 3 := by rw [ea, eb]
    simp only [dif_pos hi]
    exact ⟨by rw [← ea]; exact hsp.1, by rw [e1]; exact hsp.2.1, by rw [e2]; exact hsp.2.2.1, by rw [e3]; exact hsp.2.2.2⟩
end Go.Proofs.Ytclegljalndaear

