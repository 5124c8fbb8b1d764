/-
  The model's GetSum: it answers as the program's.
-/
import Derived.Test.YtjkoipdcpkkkeanGetSum
import Derived.Test.YtjkoipdcpkkkeanCrcSpec
namespace Go.Proofs.Ytjkoipdcpkkkean
open Go.RowKit

theorem i64_add_or (x y : Int) (h0 : 0 ≤ x) (h1 : x ≤ 16777215) (h2 : 0 ≤ y) (h3 : y ≤ 255) : bits .or .i64 (x * 256) y = x * 256 + y := by
  have e : bits .or .i64 (x * 256) y = bits .or .i64 y (x * 256) := by simp only [bits, BitVec.or_comm]
  rw [e, i64_or_add 8 y (x * 256) h2 (by show _ < (256 : Int); omega) (by omega) (by show _ % (256 : Int) = 0; omega) (by omega) (by decide)]
  omega

set_option maxHeartbeats 1000000 in
theorem getSum_spec_few (n : Nat) (f : Nat → Int) (hn : n < 4) : Gives 20 n f 0 false := by
  intro b cap w hv
  have hz : (n : Int) - 4 < 0 := by omega
  go_enter Try.func20, Try.ntmps20
  go_wp2
  go_ret2
  exact ⟨_, _, rfl, Nat.le_refl _, Nat.le_refl _, noRow _ _ _, (Below.refl _ _).alloc (Nat.le_refl _) _⟩

set_option maxRecDepth 100000 in
set_option maxHeartbeats 2000000 in
theorem getSum_spec_all (m : Nat) (f : Nat → Int) (hn : m + 4 ≤ 1048576) (hf : ∀ i, i < m + 4 → 0 ≤ f i ∧ f i ≤ 255) (N : Nat) (B : Bool) (hs : (last4 m f = (crc m f : Int) ∧ N = m ∧ B = true) ∨ (last4 m f ≠ (crc m f : Int) ∧ N = 0 ∧ B = false)) : Gives 20 (m + 4) f N B := by
  intro b cap w hv
  obtain ⟨i0, hi, hz0, hz1, hz2⟩ := info_parts Try.info5
  have hz : (0 : Int) ≤ (m : Int) := by omega
  have hcl : (m : Int) ≤ (cap : Int) := by have := hv.le; omega
  obtain ⟨b', off', e, hb, hc⟩ := hv.cells (by omega)
  simp only [Option.some.injEq, Addr.mk.injEq, and_true] at e
  obtain ⟨rfl, rfl⟩ := e
  have hc0 := hc m (by omega)
  have hc1 := hc (m + 1) (by omega)
  have hc2 := hc (m + 2) (by omega)
  have hc3 := hc (m + 3) (by omega)
  rw [Nat.zero_add] at hc0 hc1 hc2 hc3
  obtain ⟨b00, b01⟩ := hf m (by omega)
  obtain ⟨b10, b11⟩ := hf (m + 1) (by omega)
  obtain ⟨b20, b21⟩ := hf (m + 2) (by omega)
  obtain ⟨b30, b31⟩ := hf (m + 3) (by omega)
  have q0 : bits .or .i64 0 (f m) = f m := by have := i64_add_or 0 (f m) (by omega) (by omega) b00 b01; simpa using this
  have q1 := i64_add_or (f m) (f (m + 1)) b00 (by omega) b10 b11
  have q2 := i64_add_or (f m * 256 + f (m + 1)) (f (m + 2)) (by omega) (by omega) b20 b21
  have q3 := i64_add_or ((f m * 256 + f (m + 1)) * 256 + f (m + 2)) (f (m + 3)) (by omega) (by omega) b30 b31
  obtain ⟨c, hcc⟩ : ∃ c, Hid (crc m f = c) := ⟨_, rfl⟩
  rw [hcc.out] at hs
  unfold last4 at hs
  have hown0 := World.ownsRow_lit (base := w.heap.size) (e := 5) (size := 1) w #[] 0 (Nat.le_refl _) (Nat.zero_le _) rfl
  have hb0 : Below w.heap.size w (w.alloc (.cells #[] 5)) := (Below.refl _ _).alloc (Nat.le_refl _) _
  have hclc := cells_of_view ((hv.take (m := m) (by omega)).below hb0)
  have hsz : (w.alloc (.cells #[] 5)).heap.size = w.heap.size + 1 := by simp
  clear hc hf
  rcases hs with ⟨hs, rfl, rfl⟩ | ⟨hs, rfl, rfl⟩
  · have hne : (((f N * 256 + f (N + 1)) * 256 + f (N + 2)) * 256 + f (N + 3) != (c : Int)) = false := by simp [hs]
    have HS : Hid (((f N * 256 + f (N + 1)) * 256 + f (N + 2)) * 256 + f (N + 3) = (c : Int)) := hs
    clear hs
    go_enter Try.func20, Try.ntmps20
    go_wp2
    refine wp_loop_rounds 5 ?_
    rw [rounds_succ]
    go_wp2
    rw [rounds_succ]
    go_wp2
    rw [rounds_succ]
    go_wp2
    rw [rounds_succ]
    go_wp2
    rw [rounds_succ]
    go_wp2_with fail
    refine (crc_spec' _ N cap f w hcc (hv.take (by omega)) (by omega)).mono ?_
    rintro e _ ⟨rfl, rfl⟩
    go_wp2_with (at_builtin; go_must (refine wpList_append_own _ rfl (.tmp 35) (.tmp 38) 22 rfl w.heap.size 5 i0 (.int .u8 0) 1 1 Try.underlying22 hi hz0 hz1 hz2 rfl (by decide) (.slice (some ⟨w.heap.size, 0, none⟩) 0 0) 0 [] rfl hown0 ⟨b, 0, none⟩ N cap (bl (lof N f)) rfl (by rw [bl_len, lof_len]; omega) hclc (bl_one _) (by unfold maxLen; omega) (by omega) (by rw [hsz]; omega) ?_); intro v1 w1 hown1 hgr1 hnil)
    have hb1 : Below w.heap.size w w1 := hb0.grown hgr1 (by simp) (fun k hk => by simp only [Value.ownBlock, Option.some.injEq] at hk; omega)
    rw [Nat.zero_add, List.nil_append] at hown1
    obtain ⟨g, c', hv1, hg, hgc, hrow⟩ := row_of_own' hown1 (fun h => by have := hnil.1 h; simp at this)
    go_ret2
    rw [hv1]
    exact ⟨g, c', rfl, hg, hgc, hrow.congr (fun i hi => lof_get N f i hi), hb1⟩
  · have hne : (((f m * 256 + f (m + 1)) * 256 + f (m + 2)) * 256 + f (m + 3) != (c : Int)) = true := by simp [hs]
    clear hs
    go_enter Try.func20, Try.ntmps20
    go_wp2
    refine wp_loop_rounds 5 ?_
    rw [rounds_succ]
    go_wp2
    rw [rounds_succ]
    go_wp2
    rw [rounds_succ]
    go_wp2
    rw [rounds_succ]
    go_wp2
    rw [rounds_succ]
    go_wp2_with fail
    refine (crc_spec' _ m cap f w hcc (hv.take (by omega)) (by omega)).mono ?_
    rintro e _ ⟨rfl, rfl⟩
    go_wp2
    go_ret2
    exact ⟨_, _, rfl, Nat.le_refl _, Nat.le_refl _, noRow _ _ _, (Below.refl _ _).alloc (Nat.le_refl _) _⟩
end Go.Proofs.Ytjkoipdcpkkkean
