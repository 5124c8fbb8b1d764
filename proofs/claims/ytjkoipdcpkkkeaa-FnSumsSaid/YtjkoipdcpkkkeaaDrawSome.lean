/-
  The draws of layer 1, as far as a law leans on them.
-/
import Derived.Test.YtjkoipdcpkkkeaaDrawBytes
import Derived.Test.YtjkoipdcpkkkeaaConv
import Derived.Deep.RegionWith
namespace Go.Proofs.Ytjkoipdcpkkkeaa
open Go.RowKit

/-- The cells of a list of numbers that is laid anew. -/
theorem newInts (w : World) (l : List Int) (t : TypeId) : ∀ i, i < l.length → (w.alloc (.cells (l.map (Value.int .i64)).toArray t)).cell? ⟨w.heap.size, i, none⟩ = some (.int .i64 (l.getD i 0)) := by
  intro i hi
  rw [World.cell?, show (w.alloc (.cells (l.map (Value.int .i64)).toArray t)).heap[w.heap.size]? = some (.cells (l.map (Value.int .i64)).toArray t) from Deep.blk_alloc_new _ _]
  simp [hi]

theorem getD_mem {l : List Int} {j : Nat} (h : j < l.length) : l.getD j 0 ∈ l := by
  simp [h]

/-- Drawn bytes in memory of their own. -/
structure Drawn (w w' : World) (g : Nat) (e : Ending) (m b c : Nat) (l : List Int) : Prop where
  ret : e = .returned (.slice (some ⟨b, 0, none⟩) m c)
  len : l.length = m
  byte : ∀ y ∈ l, 0 ≤ y ∧ y ≤ 255
  new : w.heap.size ≤ b
  le : m ≤ c
  row : Row 5 w' b m (fun i => l.getD i 0)
  few : m ≤ 9

set_option maxHeartbeats 2000000 in
theorem l1Some_any (g : Nat) (ao : Option Addr) (n cap : Nat) (f : Nat → Int) (w : World) (hn : n ≤ 1048576) (hC : Cur w g ao n cap f) :
    Calls Try.prog 19 #[.pointer (some ⟨g, 0, none⟩)] w fun e w' => (∃ (b c m : Nat) (l : List Int), Drawn w w' g e m b c l) ∧ Cur w' g ao n cap f ∧ But g w w' := by
  have hb0 : Below w.heap.size w (w.alloc (.cells #[.int .i64 0, .int .i64 1, .int .i64 2, .int .i64 5, .int .i64 9] 3)) := (Below.refl _ _).alloc (Nat.le_refl _) _
  have hgl := hC.lt
  have hz := newInts w [0, 1, 2, 5, 9] 3
  go_enter Try.func19, Try.ntmps19
  go_wp2_with fail
  refine (l1Int_any g ao n cap f w.heap.size 5 (fun i => [0, 1, 2, 5, 9].getD i 0) _ hn (by omega) (by omega) hz (by omega) (hC.below hb0)).mono ?_
  rintro e w1 ⟨j, hj, rfl, hC1, hO1⟩
  have hmem : [(0 : Int), 1, 2, 5, 9].getD j 0 ∈ [(0 : Int), 1, 2, 5, 9] := getD_mem hj
  obtain ⟨m, hm, hm9⟩ : ∃ m : Nat, [(0 : Int), 1, 2, 5, 9].getD j 0 = (m : Int) ∧ m ≤ 9 := by
    simp only [List.mem_cons, List.not_mem_nil, or_false] at hmem
    exact ⟨([(0 : Int), 1, 2, 5, 9].getD j 0).toNat, by omega, by omega⟩
  clear hmem hz
  rw [hm]
  clear hm
  have hB1 : But g w w1 := (But.ofBelow hb0).trans (But.ofOnly hO1)
  clear hO1
  go_wp2_with fail
  refine (l1Bytes_any g ao n cap f m w1 hn (by omega) hC1).mono ?_
  rintro e w2 ⟨b, c, l, rfl, hl, hy, hb, hc, hrow, hC2, hB2⟩
  go_wp2
  go_ret
  exact ⟨⟨b, c, m, l, rfl, hl, hy, Nat.le_trans hB1.size hb, hc, hrow, hm9⟩, hC2, hB1.trans hB2⟩

theorem conv_drawn {w : World} {m b c : Nat} {l : List Int} (h1 : l.length = m) (h2 : ∀ y ∈ l, 0 ≤ y ∧ y ≤ 255) (h4 : m ≤ c) (h5 : Row 5 w b m (fun i => l.getD i 0)) :
    (convert 22 9 (.slice (some ⟨b, 0, none⟩) m c)).run Try.prog w = .ok (.string (strOfNums l)) w := by
  subst h1
  have := conv_view (h5.view h4 (fun i hi => h2 _ (getD_mem hi)))
  rw [lof_self] at this
  exact this
theorem Cur.drew {w : World} {g : Nat} {ao : Option Addr} {n cap : Nat} {f : Nat → Int} (h : Cur w g ao n cap f) : Cur w.drew g ao n cap f := h.below (Below.refl _ _).drew
theorem Drawn.mono {w0 w w' : World} {g : Nat} {e : Ending} {m b c : Nat} {l : List Int} (h : Drawn w w' g e m b c l) (hs : w0.heap.size ≤ w.heap.size) : Drawn w0 w' g e m b c l :=
  ⟨h.ret, h.len, h.byte, Nat.le_trans hs h.new, h.le, h.row, h.few⟩

/-- Drawn bytes as a result among others: all that is known of them. -/
structure Own9 (w w' : World) (m b c : Nat) (l : List Int) : Prop where
  len : l.length = m
  byte : ∀ y ∈ l, 0 ≤ y ∧ y ≤ 255
  new : w.heap.size ≤ b
  le : m ≤ c
  row : Row 5 w' b m (fun i => l.getD i 0)
  few : m ≤ 9
theorem Own9.bytes {w w' : World} {m b c : Nat} {l : List Int} (h : Own9 w w' m b c l) : ∀ i, i < m → 0 ≤ l.getD i 0 ∧ l.getD i 0 ≤ 255 := by
  intro i hi
  exact h.byte _ (getD_mem (by rw [h.len]; exact hi))
theorem Own9.view {w w' : World} {m b c : Nat} {l : List Int} (h : Own9 w w' m b c l) : View w' (some ⟨b, 0, none⟩) m c (fun i => l.getD i 0) := h.row.view h.le h.bytes

set_option maxHeartbeats 1000000 in
theorem drawPutSum_any (ao : Option Addr) (n cap : Nat) (f : Nat → Int) (w : World) (hn : n ≤ 1048576) (hv : View w ao n cap f) :
    Calls Try.prog 12 #[.slice ao n cap] w fun e w' => (∃ (b c m : Nat) (l : List Int), e = .returned (.slice (some ⟨b, 0, none⟩) m c) ∧ Own9 w w' m b c l) ∧ Below w.heap.size w w' := by
  go_enter Try.func12, Try.ntmps12
  go_wp2_with fail
  refine (l1New_any ao n cap f w hn hv).mono ?_
  rintro e w1 ⟨rfl, hC1, hb1⟩
  go_wp2_with fail
  refine (l1Some_any w.heap.size ao n cap f w1 hn hC1).mono ?_
  rintro e w2 ⟨⟨b, c, m, l, hD⟩, hC2, hB2⟩
  obtain ⟨rfl, h1, h2, h3, h4, h5, h6⟩ := hD
  go_wp2
  go_ret
  exact ⟨⟨b, c, m, l, rfl, h1, h2, Nat.le_trans hb1.size h3, h4, h5, h6⟩, hb1.trans (hB2.below (Nat.le_refl _) hb1.size)⟩

set_option maxHeartbeats 2000000 in
theorem drawPutU_any (ao : Option Addr) (n cap : Nat) (f : Nat → Int) (w : World) (hn : n ≤ 1048576) (hv : View w ao n cap f) :
    Calls Try.prog 6 #[.slice ao n cap] w fun e w' => (∃ (b c m : Nat) (l : List Int) (x : Int), e = .returned (.tuple #[.slice (some ⟨b, 0, none⟩) m c, .int .i64 x]) ∧ -9223372036854775808 ≤ x ∧ x ≤ 9223372036854775807 ∧ Own9 w w' m b c l) ∧ Below w.heap.size w w' := by
  go_enter Try.func6, Try.ntmps6
  go_wp2_with fail
  refine (l1New_any ao n cap f w hn hv).mono ?_
  rintro e w1 ⟨rfl, hC1, hb1⟩
  go_wp2_with fail
  refine (l1Some_any w.heap.size ao n cap f w1 hn hC1).mono ?_
  rintro e w2 ⟨⟨b, c, m, l, hD⟩, hC2, hB2⟩
  obtain ⟨rfl, h1, h2, h3, h4, h5, h6⟩ := hD
  have hlb := h5.lt
  have hgl := hC2.lt
  have HL : Hid (l.length = m) := h1
  have HY : Hid (∀ y ∈ l, 0 ≤ y ∧ y ≤ 255) := h2
  have hs1 := hb1.size
  have hl1 := hC1.lt
  clear h1 h2 hC1
  go_wp2_with fail
  refine (l1Below_any w.heap.size ao n cap f 100000 w2 hn (by omega) (by omega) hC2).mono ?_
  rintro e w3 ⟨y, rfl, hy0, hy1, hC3, hO3⟩
  have h7 := hO3.row h5 (by omega)
  have hs3 := hO3.size
  have hB3 := hB2.trans (But.ofOnly hO3)
  have hl3 := hC3.lt
  clear h5 hO3 hB2 hC2
  have HS : Hid (w3.heap.size = w2.heap.size) := hs3
  clear hs3
  have hz := newInts w3 [0, 1, 127, 128, 16383, 16384, 1000000, 1000001, -1, 9223372036854775807, y] 3
  have HZ : Hid _ := hz
  clear hz
  have hb4 : Below w3.heap.size w3 (w3.alloc (.cells #[.int .i64 0, .int .i64 1, .int .i64 127, .int .i64 128, .int .i64 16383, .int .i64 16384, .int .i64 1000000, .int .i64 1000001, .int .i64 (-1), .int .i64 9223372036854775807, .int .i64 y] 3)) := (Below.refl _ _).alloc (Nat.le_refl _) _
  go_wp2_with fail
  refine (l1Int_any w.heap.size ao n cap f w3.heap.size 11 (fun i => [0, 1, 127, 128, 16383, 16384, 1000000, 1000001, -1, 9223372036854775807, y].getD i 0) _ hn (by omega) (by omega) HZ.out (by omega) (hC3.below hb4)).mono ?_
  rintro e w4 ⟨j, hj, rfl, hC4, hO4⟩
  have hmem : [(0 : Int), 1, 127, 128, 16383, 16384, 1000000, 1000001, -1, 9223372036854775807, y].getD j 0 ∈ [(0 : Int), 1, 127, 128, 16383, 16384, 1000000, 1000001, -1, 9223372036854775807, y] := getD_mem hj
  have hxb : -9223372036854775808 ≤ [(0 : Int), 1, 127, 128, 16383, 16384, 1000000, 1000001, -1, 9223372036854775807, y].getD j 0 ∧ [(0 : Int), 1, 127, 128, 16383, 16384, 1000000, 1000001, -1, 9223372036854775807, y].getD j 0 ≤ 9223372036854775807 := by
    simp only [List.mem_cons, List.not_mem_nil, or_false] at hmem
    omega
  clear hmem HZ
  generalize [(0 : Int), 1, 127, 128, 16383, 16384, 1000000, 1000001, -1, 9223372036854775807, y].getD j 0 = x at *
  obtain ⟨hx0, hx1⟩ := hxb
  have hB4 : But w.heap.size w1 w4 := hB3.trans ((But.ofBelow hb4).trans (But.ofOnly hO4))
  have h8 := hO4.row (h7.belowAll hb4) (by omega)
  have hfin : Below w.heap.size w w4 := hb1.trans (hB4.below (Nat.le_refl _) hs1)
  clear hO4 hb4 hB3 hC3 hC4 h7 hB4
  go_wp2
  go_ret2
  exact ⟨⟨b, c, m, l, x, rfl, hx0, hx1, HL.out, HY.out, by omega, h4, h8, h6⟩, hfin⟩

set_option maxHeartbeats 2000000 in
theorem drawPutText_any (ao : Option Addr) (n cap : Nat) (f : Nat → Int) (w : World) (hn : n ≤ 1048576) (hv : View w ao n cap f) :
    Calls Try.prog 9 #[.slice ao n cap] w fun e w' => (∃ (b c m : Nat) (l : List Int) (k : List Int), e = .returned (.tuple #[.slice (some ⟨b, 0, none⟩) m c, .string (strOfNums k)]) ∧ k.length ≤ 9 ∧ (∀ y ∈ k, 0 ≤ y ∧ y ≤ 255) ∧ Own9 w w' m b c l) ∧ Below w.heap.size w w' := by
  go_enter Try.func9, Try.ntmps9
  go_wp2_with fail
  refine (l1New_any ao n cap f w hn hv).mono ?_
  rintro e w1 ⟨rfl, hC1, hb1⟩
  go_wp2_with fail
  go_region_with (go_at_call 19; refine (l1Some_any w.heap.size ao n cap f _ hn ?_).mono ?_; (repeat (first | assumption | refine Cur.drew ?_)); rintro e wn ⟨⟨b, c, m, l, hD⟩, hC2, hB2⟩; obtain ⟨rfl, h1, h2, h3, h4, h5, h6⟩ := hD; have hq := conv_drawn h1 h2 h4 h5)
  rename_i wa ba ca ma la hCa hBa a1 a2 a3 a4 a5 a6 hqa
  have hs1 : w.heap.size < w1.heap.size := hC1.lt
  have hsa : w1.heap.size ≤ wa.heap.size := hBa.size
  have ha3 : w1.heap.size ≤ ba := a3
  have hrow := hB2.row a5 (by omega)
  have hfin : Below w.heap.size w wn := hb1.trans (((Below.refl _ w1).drew.trans (hBa.below (Nat.le_refl _) (by exact Nat.le_of_lt hs1))).trans (hB2.below (Nat.le_refl _) (by omega)))
  have hO : Own9 w wn ma ba ca la := ⟨a1, a2, by omega, a4, hrow, a6⟩
  have HK : Hid (l.length ≤ 9 ∧ ∀ y ∈ l, 0 ≤ y ∧ y ≤ 255) := ⟨by omega, h2⟩
  clear hq hqa h1 h2 h3 h4 h5 h6 a1 a2 a3 a4 a5 a6 hrow hB2 hC2 hCa hBa hC1
  go_wp2
  go_ret2
  exact ⟨⟨ba, ca, ma, la, l, rfl, HK.out.1, HK.out.2, hO⟩, hfin⟩
end Go.Proofs.Ytjkoipdcpkkkeaa
