/-
  Together: RowZ, Equal, GetSum, GetSumSpec, GetWalks, GetTextImpl, GetSpec, GetTextSpec, PageGet, Stored2
-/
import Derived.Test.YtdjaiappaghfnaaTN2
import Derived.Test.YtdjaiappaghfnaaTN1
import Derived.Test.YtdjaiappaghfnaaTN3
import Derived.Test.YtdjaiappaghfnaaProg
/-
  Rows of bytes of the call's own, of which no cell that is read is frozen, whatever lies behind: what '[]byte(s)' lays is one.
-/
namespace Go.Proofs.Ytdjaiappaghfnaa
open Go.RowKit
set_option maxRecDepth 4000

def RowZ (t : TypeId) (w : World) (b n : Nat) (f : Nat → Int) : Prop :=
  ∃ (c : Array Value) (z : Nat × Nat), w.heap[b]? = some (.cells c t z) ∧ n ≤ c.size ∧ (∀ i, i < n → w.frozen? ⟨b, i, none⟩ = false) ∧ ∀ i, i < n → c[i]? = some (.int .u8 (f i))
namespace RowZ
variable {t : TypeId} {w w' : World} {b n : Nat} {f g : Nat → Int}
theorem ofRow (h : Row t w b n f) : RowZ t w b n f := by
  have hz := h.frozen
  obtain ⟨c, hb, hn, hc⟩ := h
  exact ⟨c, _, hb, hn, fun i _ => hz i, hc⟩
theorem cell (h : RowZ t w b n f) {i : Nat} (hi : i < n) : w.cell? ⟨b, i, none⟩ = some (.int .u8 (f i)) := by
  obtain ⟨c, z, hb, _, _, hc⟩ := h
  simp [World.cell?, hb, hc i hi]
theorem frozen (h : RowZ t w b n f) {i : Nat} (hi : i < n) : w.frozen? ⟨b, i, none⟩ = false := by
  obtain ⟨c, z, hb, _, hz, _⟩ := h
  exact hz i hi
theorem lt (h : RowZ t w b n f) : b < w.heap.size := by
  obtain ⟨c, z, hb, _, _⟩ := h
  exact (Array.getElem?_eq_some_iff.1 hb).1
theorem congr (h : RowZ t w b n f) (e : ∀ i, i < n → f i = g i) : RowZ t w b n g := by
  obtain ⟨c, z, hb, hn, hz, hc⟩ := h
  exact ⟨c, z, hb, hn, hz, fun i hi => by rw [hc i hi, e i hi]⟩
theorem of_block (h : RowZ t w b n f) (e : w'.heap[b]? = w.heap[b]?) : RowZ t w' b n f := by
  obtain ⟨c, z, hb, hn, hz, hc⟩ := h
  refine ⟨c, z, e.trans hb, hn, fun i hi => ?_, hc⟩
  have := hz i hi
  simp only [World.frozen?, e] at this ⊢
  exact this
theorem belowAll (h : RowZ t w b n f) (hb : Below w.heap.size w w') : RowZ t w' b n f := h.of_block (hb.block b h.lt)
theorem set (h : RowZ t w b n f) (i : Nat) (x : Int) : RowZ t (w.setCell ⟨b, i, none⟩ (.int .u8 x)) b n (fun j => if j = i then x else f j) := by
  obtain ⟨c, z, hb, hn, hz, hc⟩ := h
  have hb' : (w.setCell ⟨b, i, none⟩ (.int .u8 x)).heap[b]? = some (.cells (c.setIfInBounds i (.int .u8 x)) t z) := by simp [World.setCell, Array.getElem?_modify, hb]
  refine ⟨c.setIfInBounds i (.int .u8 x), z, hb', by simpa using hn, fun j hj => ?_, fun j hj => ?_⟩
  · have := hz j hj
    simp only [World.frozen?, hb, hb'] at this ⊢
    exact this
  · rw [Array.getElem?_setIfInBounds]
    by_cases e : j = i
    · subst e
      have : j < c.size := by omega
      simp [this]
    · rw [if_neg (fun h => e h.symm)]
      show c[j]? = some (.int .u8 (if j = i then x else f j))
      rw [if_neg e]
      exact hc j hj
theorem view {cap : Nat} (h : RowZ t w b n f) (hc : n ≤ cap) (hb : ∀ i, i < n → 0 ≤ f i ∧ f i ≤ 255) : View w (some ⟨b, 0, none⟩) n cap f :=
  ⟨hc, hb, fun _ => ⟨b, 0, rfl, h.lt, fun i hi => by rw [Nat.zero_add]; exact h.cell hi⟩⟩
end RowZ
theorem Only.rowZ {t : TypeId} {b b' n : Nat} {f : Nat → Int} {w w' : World} (h : Only b w w') (hr : RowZ t w b' n f) (hne : b' ≠ b) : RowZ t w' b' n f := hr.of_block (h.block b' hne)

theorem bytesRow_size (s : ByteArray) (cap : Nat) : s.size ≤ (bytesRow s cap).size := by
  unfold bytesRow
  rw [Array.size_append, Array.size_map]
  exact Nat.le_add_right _ _
/-- What '[]byte(s)' lays. -/
theorem text_row (w : World) (s : ByteArray) (cap : Nat) : RowZ 5 (w.alloc (.cells (bytesRow s cap) 5 ((bytesRow s cap).size, (bytesRow s cap).size + 1))) w.heap.size s.size (fun i => (sl s).getD i 0) := by
  have hb : (w.alloc (.cells (bytesRow s cap) 5 ((bytesRow s cap).size, (bytesRow s cap).size + 1))).heap[w.heap.size]? = some (.cells (bytesRow s cap) 5 ((bytesRow s cap).size, (bytesRow s cap).size + 1)) := Deep.blk_alloc_new _ _
  have hl := bytesRow_size s cap
  refine ⟨_, _, hb, hl, fun i hi => ?_, fun i hi => ?_⟩
  · simp only [World.frozen?, hb]
    have : ¬ (bytesRow s cap).size ≤ i := by omega
    simp [this]
  · have hi' : i < (sl s).length := by rw [sl_len]; exact hi
    have hd : i < s.data.size := hi
    unfold bytesRow
    rw [Array.getElem?_append_left (by simpa using hd)]
    simp [sl]
    exact ⟨s.data[i], Array.getElem?_eq_getElem hd, by rw [Array.getElem?_eq_getElem hd]; rfl⟩

end Go.Proofs.Ytdjaiappaghfnaa

/-
  bytes.Equal at two slices of bytes that read.
-/
namespace Go.Proofs.Ytdjaiappaghfnaa
open Go.RowKit
set_option maxRecDepth 4000

set_option maxHeartbeats 400000 in
theorem equal_any (b1 o1 n c1 : Nat) (f : Nat → Int) (b2 o2 m c2 : Nat) (g : Nat → Int) (w : World) (h1 : View w (some ⟨b1, o1, none⟩) n c1 f) (h2 : View w (some ⟨b2, o2, none⟩) m c2 g) :
    Calls Try.prog 90 #[.slice (some ⟨b1, o1, none⟩) n c1, .slice (some ⟨b2, o2, none⟩) m c2] w fun e w' => e = .returned (.bool ((strOfNums (lof n f)).toList == (strOfNums (lof m g)).toList)) ∧ w = w' := by
  have q1 := conv_view h1
  have q2 := conv_view h2
  go_enter Try.func90, Try.ntmps90
  go_wp2
  go_ret
  exact ⟨rfl, rfl⟩
end Go.Proofs.Ytdjaiappaghfnaa

/-
  The program's GetSum and the model's: both answer what stands ahead of the last four bytes, and true, just where these are its sum; else nothing and false.
-/
namespace Go.Proofs.Ytdjaiappaghfnaa
open Go.RowKit
set_option maxRecDepth 4000

set_option maxHeartbeats 1000000 in
theorem getSum_impl_few (n : Nat) (f : Nat → Int) (hn : n < 4) : Gives 104 n f 0 false := by
  intro b cap w hv
  have hz : (n : Int) - 4 < 0 := by omega
  go_enter Try.func104, Try.ntmps104
  go_wp2
  go_ret2
  exact ⟨_, _, rfl, Nat.le_refl _, Nat.le_refl _, noRow _ _ _, (Below.refl _ _).alloc (Nat.le_refl _) _⟩

set_option maxHeartbeats 1000000 in
theorem getSum_impl_yes (m : Nat) (f : Nat → Int) (hn : m + 4 ≤ 1048576) (hf : ∀ i, i < m + 4 → 0 ≤ f i ∧ f i ≤ 255) (hs : last4 m f = (crc m f : Int)) : Gives 104 (m + 4) f m true := by
  intro b cap w hv
  have hz : (0 : Int) ≤ (m : Int) := by omega
  have hcl : (m : Int) ≤ (cap : Int) := by have := hv.le; omega
  have HQ : Hid (((strOfNums (lof (m + 4) (fun i => (lof m f ++ sumL (crc m f)).getD i 0))).toList == (strOfNums (lof (m + 4) f)).toList) = true) := by
    show _ = true
    have e : lof (m + 4) (fun i => (lof m f ++ sumL (crc m f)).getD i 0) = lof m f ++ sumL (crc m f) := by
      have := lof_self (lof m f ++ sumL (crc m f))
      rw [List.length_append, lof_len, sumL_len] at this
      exact this
    rw [e, (sum_iff hf (crc_lt (fun i hi => hf i (by omega)))).2 hs]
    simp
  have HP : Hid (∀ i, i < m + 4 → 0 ≤ (lof m f ++ sumL (crc m f)).getD i 0 ∧ (lof m f ++ sumL (crc m f)).getD i 0 ≤ 255) := put_byte m f _ (fun i hi => hf i (by omega)) (sumL_byte _)
  clear hs hf
  go_enter Try.func104, Try.ntmps104
  go_wp2_with fail
  refine (putSum_impl b 0 m cap f w (hv.take (by omega)) (by omega)).mono ?_
  rintro e w1 ⟨g, c, rfl, hg, hgc, hr, hb1⟩
  go_wp2_with fail
  refine (equal_any g 0 (m + 4) c _ b 0 (m + 4) cap f w1 (hr.view hgc HP.out) (hv.below hb1)).mono ?_
  rintro e _ ⟨he, rfl⟩
  rw [HQ.out] at he
  subst he
  clear hr HP HQ
  go_wp2_with fail
  refine (putBytes_any b 0 m cap f none 0 0 (fun _ => 0) w1 ((hv.below hb1).take (by omega)) (noView _ _) (fun _ => ⟨rfl, rfl⟩) (by omega)).mono ?_
  rintro e w2 ⟨rfl, hown, hb2⟩
  rw [show lof 0 (fun _ => 0) = [] from rfl, List.append_nil, Nat.add_zero] at hown
  have hrow : Row 5 w2 w1.heap.size m f := (row_of_owned hown).congr (fun i hi => lof_get m f i hi)
  go_wp2
  go_ret2
  exact ⟨_, _, rfl, hb1.size, Nat.le_refl _, hrow, hb1.trans (hb2.mono hb1.size)⟩

set_option maxHeartbeats 1000000 in
theorem getSum_impl_no (m : Nat) (f : Nat → Int) (hn : m + 4 ≤ 1048576) (hf : ∀ i, i < m + 4 → 0 ≤ f i ∧ f i ≤ 255) (hs : last4 m f ≠ (crc m f : Int)) : Gives 104 (m + 4) f 0 false := by
  intro b cap w hv
  have hz : (0 : Int) ≤ (m : Int) := by omega
  have hcl : (m : Int) ≤ (cap : Int) := by have := hv.le; omega
  have HQ : Hid (((strOfNums (lof (m + 4) (fun i => (lof m f ++ sumL (crc m f)).getD i 0))).toList == (strOfNums (lof (m + 4) f)).toList) = false) := by
    show _ = false
    have e : lof (m + 4) (fun i => (lof m f ++ sumL (crc m f)).getD i 0) = lof m f ++ sumL (crc m f) := by
      have := lof_self (lof m f ++ sumL (crc m f))
      rw [List.length_append, lof_len, sumL_len] at this
      exact this
    rw [e, beq_eq_false_iff_ne]
    intro h
    refine hs ((sum_iff hf (crc_lt (fun i hi => hf i (by omega)))).1 (strOfNums_inj ?_ (lof_byteS hf) ?_))
    · intro y hy
      rcases List.mem_append.1 hy with hy | hy
      · exact lof_byteS (fun i hi => hf i (by omega)) y hy
      · exact sumL_byte _ y hy
    · rw [ByteArray.toList_eq, ByteArray.toList_eq] at h; exact ByteArray.ext (Array.ext' h)
  have HP : Hid (∀ i, i < m + 4 → 0 ≤ (lof m f ++ sumL (crc m f)).getD i 0 ∧ (lof m f ++ sumL (crc m f)).getD i 0 ≤ 255) := put_byte m f _ (fun i hi => hf i (by omega)) (sumL_byte _)
  clear hs hf
  go_enter Try.func104, Try.ntmps104
  go_wp2_with fail
  refine (putSum_impl b 0 m cap f w (hv.take (by omega)) (by omega)).mono ?_
  rintro e w1 ⟨g, c, rfl, hg, hgc, hr, hb1⟩
  go_wp2_with fail
  refine (equal_any g 0 (m + 4) c _ b 0 (m + 4) cap f w1 (hr.view hgc HP.out) (hv.below hb1)).mono ?_
  rintro e _ ⟨he, rfl⟩
  rw [HQ.out] at he
  subst he
  clear hr HP HQ
  go_wp2
  go_ret2
  exact ⟨_, _, rfl, hb1.size, Nat.le_refl _, noRow _ _ _, hb1.alloc hb1.size _⟩
end Go.Proofs.Ytdjaiappaghfnaa

/-
  The model's GetSum: it answers as the program's.
-/
namespace Go.Proofs.Ytdjaiappaghfnaa
open Go.RowKit
set_option maxRecDepth 4000

theorem i64_add_or (x y : Int) (h0 : 0 ≤ x) (h1 : x ≤ 16777215) (h2 : 0 ≤ y) (h3 : y ≤ 255) : bits .or .i64 (x * 256) y = x * 256 + y := by
  have e : bits .or .i64 (x * 256) y = bits .or .i64 y (x * 256) := by simp only [bits, BitVec.or_comm]
  rw [e, i64_or_add 8 y (x * 256) h2 (by show _ < (256 : Int); omega) (by omega) (by show _ % (256 : Int) = 0; omega) (by omega) (by decide)]
  omega

set_option maxHeartbeats 1000000 in
theorem getSum_spec_few (n : Nat) (f : Nat → Int) (hn : n < 4) : Gives 84 n f 0 false := by
  intro b cap w hv
  have hz : (n : Int) - 4 < 0 := by omega
  go_enter Try.func84, Try.ntmps84
  go_wp2
  go_ret2
  exact ⟨_, _, rfl, Nat.le_refl _, Nat.le_refl _, noRow _ _ _, (Below.refl _ _).alloc (Nat.le_refl _) _⟩

set_option maxRecDepth 100000 in
set_option maxHeartbeats 2000000 in
theorem getSum_spec_all (m : Nat) (f : Nat → Int) (hn : m + 4 ≤ 1048576) (hf : ∀ i, i < m + 4 → 0 ≤ f i ∧ f i ≤ 255) (N : Nat) (B : Bool) (hs : (last4 m f = (crc m f : Int) ∧ N = m ∧ B = true) ∨ (last4 m f ≠ (crc m f : Int) ∧ N = 0 ∧ B = false)) : Gives 84 (m + 4) f N B := by
  intro b cap w hv
  obtain ⟨i0, hi, hz0, hz1, hz2⟩ := info_parts Try.info5
  have hz : (0 : Int) ≤ (m : Int) := by omega
  have hcl : (m : Int) ≤ (cap : Int) := by have := hv.le; omega
  obtain ⟨b', off', e, hb, hc⟩ := hv.cells (by omega)
  simp only [Option.some.injEq, Addr.mk.injEq, and_true] at e
  obtain ⟨rfl, rfl⟩ := e
  have hc0 := hc m (by omega)
  have hc1 := hc (m + 1) (by omega)
  have hc2 := hc (m + 2) (by omega)
  have hc3 := hc (m + 3) (by omega)
  rw [Nat.zero_add] at hc0 hc1 hc2 hc3
  obtain ⟨b00, b01⟩ := hf m (by omega)
  obtain ⟨b10, b11⟩ := hf (m + 1) (by omega)
  obtain ⟨b20, b21⟩ := hf (m + 2) (by omega)
  obtain ⟨b30, b31⟩ := hf (m + 3) (by omega)
  have q0 : bits .or .i64 0 (f m) = f m := by have := i64_add_or 0 (f m) (by omega) (by omega) b00 b01; simpa using this
  have q1 := i64_add_or (f m) (f (m + 1)) b00 (by omega) b10 b11
  have q2 := i64_add_or (f m * 256 + f (m + 1)) (f (m + 2)) (by omega) (by omega) b20 b21
  have q3 := i64_add_or ((f m * 256 + f (m + 1)) * 256 + f (m + 2)) (f (m + 3)) (by omega) (by omega) b30 b31
  obtain ⟨c, hcc⟩ : ∃ c, Hid (crc m f = c) := ⟨_, rfl⟩
  rw [hcc.out] at hs
  unfold last4 at hs
  have hown0 := World.ownsRow_lit (base := w.heap.size) (e := 5) (size := 1) w #[] 0 (Nat.le_refl _) (Nat.zero_le _) rfl
  have hb0 : Below w.heap.size w (w.alloc (.cells #[] 5)) := (Below.refl _ _).alloc (Nat.le_refl _) _
  have hclc := cells_of_view ((hv.take (m := m) (by omega)).below hb0)
  have hsz : (w.alloc (.cells #[] 5)).heap.size = w.heap.size + 1 := by simp
  clear hc hf
  rcases hs with ⟨hs, rfl, rfl⟩ | ⟨hs, rfl, rfl⟩
  · have hne : (((f N * 256 + f (N + 1)) * 256 + f (N + 2)) * 256 + f (N + 3) != (c : Int)) = false := by simp [hs]
    have HS : Hid (((f N * 256 + f (N + 1)) * 256 + f (N + 2)) * 256 + f (N + 3) = (c : Int)) := hs
    clear hs
    go_enter Try.func84, Try.ntmps84
    go_wp2
    refine wp_loop_rounds 5 ?_
    rw [rounds_succ]
    go_wp2
    rw [rounds_succ]
    go_wp2
    rw [rounds_succ]
    go_wp2
    rw [rounds_succ]
    go_wp2
    rw [rounds_succ]
    go_wp2_with fail
    refine (crc_spec' _ N cap f w hcc (hv.take (by omega)) (by omega)).mono ?_
    rintro e _ ⟨rfl, rfl⟩
    go_wp2_with (at_builtin; go_must (refine wpList_append_own _ rfl (.tmp 35) (.tmp 38) 63 rfl w.heap.size 5 i0 (.int .u8 0) 1 1 Try.underlying63 hi hz0 hz1 hz2 rfl (by decide) (.slice (some ⟨w.heap.size, 0, none⟩) 0 0) 0 [] rfl hown0 ⟨b, 0, none⟩ N cap (bl (lof N f)) rfl (by rw [bl_len, lof_len]; omega) hclc (bl_one _) (by unfold maxLen; omega) (by omega) (by rw [hsz]; omega) ?_); intro v1 w1 hown1 hgr1 hnil)
    have hb1 : Below w.heap.size w w1 := hb0.grown hgr1 (by simp) (fun k hk => by simp only [Value.ownBlock, Option.some.injEq] at hk; omega)
    rw [Nat.zero_add, List.nil_append] at hown1
    obtain ⟨g, c', hv1, hg, hgc, hrow⟩ := row_of_own' hown1 (fun h => by have := hnil.1 h; simp at this)
    go_ret2
    rw [hv1]
    exact ⟨g, c', rfl, hg, hgc, hrow.congr (fun i hi => lof_get N f i hi), hb1⟩
  · have hne : (((f m * 256 + f (m + 1)) * 256 + f (m + 2)) * 256 + f (m + 3) != (c : Int)) = true := by simp [hs]
    clear hs
    go_enter Try.func84, Try.ntmps84
    go_wp2
    refine wp_loop_rounds 5 ?_
    rw [rounds_succ]
    go_wp2
    rw [rounds_succ]
    go_wp2
    rw [rounds_succ]
    go_wp2
    rw [rounds_succ]
    go_wp2
    rw [rounds_succ]
    go_wp2_with fail
    refine (crc_spec' _ m cap f w hcc (hv.take (by omega)) (by omega)).mono ?_
    rintro e _ ⟨rfl, rfl⟩
    go_wp2
    go_ret2
    exact ⟨_, _, rfl, Nat.le_refl _, Nat.le_refl _, noRow _ _ _, (Below.refl _ _).alloc (Nat.le_refl _) _⟩
end Go.Proofs.Ytdjaiappaghfnaa

/-
  The program's GetU and the model's come to the same plain function, at every slice of bytes that reads and at every place.
-/
namespace Go.Proofs.Ytdjaiappaghfnaa
open Go.RowKit
set_option maxRecDepth 4000

theorem ret3 {a b a' b' : Int} {c c' : Bool} (h1 : a = a') (h2 : b = b') (h3 : c = c') :
    Ending.returned (.tuple #[.int .i64 a, .int .i64 b, .bool c]) = .returned (.tuple #[.int .i64 a', .int .i64 b', .bool c']) := by rw [h1, h2, h3]

def getRet (r : Int × Int × Bool) : Ending := .returned (.tuple #[.int .i64 r.1, .int .i64 r.2.1, .bool r.2.2])

set_option maxHeartbeats 1000000 in
theorem getU_impl (ao : Option Addr) (n cap : Nat) (f : Nat → Int) (p : Int) (w : World) (hv : View w ao n cap f) (hn : n ≤ 281474976710656) (hp1 : p ≤ 9223372036854775807) :
    Calls Try.prog 89 #[.slice ao n cap, .int .i64 p] w fun e w' => e = getRet (getU n f p) ∧ w' = w := by
  by_cases hp : p < 0
  · rw [getU_neg n f p hp]
    go_enter Try.func89, Try.ntmps89
    go_wp2
    go_ret3
    exact ⟨rfl, rfl⟩
  obtain ⟨i, rfl⟩ := Int.eq_ofNat_of_zero_le (Int.not_lt.1 hp)
  by_cases h0 : i < n
  case neg =>
    rw [getU_past n f i (by omega)]
    have hge : (n : Int) ≤ (i : Int) := by omega
    go_enter Try.func89, Try.ntmps89
    go_wp2
    refine wp_loop_rounds 1 ?_
    rw [rounds_succ]
    go_wp2
    go_ret3
    exact ⟨rfl, rfl⟩
  obtain ⟨b, off, rfl, hb, hc⟩ := hv.cells (by omega)
  have hb0 := hv.byte i h0
  have hc0 := hc i h0
  have hz0 : (i : Int) < (n : Int) := by omega
  by_cases h1 : f i < 128
  · rw [getU_1 n f i h0 h1]
    clear hc hv
    go_enter Try.func89, Try.ntmps89
    go_wp2
    refine wp_loop_rounds 1 ?_
    rw [rounds_succ]
    go_wp2
    all_goals
      go_ret3
      exact ⟨ret3 (by first | rfl | (dsimp only; omega)) (by first | rfl | (dsimp only; omega)) rfl, rfl⟩
  by_cases h2 : i + 1 < n
  case neg =>
    rw [getU_2end n f i h0 (by omega) (by omega)]
    clear hc hv
    go_enter Try.func89, Try.ntmps89
    go_wp2
    refine wp_loop_rounds 2 ?_
    rw [rounds_succ]
    go_wp2
    all_goals
      rw [rounds_succ]
      go_wp2
    all_goals
      go_ret3
      exact ⟨ret3 (by first | rfl | (dsimp only; omega)) (by first | rfl | (dsimp only; omega)) rfl, rfl⟩
  have hb1 := hv.byte (i + 1) h2
  have hc1 := hc (i + 1) h2
  have hz1 : (i : Int) + 1 < (n : Int) := by omega
  by_cases h3 : f (i + 1) < 128
  case pos =>
    by_cases h4 : f (i + 1) = 0
    case pos =>
      rw [getU_2zero n f i h2 (by omega) h4]
      clear hc hv
      go_enter Try.func89, Try.ntmps89
      go_wp2
      refine wp_loop_rounds 2 ?_
      rw [rounds_succ]
      go_wp2
      all_goals
        rw [rounds_succ]
        go_wp2
      all_goals
        go_ret3
        exact ⟨ret3 (by first | rfl | (dsimp only; omega)) (by first | rfl | (dsimp only; omega)) rfl, rfl⟩
    case neg =>
      rw [getU_2 n f i h2 (by omega) h3 h4]
      clear hc hv
      go_enter Try.func89, Try.ntmps89
      go_wp2
      refine wp_loop_rounds 2 ?_
      rw [rounds_succ]
      go_wp2
      all_goals
        rw [rounds_succ]
        go_wp2
      all_goals
        go_ret3
        exact ⟨ret3 (by first | rfl | (dsimp only; omega)) (by first | rfl | (dsimp only; omega)) rfl, rfl⟩
  by_cases h5 : i + 2 < n
  case neg =>
    rw [getU_3end n f i h2 (by omega) (by omega) (by omega)]
    clear hc hv
    go_enter Try.func89, Try.ntmps89
    go_wp2
    refine wp_loop_rounds 3 ?_
    rw [rounds_succ]
    go_wp2
    all_goals
      rw [rounds_succ]
      go_wp2
    all_goals
      rw [rounds_succ]
      go_wp2
    all_goals
      go_ret3
      exact ⟨ret3 (by first | rfl | (dsimp only; omega)) (by first | rfl | (dsimp only; omega)) rfl, rfl⟩
  have hb2 := hv.byte (i + 2) h5
  have hc2 := hc (i + 2) h5
  have hz2 : (i : Int) + 2 < (n : Int) := by omega
  by_cases h6 : f (i + 2) < 128
  case neg =>
    rw [getU_long n f i h5 (by omega) (by omega) (by omega)]
    clear hc hv
    go_enter Try.func89, Try.ntmps89
    go_wp2
    refine wp_loop_rounds 4 ?_
    rw [rounds_succ]
    go_wp2
    all_goals
      rw [rounds_succ]
      go_wp2
    all_goals
      rw [rounds_succ]
      go_wp2
    all_goals
      rw [rounds_succ]
      go_wp2
    all_goals
      go_ret3
      exact ⟨ret3 (by first | rfl | (dsimp only; omega)) (by first | rfl | (dsimp only; omega)) rfl, rfl⟩
  by_cases h7 : f (i + 2) = 0 ∨ 1000000 < f i - 128 + (f (i + 1) - 128) * 128 + f (i + 2) * 16384
  case pos =>
    rw [getU_3no n f i h5 (by omega) (by omega) h6 h7]
    clear hc hv
    go_enter Try.func89, Try.ntmps89
    go_wp2
    refine wp_loop_rounds 3 ?_
    rw [rounds_succ]
    go_wp2
    all_goals
      rw [rounds_succ]
      go_wp2
    all_goals
      rw [rounds_succ]
      go_wp2
    all_goals
      go_ret3
      exact ⟨ret3 (by first | rfl | (dsimp only; omega)) (by first | rfl | (dsimp only; omega)) rfl, rfl⟩
  case neg =>
    rw [getU_3 n f i h5 (by omega) (by omega) h6 h7]
    clear hc hv
    go_enter Try.func89, Try.ntmps89
    go_wp2
    refine wp_loop_rounds 3 ?_
    rw [rounds_succ]
    go_wp2
    all_goals
      rw [rounds_succ]
      go_wp2
    all_goals
      rw [rounds_succ]
      go_wp2
    all_goals
      go_ret3
      exact ⟨ret3 (by first | rfl | (dsimp only; omega)) (by first | rfl | (dsimp only; omega)) rfl, rfl⟩
end Go.Proofs.Ytdjaiappaghfnaa

/-
  The program's GetText: the bytes behind a number that says how many they are, as a text.
-/
namespace Go.Proofs.Ytdjaiappaghfnaa
open Go.RowKit
set_option maxRecDepth 4000

theorem getU_impl' {a b : Int} {c : Bool} (ao : Option Addr) (n cap : Nat) (f : Nat → Int) (p : Int) (w : World) (hg : Hid (getU n f p = (a, b, c))) (hv : View w ao n cap f) (hn : n ≤ 281474976710656) (hp1 : p ≤ 9223372036854775807) :
    Calls Try.prog 89 #[.slice ao n cap, .int .i64 p] w fun e w' => e = .returned (.tuple #[.int .i64 a, .int .i64 b, .bool c]) ∧ w = w' := by
  refine (getU_impl ao n cap f p w hv hn hp1).mono ?_
  rintro e w' ⟨he, hw⟩
  rw [hg.out] at he
  exact ⟨he, hw.symm⟩

set_option maxHeartbeats 1000000 in
theorem getText_impl (b off n cap : Nat) (f : Nat → Int) (p : Int) (w : World) (s : ByteArray) (q : Int) (ok : Bool) (hg : Hid (getText n f p = (s, q, ok))) (hv : View w (some ⟨b, off, none⟩) n cap f) (hn : n ≤ 281474976710656) (hp1 : p ≤ 9223372036854775807) :
    Calls Try.prog 105 #[.slice (some ⟨b, off, none⟩) n cap, .int .i64 p] w fun e w' => e = .returned (.tuple #[.string s, .int .i64 q, .bool ok]) ∧ w = w' := by
  obtain ⟨a, r, c, hu⟩ : ∃ a r c, Hid (getU n f p = (a, r, c)) := ⟨_, _, _, rfl⟩
  have hbd : c = true → 0 ≤ a ∧ a ≤ 1000000 ∧ 0 ≤ r ∧ r ≤ n := by rintro rfl; exact getU_bd hv.byte hu.out
  have hT : getText n f p = if c = true ∧ a ≤ n - r then (strOfNums (lof a.toNat (fun i => f (r.toNat + i))), r + a, true) else (strOfNums [], 0, false) := by unfold getText; rw [hu.out]
  rw [hg.out] at hT
  cases c with
  | false =>
    rw [if_neg (by simp)] at hT
    cases hT
    clear hbd
    go_enter Try.func105, Try.ntmps105
    go_wp2_with fail
    refine (getU_impl' _ n cap f p w hu hv hn hp1).mono ?_
    rintro e _ ⟨rfl, rfl⟩
    go_wp2
    go_ret3
    exact ⟨rfl, rfl⟩
  | true =>
    obtain ⟨h0, h1, h2, h3⟩ := hbd rfl
    obtain ⟨a, rfl⟩ := Int.eq_ofNat_of_zero_le h0
    obtain ⟨r, rfl⟩ := Int.eq_ofNat_of_zero_le h2
    clear hbd
    by_cases hl : (a : Int) ≤ n - r
    · rw [if_pos ⟨rfl, hl⟩, Int.toNat_natCast, Int.toNat_natCast] at hT
      simp only [Prod.mk.injEq] at hT
      obtain ⟨rfl, rfl, rfl⟩ := hT
      have hle := hv.le
      have hcap : (r : Int) + a ≤ cap := by omega
      by_cases hrc : r < cap
      · have hrz : (r : Int) < cap := by omega
        have q1 : (convert 63 9 (.slice (some ⟨b, off + r, none⟩) a (cap - r))).run Try.prog w = .ok (.string (strOfNums (lof a (fun i => f (r + i))))) w := conv_view (hv.cut (by omega))
        go_enter Try.func105, Try.ntmps105
        go_wp2_with fail
        refine (getU_impl' _ n cap f p w hu hv hn hp1).mono ?_
        rintro e _ ⟨rfl, rfl⟩
        go_wp2
        go_ret3
        exact ⟨rfl, rfl⟩
      · obtain rfl : r = cap := by omega
        obtain rfl : a = 0 := by omega
        have hrz : ¬ (r : Int) < r := by omega
        have q2 : (convert 63 9 (.slice (some ⟨b, off, none⟩) 0 0)).run Try.prog w = .ok (.string (strOfNums (lof 0 f))) w := conv_view ⟨Nat.le_refl _, fun _ h => absurd h (Nat.not_lt_zero _), fun h => absurd h (Nat.lt_irrefl _)⟩
        go_enter Try.func105, Try.ntmps105
        go_wp2_with fail
        refine (getU_impl' _ n r f p w hu hv hn hp1).mono ?_
        rintro e _ ⟨rfl, rfl⟩
        go_wp2
        go_ret3
        exact ⟨retT rfl (by omega) rfl, rfl⟩
    · rw [if_neg (by simp [hl])] at hT
      cases hT
      have hl2 : (n : Int) - r < a := by omega
      go_enter Try.func105, Try.ntmps105
      go_wp2_with fail
      refine (getU_impl' _ n cap f p w hu hv hn hp1).mono ?_
      rintro e _ ⟨rfl, rfl⟩
      go_wp2
      go_ret3
      exact ⟨rfl, rfl⟩

end Go.Proofs.Ytdjaiappaghfnaa

/-
  The model's GetU comes to the same plain function as the program, at every slice of bytes that reads and at every place.
-/
namespace Go.Proofs.Ytdjaiappaghfnaa
open Go.RowKit
set_option maxRecDepth 4000

set_option maxHeartbeats 1000000 in
theorem getU_spec (ao : Option Addr) (n cap : Nat) (f : Nat → Int) (p : Int) (w : World) (hv : View w ao n cap f) (hn : n ≤ 281474976710656) (hp1 : p ≤ 9223372036854775807) :
    Calls Try.prog 67 #[.slice ao n cap, .int .i64 p] w fun e w' => e = getRet (getU n f p) ∧ w' = w := by
  by_cases hp : p < 0
  · rw [getU_neg n f p hp]
    go_enter Try.func67, Try.ntmps67
    go_wp2
    refine wp_loop_rounds 1 ?_
    rw [rounds_succ]
    go_wp2
    go_ret3
    exact ⟨rfl, rfl⟩
  obtain ⟨i, rfl⟩ := Int.eq_ofNat_of_zero_le (Int.not_lt.1 hp)
  by_cases h0 : i < n
  case neg =>
    rw [getU_past n f i (by omega)]
    have hge : (n : Int) ≤ (i : Int) := by omega
    go_enter Try.func67, Try.ntmps67
    go_wp2
    refine wp_loop_rounds 1 ?_
    rw [rounds_succ]
    go_wp2
    go_ret3
    exact ⟨rfl, rfl⟩
  obtain ⟨b, off, rfl, hb, hc⟩ := hv.cells (by omega)
  have hb0 := hv.byte i h0
  have hc0 := hc i h0
  have hz0 : (i : Int) < (n : Int) := by omega
  have hA : ∀ x : Int, bits .and .i64 x 127 = x % 128 := i64_and127
  have q0 : bits .or .i64 0 (f i % 128) = f i % 128 := by
    rw [i64_or_add 0 0 (f i % 128) (by omega) (by decide) (by omega) (by simp [Int.emod_one]) (by omega) (by decide)]; omega
  by_cases h1 : f i < 128
  · rw [getU_1 n f i h0 h1]
    clear hc hv
    go_enter Try.func67, Try.ntmps67
    go_wp2
    refine wp_loop_rounds 1 ?_
    rw [rounds_succ]
    go_wp2
    all_goals
      go_ret3
      exact ⟨ret3 (by first | rfl | (dsimp only; omega)) (by first | rfl | (dsimp only; omega)) rfl, rfl⟩
  by_cases h2 : i + 1 < n
  case neg =>
    rw [getU_2end n f i h0 (by omega) (by omega)]
    clear hc hv
    go_enter Try.func67, Try.ntmps67
    go_wp2
    refine wp_loop_rounds 2 ?_
    rw [rounds_succ]
    go_wp2
    all_goals
      rw [rounds_succ]
      go_wp2
    all_goals
      go_ret3
      exact ⟨ret3 (by first | rfl | (dsimp only; omega)) (by first | rfl | (dsimp only; omega)) rfl, rfl⟩
  have hb1 := hv.byte (i + 1) h2
  have hc1 := hc (i + 1) h2
  have hz1 : (i : Int) + 1 < (n : Int) := by omega
  have q1 : bits .or .i64 (f i % 128) (f (i + 1) % 128 * 128) = f i % 128 + f (i + 1) % 128 * 128 :=
    i64_or_add 7 _ _ (by omega) (by show _ < (128 : Int); omega) (by omega) (by show _ % (128 : Int) = 0; omega) (by omega) (by decide)
  by_cases h3 : f (i + 1) < 128
  case pos =>
    by_cases h4 : f (i + 1) = 0
    case pos =>
      rw [getU_2zero n f i h2 (by omega) h4]
      clear hc hv
      go_enter Try.func67, Try.ntmps67
      go_wp2
      refine wp_loop_rounds 2 ?_
      rw [rounds_succ]
      go_wp2
      all_goals
        rw [rounds_succ]
        go_wp2
      all_goals
        go_ret3
        exact ⟨ret3 (by first | rfl | (dsimp only; omega)) (by first | rfl | (dsimp only; omega)) rfl, rfl⟩
    case neg =>
      rw [getU_2 n f i h2 (by omega) h3 h4]
      clear hc hv
      have hq1 : (f (i + 1) == 0) = false := beq_eq_false_iff_ne.2 h4
      go_enter Try.func67, Try.ntmps67
      go_wp2
      refine wp_loop_rounds 2 ?_
      rw [rounds_succ]
      go_wp2
      all_goals
        rw [rounds_succ]
        go_wp2
      all_goals
        go_ret3
        exact ⟨ret3 (by first | rfl | (dsimp only; omega)) (by first | rfl | (dsimp only; omega)) rfl, rfl⟩
  by_cases h5 : i + 2 < n
  case neg =>
    rw [getU_3end n f i h2 (by omega) (by omega) (by omega)]
    clear hc hv
    go_enter Try.func67, Try.ntmps67
    go_wp2
    refine wp_loop_rounds 3 ?_
    rw [rounds_succ]
    go_wp2
    all_goals
      rw [rounds_succ]
      go_wp2
    all_goals
      rw [rounds_succ]
      go_wp2
    all_goals
      go_ret3
      exact ⟨ret3 (by first | rfl | (dsimp only; omega)) (by first | rfl | (dsimp only; omega)) rfl, rfl⟩
  have hb2 := hv.byte (i + 2) h5
  have hc2 := hc (i + 2) h5
  have hz2 : (i : Int) + 2 < (n : Int) := by omega
  have q2 : bits .or .i64 (f i % 128 + f (i + 1) % 128 * 128) (f (i + 2) % 128 * 16384) = f i % 128 + f (i + 1) % 128 * 128 + f (i + 2) % 128 * 16384 :=
    i64_or_add 14 _ _ (by omega) (by show _ < (16384 : Int); omega) (by omega) (by show _ % (16384 : Int) = 0; omega) (by omega) (by decide)
  by_cases h6 : f (i + 2) < 128
  case neg =>
    rw [getU_long n f i h5 (by omega) (by omega) (by omega)]
    clear hc hv
    go_enter Try.func67, Try.ntmps67
    go_wp2
    refine wp_loop_rounds 4 ?_
    rw [rounds_succ]
    go_wp2
    all_goals
      rw [rounds_succ]
      go_wp2
    all_goals
      rw [rounds_succ]
      go_wp2
    all_goals
      rw [rounds_succ]
      go_wp2
    all_goals
      go_ret3
      exact ⟨ret3 (by first | rfl | (dsimp only; omega)) (by first | rfl | (dsimp only; omega)) rfl, rfl⟩
  by_cases h7 : f (i + 2) = 0 ∨ 1000000 < f i - 128 + (f (i + 1) - 128) * 128 + f (i + 2) * 16384
  case pos =>
    rw [getU_3no n f i h5 (by omega) (by omega) h6 h7]
    clear hc hv
    go_enter Try.func67, Try.ntmps67
    go_wp2
    refine wp_loop_rounds 3 ?_
    rw [rounds_succ]
    go_wp2
    all_goals
      rw [rounds_succ]
      go_wp2
    all_goals
      rw [rounds_succ]
      go_wp2
    all_goals
      go_ret3
      exact ⟨ret3 (by first | rfl | (dsimp only; omega)) (by first | rfl | (dsimp only; omega)) rfl, rfl⟩
  case neg =>
    rw [getU_3 n f i h5 (by omega) (by omega) h6 h7]
    clear hc hv
    have hq2 : (f (i + 2) == 0) = false := beq_eq_false_iff_ne.2 (fun e => h7 (Or.inl e))
    go_enter Try.func67, Try.ntmps67
    go_wp2
    refine wp_loop_rounds 3 ?_
    rw [rounds_succ]
    go_wp2
    all_goals
      rw [rounds_succ]
      go_wp2
    all_goals
      rw [rounds_succ]
      go_wp2
    all_goals
      go_ret3
      exact ⟨ret3 (by first | rfl | (dsimp only; omega)) (by first | rfl | (dsimp only; omega)) rfl, rfl⟩
end Go.Proofs.Ytdjaiappaghfnaa

/-
  The model's GetText: the bytes behind a number that says how many they are, as a text.
-/
namespace Go.Proofs.Ytdjaiappaghfnaa
open Go.RowKit
set_option maxRecDepth 4000

theorem getU_spec' {a b : Int} {c : Bool} (ao : Option Addr) (n cap : Nat) (f : Nat → Int) (p : Int) (w : World) (hg : Hid (getU n f p = (a, b, c))) (hv : View w ao n cap f) (hn : n ≤ 281474976710656) (hp1 : p ≤ 9223372036854775807) :
    Calls Try.prog 67 #[.slice ao n cap, .int .i64 p] w fun e w' => e = .returned (.tuple #[.int .i64 a, .int .i64 b, .bool c]) ∧ w = w' := by
  refine (getU_spec ao n cap f p w hv hn hp1).mono ?_
  rintro e w' ⟨he, hw⟩
  rw [hg.out] at he
  exact ⟨he, hw.symm⟩
set_option maxHeartbeats 1000000 in
theorem getText_spec (b off n cap : Nat) (f : Nat → Int) (p : Int) (w : World) (s : ByteArray) (q : Int) (ok : Bool) (hg : Hid (getText n f p = (s, q, ok))) (hv : View w (some ⟨b, off, none⟩) n cap f) (hn : n ≤ 281474976710656) (hp1 : p ≤ 9223372036854775807) :
    Calls Try.prog 85 #[.slice (some ⟨b, off, none⟩) n cap, .int .i64 p] w fun e w' => e = .returned (.tuple #[.string s, .int .i64 q, .bool ok]) ∧ w = w' := by
  obtain ⟨a, r, c, hu⟩ : ∃ a r c, Hid (getU n f p = (a, r, c)) := ⟨_, _, _, rfl⟩
  have hbd : c = true → 0 ≤ a ∧ a ≤ 1000000 ∧ 0 ≤ r ∧ r ≤ n := by rintro rfl; exact getU_bd hv.byte hu.out
  have hT : getText n f p = if c = true ∧ a ≤ n - r then (strOfNums (lof a.toNat (fun i => f (r.toNat + i))), r + a, true) else (strOfNums [], 0, false) := by unfold getText; rw [hu.out]
  rw [hg.out] at hT
  cases c with
  | false =>
    rw [if_neg (by simp)] at hT
    cases hT
    clear hbd
    go_enter Try.func85, Try.ntmps85
    go_wp2_with fail
    refine (getU_spec' _ n cap f p w hu hv hn hp1).mono ?_
    rintro e _ ⟨rfl, rfl⟩
    go_wp2
    go_ret3
    exact ⟨rfl, rfl⟩
  | true =>
    obtain ⟨h0, h1, h2, h3⟩ := hbd rfl
    obtain ⟨a, rfl⟩ := Int.eq_ofNat_of_zero_le h0
    obtain ⟨r, rfl⟩ := Int.eq_ofNat_of_zero_le h2
    clear hbd
    by_cases hl : (a : Int) ≤ n - r
    · rw [if_pos ⟨rfl, hl⟩, Int.toNat_natCast, Int.toNat_natCast] at hT
      simp only [Prod.mk.injEq] at hT
      obtain ⟨rfl, rfl, rfl⟩ := hT
      have hle := hv.le
      have hcap : (r : Int) + a ≤ cap := by omega
      by_cases hrc : r < cap
      · have hrz : (r : Int) < cap := by omega
        have q1 : (convert 63 9 (.slice (some ⟨b, off + r, none⟩) a (cap - r))).run Try.prog w = .ok (.string (strOfNums (lof a (fun i => f (r + i))))) w := conv_view (hv.cut (by omega))
        go_enter Try.func85, Try.ntmps85
        go_wp2_with fail
        refine (getU_spec' _ n cap f p w hu hv hn hp1).mono ?_
        rintro e _ ⟨rfl, rfl⟩
        go_wp2
        go_ret3
        exact ⟨rfl, rfl⟩
      · obtain rfl : r = cap := by omega
        obtain rfl : a = 0 := by omega
        have hrz : ¬ (r : Int) < r := by omega
        have q2 : (convert 63 9 (.slice (some ⟨b, off, none⟩) 0 0)).run Try.prog w = .ok (.string (strOfNums (lof 0 f))) w := conv_view ⟨Nat.le_refl _, fun _ h => absurd h (Nat.not_lt_zero _), fun h => absurd h (Nat.lt_irrefl _)⟩
        go_enter Try.func85, Try.ntmps85
        go_wp2_with fail
        refine (getU_spec' _ n r f p w hu hv hn hp1).mono ?_
        rintro e _ ⟨rfl, rfl⟩
        go_wp2
        go_ret3
        exact ⟨retT rfl (by omega) rfl, rfl⟩
    · rw [if_neg (by simp [hl])] at hT
      cases hT
      have hl2 : (n : Int) - r < a := by omega
      go_enter Try.func85, Try.ntmps85
      go_wp2_with fail
      refine (getU_spec' _ n cap f p w hu hv hn hp1).mono ?_
      rintro e _ ⟨rfl, rfl⟩
      go_wp2
      go_ret3
      exact ⟨rfl, rfl⟩
end Go.Proofs.Ytdjaiappaghfnaa

/-
  The program's GetPage and the model's: what is read as a page, in memory of its own.
-/
namespace Go.Proofs.Ytdjaiappaghfnaa
open Go.RowKit
set_option maxRecDepth 4000

/-- What GetPage comes to. -/
def PgTo (w : World) (r : Int × ByteArray × Bool) (e : Ending) (w' : World) : Prop := ∃ g c, e = .returned (.tuple #[.int .i64 r.1, .slice (some ⟨g, 0, none⟩) r.2.1.size c, .bool r.2.2]) ∧ w.heap.size ≤ g ∧ r.2.1.size ≤ c ∧ RowZ 5 w' g r.2.1.size (fun i => (sl r.2.1).getD i 0) ∧ Below w.heap.size w w'
theorem pgTo_no {w w1 : World} {b : Nat} (hb : Below w.heap.size w w1) (hw : b = w1.heap.size) : PgTo w (0, strOfNums [], false) (.returned (.tuple #[.int .i64 0, .slice (some ⟨b, 0, none⟩) 0 0, .bool false])) (w1.alloc (.cells #[] 5)) := by
  subst hw
  exact ⟨_, 0, rfl, hb.size, Nat.le_refl _, RowZ.ofRow (noRow _ _ _), hb.alloc hb.size _⟩
theorem getU_none13 {n : Nat} {f : Nat → Int} {p a q : Int} (h : getU n f p = (a, q, false)) : a = 0 ∧ q = 0 := by
  unfold getU at h
  repeat' split at h
  all_goals first | (simp at h; done) | (cases h; exact ⟨rfl, rfl⟩)
theorem getU_zero (f : Nat → Int) : getU 0 f 0 = (0, 0, false) := by unfold getU; rw [if_pos (by right; decide)]
theorem getText_zero (f : Nat → Int) : getText 0 f 0 = (strOfNums [], 0, false) := by unfold getText; rw [getU_zero, if_neg (by simp)]
theorem getPg_bad {n : Nat} {f : Nat → Int} (h : sumGood n f = false) : getPg n f = (0, strOfNums [], false) := by
  unfold getPg; rw [if_neg (by simp [h])]
theorem getPg_sum {n : Nat} {f : Nat → Int} {k q r : Int} {s : ByteArray} {a b : Bool} (hg : sumGood n f = true) (h1 : getU (n - 4) f 0 = (k, q, a)) (h2 : getText (n - 4) f q = (s, r, b)) : getPg n f = if a = true ∧ b = true ∧ r = ((n - 4 : Nat) : Int) ∧ (k = 1 ∨ k = 2) ∧ s.size ≤ 240 then (k, s, true) else (0, strOfNums [], false) := by
  unfold getPg
  rw [h1, h2]
  simp only [hg, true_and]
/-- What the sum gives. -/
def SumGives (fn : Nat) (ao : Option Addr) (n cap : Nat) (f : Nat → Int) (N : Nat) (B : Bool) (w : World) : Prop := Calls Try.prog fn #[.slice ao n cap] w fun e w' =>
    ∃ g c, e = .returned (.tuple #[.slice (some ⟨g, 0, none⟩) N c, .bool B]) ∧ w.heap.size ≤ g ∧ N ≤ c ∧ Row 5 w' g N f ∧ Below w.heap.size w w'

set_option maxHeartbeats 1000000 in
theorem sumFew_impl (ao : Option Addr) (n cap : Nat) (f : Nat → Int) (hn : n < 4) (w : World) : SumGives 104 ao n cap f 0 false w := by
  have hz : (n : Int) - 4 < 0 := by omega
  have hz2 : (n : Int) < 4 := by omega
  unfold SumGives
  go_enter Try.func104, Try.ntmps104
  go_wp2
  go_ret2
  exact ⟨_, _, rfl, Nat.le_refl _, Nat.le_refl _, noRow _ _ _, (Below.refl _ _).alloc (Nat.le_refl _) _⟩
theorem sumBad_impl (ao : Option Addr) (n cap : Nat) (f : Nat → Int) (w : World) (ha : 4 ≤ n → ∃ b, ao = some ⟨b, 0, none⟩) (hv : View w ao n cap f) (hn : n ≤ 1048576) (hg : sumGood n f = false) : SumGives 104 ao n cap f 0 false w := by
  by_cases h4 : n < 4
  · exact sumFew_impl ao n cap f h4 w
  · obtain ⟨b, rfl⟩ := ha (by omega)
    obtain ⟨m, rfl⟩ : ∃ m, n = m + 4 := ⟨n - 4, by omega⟩
    have h : last4 m f ≠ (crc m f : Int) := by simpa [sumGood] using hg
    exact getSum_impl_no m f hn hv.byte h b cap w hv
theorem sumYes_impl (b : Nat) (n cap : Nat) (f : Nat → Int) (w : World) (hv : View w (some ⟨b, 0, none⟩) n cap f) (hn : n ≤ 1048576) (hg : sumGood n f = true) : SumGives 104 (some ⟨b, 0, none⟩) n cap f (n - 4) true w := by
  have h' : 4 ≤ n ∧ last4 (n - 4) f = (crc (n - 4) f : Int) := by simpa [sumGood] using hg
  obtain ⟨m, rfl⟩ : ∃ m, n = m + 4 := ⟨n - 4, by omega⟩
  rw [Nat.add_sub_cancel] at h' ⊢
  exact getSum_impl_yes m f hn hv.byte h'.2 b cap w hv

set_option maxHeartbeats 1000000 in
theorem sumFew_spec (ao : Option Addr) (n cap : Nat) (f : Nat → Int) (hn : n < 4) (w : World) : SumGives 84 ao n cap f 0 false w := by
  have hz : (n : Int) - 4 < 0 := by omega
  have hz2 : (n : Int) < 4 := by omega
  unfold SumGives
  go_enter Try.func84, Try.ntmps84
  go_wp2
  go_ret2
  exact ⟨_, _, rfl, Nat.le_refl _, Nat.le_refl _, noRow _ _ _, (Below.refl _ _).alloc (Nat.le_refl _) _⟩
theorem sumBad_spec (ao : Option Addr) (n cap : Nat) (f : Nat → Int) (w : World) (ha : 4 ≤ n → ∃ b, ao = some ⟨b, 0, none⟩) (hv : View w ao n cap f) (hn : n ≤ 1048576) (hg : sumGood n f = false) : SumGives 84 ao n cap f 0 false w := by
  by_cases h4 : n < 4
  · exact sumFew_spec ao n cap f h4 w
  · obtain ⟨b, rfl⟩ := ha (by omega)
    obtain ⟨m, rfl⟩ : ∃ m, n = m + 4 := ⟨n - 4, by omega⟩
    have h : last4 m f ≠ (crc m f : Int) := by simpa [sumGood] using hg
    exact getSum_spec_all m f hn hv.byte 0 false (.inr ⟨h, rfl, rfl⟩) b cap w hv
theorem sumYes_spec (b : Nat) (n cap : Nat) (f : Nat → Int) (w : World) (hv : View w (some ⟨b, 0, none⟩) n cap f) (hn : n ≤ 1048576) (hg : sumGood n f = true) : SumGives 84 (some ⟨b, 0, none⟩) n cap f (n - 4) true w := by
  have h' : 4 ≤ n ∧ last4 (n - 4) f = (crc (n - 4) f : Int) := by simpa [sumGood] using hg
  obtain ⟨m, rfl⟩ : ∃ m, n = m + 4 := ⟨n - 4, by omega⟩
  rw [Nat.add_sub_cancel] at h' ⊢
  exact getSum_spec_all m f hn hv.byte m true (.inl ⟨h'.2, rfl, rfl⟩) b cap w hv

set_option maxHeartbeats 4000000 in
theorem getPage_spec (ao : Option Addr) (n cap : Nat) (f : Nat → Int) (w : World) (ha : 4 ≤ n → ∃ b, ao = some ⟨b, 0, none⟩) (hv : View w ao n cap f) (hn : n ≤ 1048576) :
    Calls Try.prog 66 #[.slice ao n cap] w (PgTo w (getPg n f)) := by
  by_cases hg : sumGood n f = true
  case neg =>
    have hg' : sumGood n f = false := by simpa using hg
    have HG : Hid (getPg n f = (0, strOfNums [], false)) := getPg_bad hg'
    have hS := sumBad_spec ao n cap f w ha hv hn hg'
    unfold SumGives at hS
    obtain ⟨M, hM⟩ : ∃ M, Hid (M = 0) := ⟨0, rfl⟩
    obtain ⟨q, hq⟩ : ∃ q : Int, Hid (q = 0) := ⟨0, rfl⟩
    obtain ⟨s, hs⟩ : ∃ s, Hid (s = strOfNums []) := ⟨_, rfl⟩
    obtain ⟨r, hr⟩ : ∃ r : Int, Hid (r = 0) := ⟨0, rfl⟩
    obtain ⟨gd, hgd⟩ : ∃ gd, Hid (gd = false) := ⟨_, rfl⟩
    have hU : Hid (getU M f 0 = (0, q, false)) := by show _ = _; rw [hM.out, hq.out]; exact getU_zero f
    have hT : Hid (getText M f q = (s, r, gd)) := by show _ = _; rw [hM.out, hq.out, hs.out, hr.out, hgd.out]; exact getText_zero f
    have HY : Hid (∀ i, i < M → 0 ≤ f i ∧ f i ≤ 255) := fun i hi => by rw [hM.out] at hi; omega
    have hMl : M ≤ 1048576 := by rw [hM.out]; omega
    have hql : q ≤ 9223372036854775807 := by rw [hq.out]; omega
    have hS' : Calls Try.prog 84 #[.slice ao n cap] w fun e w' => ∃ g c, e = .returned (.tuple #[.slice (some ⟨g, 0, none⟩) M c, .bool false]) ∧ w.heap.size ≤ g ∧ M ≤ c ∧ Row 5 w' g M f ∧ Below w.heap.size w w' := by rw [hM.out]; exact hS
    clear hS
    have hS := hS'
    clear hS' hM hq hs hr hgd
    go_enter Try.func66, Try.ntmps66
    go_wp2_with fail
    refine hS.mono ?_
    rintro e w1 ⟨g1, c1, rfl, hg1, hc1, hr1, hb1⟩
    have hv1 := hr1.view hc1 HY.out
    go_wp2_with fail
    refine (getU_spec' _ M c1 f 0 w1 hU hv1 (by omega) (by omega)).mono ?_
    rintro e _ ⟨rfl, rfl⟩
    go_wp2_with fail
    refine (getText_spec g1 0 M c1 f q w1 s r gd hT hv1 (by omega) (by omega)).mono ?_
    rintro e _ ⟨rfl, rfl⟩
    clear hv1 hr1
    go_wp2
    go_ret3
    rw [HG.out]
    exact pgTo_no hb1 rfl
  have h4 : 4 ≤ n := by
    have : 4 ≤ n ∧ last4 (n - 4) f = (crc (n - 4) f : Int) := by simpa [sumGood] using hg
    exact this.1
  obtain ⟨b, rfl⟩ := ha h4
  have hS := sumYes_spec b n cap f w hv hn hg
  unfold SumGives at hS
  obtain ⟨M, hM⟩ : ∃ M, Hid (n - 4 = M) := ⟨_, rfl⟩
  obtain ⟨k, q, is, hU⟩ : ∃ a r c, Hid (getU M f 0 = (a, r, c)) := ⟨_, _, _, rfl⟩
  obtain ⟨s, r, gd, hT⟩ : ∃ a r c, Hid (getText M f q = (a, r, c)) := ⟨_, _, _, rfl⟩
  have HP := getPg_sum (n := n) (f := f) (k := k) (q := q) (r := r) (s := s) (a := is) (b := gd) hg (by rw [hM.out]; exact hU.out) (by rw [hM.out]; exact hT.out)
  have HI : is = true → gd = true → (pageF k s = lof n f ↔ (r = (M : Int) ∧ (k = 1 ∨ k = 2) ∧ s.size ≤ 240)) := by
    rintro rfl rfl
    rw [← hM.out]
    exact page_iff hv.byte hg (by rw [hM.out]; exact hU.out) (by rw [hM.out]; exact hT.out)
  rw [hM.out] at hS HP
  have HY : Hid (∀ i, i < M → 0 ≤ f i ∧ f i ≤ 255) := fun i hi => hv.byte i (by rw [← hM.out] at hi; omega)
  have hMl : M ≤ 1048576 := by rw [← hM.out]; omega
  have hkb : -9223372036854775808 ≤ k ∧ k ≤ 9223372036854775807 := by
    cases is with
    | true => have := getU_bd HY.out hU.out; omega
    | false => have := getU_none13 hU.out; omega
  have hql : q ≤ 9223372036854775807 := by
    cases is with
    | true => have := getU_bd HY.out hU.out; omega
    | false => have := getU_none13 hU.out; omega
  have hsl : is = true → gd = true → s.size ≤ 1000000 ∧ 0 ≤ r ∧ r ≤ M := by
    rintro rfl rfl
    obtain ⟨hA, hr, -, -, h3⟩ := page_inner HY.out hU.out hT.out
    have := hA.le
    exact ⟨h3, by omega, by omega⟩
  clear hM
  cases is with
  | false =>
    have HG : Hid (getPg n f = (0, strOfNums [], false)) := by show _ = _; rw [HP, if_neg (by simp)]
    clear HP HI hsl
    go_enter Try.func66, Try.ntmps66
    go_wp2_with fail
    refine hS.mono ?_
    rintro e w1 ⟨g1, c1, rfl, hg1, hc1, hr1, hb1⟩
    have hv1 := hr1.view hc1 HY.out
    go_wp2_with fail
    refine (getU_spec' _ M c1 f 0 w1 hU hv1 (by omega) (by omega)).mono ?_
    rintro e _ ⟨rfl, rfl⟩
    go_wp2_with fail
    refine (getText_spec g1 0 M c1 f q w1 s r gd hT hv1 (by omega) (by omega)).mono ?_
    rintro e _ ⟨rfl, rfl⟩
    clear hv1 hr1
    go_wp2
    go_ret3
    rw [HG.out]
    exact pgTo_no hb1 rfl
  | true =>
  cases gd with
  | false =>
    have HG : Hid (getPg n f = (0, strOfNums [], false)) := by show _ = _; rw [HP, if_neg (by simp)]
    clear HP HI hsl
    go_enter Try.func66, Try.ntmps66
    go_wp2_with fail
    refine hS.mono ?_
    rintro e w1 ⟨g1, c1, rfl, hg1, hc1, hr1, hb1⟩
    have hv1 := hr1.view hc1 HY.out
    go_wp2_with fail
    refine (getU_spec' _ M c1 f 0 w1 hU hv1 (by omega) (by omega)).mono ?_
    rintro e _ ⟨rfl, rfl⟩
    go_wp2_with fail
    refine (getText_spec g1 0 M c1 f q w1 s r false hT hv1 (by omega) (by omega)).mono ?_
    rintro e _ ⟨rfl, rfl⟩
    clear hv1 hr1
    go_wp2
    go_ret3
    rw [HG.out]
    exact pgTo_no hb1 rfl
  | true =>
  obtain ⟨hs1, hr0, hr1'⟩ := hsl rfl rfl
  clear hsl
  clear HI
  by_cases hrm : r = (M : Int)
  case neg =>
    have HG : Hid (getPg n f = (0, strOfNums [], false)) := by show _ = _; rw [HP, if_neg (fun h => hrm h.2.2.1)]
    have hne : (r == (M : Int)) = false := beq_eq_false_iff_ne.2 hrm
    clear HP
    go_enter Try.func66, Try.ntmps66
    go_wp2_with fail
    refine hS.mono ?_
    rintro e w1 ⟨g1, c1, rfl, hg1, hc1, hr1, hb1⟩
    have hv1 := hr1.view hc1 HY.out
    go_wp2_with fail
    refine (getU_spec' _ M c1 f 0 w1 hU hv1 (by omega) (by omega)).mono ?_
    rintro e _ ⟨rfl, rfl⟩
    go_wp2_with fail
    refine (getText_spec g1 0 M c1 f q w1 s r true hT hv1 (by omega) (by omega)).mono ?_
    rintro e _ ⟨rfl, rfl⟩
    clear hv1 hr1
    go_wp2
    go_ret3
    rw [HG.out]
    exact pgTo_no hb1 rfl
  subst hrm
  have hne : ((M : Int) == (M : Int)) = true := beq_self_eq_true _
  by_cases hk : k = 1 ∨ k = 2
  case neg =>
    have HG : Hid (getPg n f = (0, strOfNums [], false)) := by show _ = _; rw [HP, if_neg (fun h => hk h.2.2.2.1)]
    have hV := fun W => l1In_no k 1 2 W (by omega)
    clear HP
    go_enter Try.func66, Try.ntmps66
    go_wp2_with fail
    refine hS.mono ?_
    rintro e w1 ⟨g1, c1, rfl, hg1, hc1, hr1, hb1⟩
    have hv1 := hr1.view hc1 HY.out
    go_wp2_with fail
    refine (getU_spec' _ M c1 f 0 w1 hU hv1 (by omega) (by omega)).mono ?_
    rintro e _ ⟨rfl, rfl⟩
    go_wp2_with fail
    refine (getText_spec g1 0 M c1 f q w1 s _ true hT hv1 (by omega) (by omega)).mono ?_
    rintro e _ ⟨rfl, rfl⟩
    clear hv1 hr1
    go_wp2_with fail
    refine (hV _).mono ?_
    rintro e _ ⟨rfl, rfl⟩
    go_wp2
    go_ret3
    rw [HG.out]
    exact pgTo_no hb1 rfl
  have hV := fun W => l1In_yes k 1 2 W (by omega) (by omega)
  by_cases hs2 : s.size ≤ 240
  case neg =>
    have HG : Hid (getPg n f = (0, strOfNums [], false)) := by show _ = _; rw [HP, if_neg (fun h => hs2 h.2.2.2.2)]
    have hz : (240 : Int) < s.size := by omega
    clear HP
    go_enter Try.func66, Try.ntmps66
    go_wp2_with fail
    refine hS.mono ?_
    rintro e w1 ⟨g1, c1, rfl, hg1, hc1, hr1, hb1⟩
    have hv1 := hr1.view hc1 HY.out
    go_wp2_with fail
    refine (getU_spec' _ M c1 f 0 w1 hU hv1 (by omega) (by omega)).mono ?_
    rintro e _ ⟨rfl, rfl⟩
    go_wp2_with fail
    refine (getText_spec g1 0 M c1 f q w1 s _ true hT hv1 (by omega) (by omega)).mono ?_
    rintro e _ ⟨rfl, rfl⟩
    clear hv1 hr1
    go_wp2_with fail
    refine (hV _).mono ?_
    rintro e _ ⟨rfl, rfl⟩
    go_wp2
    go_ret3
    rw [HG.out]
    exact pgTo_no hb1 rfl
  have HG : Hid (getPg n f = (k, s, true)) := by show _ = _; rw [HP, if_pos ⟨rfl, rfl, rfl, hk, hs2⟩]
  have hz : ¬ (240 : Int) < s.size := by omega
  have kc := fun w => run_bytes_of_string (P := Try.prog) w 9 63 5 s Try.underlying9 Try.underlying63 Try.underlying5
  clear HP
  go_enter Try.func66, Try.ntmps66
  go_wp2_with fail
  refine hS.mono ?_
  rintro e w1 ⟨g1, c1, rfl, hg1, hc1, hr1, hb1⟩
  have hv1 := hr1.view hc1 HY.out
  go_wp2_with fail
  refine (getU_spec' _ M c1 f 0 w1 hU hv1 (by omega) (by omega)).mono ?_
  rintro e _ ⟨rfl, rfl⟩
  go_wp2_with fail
  refine (getText_spec g1 0 M c1 f q w1 s _ true hT hv1 (by omega) (by omega)).mono ?_
  rintro e _ ⟨rfl, rfl⟩
  clear hv1 hr1
  go_wp2_with fail
  refine (hV _).mono ?_
  rintro e _ ⟨rfl, rfl⟩
  clear hV
  go_wp2
  go_ret3
  rw [HG.out]
  exact ⟨_, _, rfl, hb1.size, grownCap_ge _ _ _ _, (text_row w1 s _).of_block rfl, hb1.drew.alloc hb1.size _⟩

set_option maxHeartbeats 4000000 in
theorem getPage_impl (ao : Option Addr) (n cap : Nat) (f : Nat → Int) (w : World) (ha : 4 ≤ n → ∃ b, ao = some ⟨b, 0, none⟩) (hv : View w ao n cap f) (hn : n ≤ 1048576) :
    Calls Try.prog 88 #[.slice ao n cap] w (PgTo w (getPg n f)) := by
  by_cases hg : sumGood n f = true
  case neg =>
    have hg' : sumGood n f = false := by simpa using hg
    have HG : Hid (getPg n f = (0, strOfNums [], false)) := getPg_bad hg'
    have hS := sumBad_impl ao n cap f w ha hv hn hg'
    unfold SumGives at hS
    obtain ⟨M, hM⟩ : ∃ M, Hid (M = 0) := ⟨0, rfl⟩
    obtain ⟨q, hq⟩ : ∃ q : Int, Hid (q = 0) := ⟨0, rfl⟩
    obtain ⟨s, hs⟩ : ∃ s, Hid (s = strOfNums []) := ⟨_, rfl⟩
    obtain ⟨r, hr⟩ : ∃ r : Int, Hid (r = 0) := ⟨0, rfl⟩
    obtain ⟨gd, hgd⟩ : ∃ gd, Hid (gd = false) := ⟨_, rfl⟩
    have hU : Hid (getU M f 0 = (0, q, false)) := by show _ = _; rw [hM.out, hq.out]; exact getU_zero f
    have hT : Hid (getText M f q = (s, r, gd)) := by show _ = _; rw [hM.out, hq.out, hs.out, hr.out, hgd.out]; exact getText_zero f
    have HY : Hid (∀ i, i < M → 0 ≤ f i ∧ f i ≤ 255) := fun i hi => by rw [hM.out] at hi; omega
    have hMl : M ≤ 1048576 := by rw [hM.out]; omega
    have hql : q ≤ 9223372036854775807 := by rw [hq.out]; omega
    have hS' : Calls Try.prog 104 #[.slice ao n cap] w fun e w' => ∃ g c, e = .returned (.tuple #[.slice (some ⟨g, 0, none⟩) M c, .bool false]) ∧ w.heap.size ≤ g ∧ M ≤ c ∧ Row 5 w' g M f ∧ Below w.heap.size w w' := by rw [hM.out]; exact hS
    clear hS
    have hS := hS'
    clear hS' hM hq hs hr hgd
    go_enter Try.func88, Try.ntmps88
    go_wp2_with fail
    refine hS.mono ?_
    rintro e w1 ⟨g1, c1, rfl, hg1, hc1, hr1, hb1⟩
    have hv1 := hr1.view hc1 HY.out
    go_wp2_with fail
    refine (getU_impl' _ M c1 f 0 w1 hU hv1 (by omega) (by omega)).mono ?_
    rintro e _ ⟨rfl, rfl⟩
    go_wp2_with fail
    refine (getText_impl g1 0 M c1 f q w1 s r gd hT hv1 (by omega) (by omega)).mono ?_
    rintro e _ ⟨rfl, rfl⟩
    clear hv1 hr1
    go_wp2
    go_ret3
    rw [HG.out]
    exact pgTo_no hb1 rfl
  have h4 : 4 ≤ n := by
    have : 4 ≤ n ∧ last4 (n - 4) f = (crc (n - 4) f : Int) := by simpa [sumGood] using hg
    exact this.1
  obtain ⟨b, rfl⟩ := ha h4
  have hS := sumYes_impl b n cap f w hv hn hg
  unfold SumGives at hS
  obtain ⟨M, hM⟩ : ∃ M, Hid (n - 4 = M) := ⟨_, rfl⟩
  obtain ⟨k, q, is, hU⟩ : ∃ a r c, Hid (getU M f 0 = (a, r, c)) := ⟨_, _, _, rfl⟩
  obtain ⟨s, r, gd, hT⟩ : ∃ a r c, Hid (getText M f q = (a, r, c)) := ⟨_, _, _, rfl⟩
  have HP := getPg_sum (n := n) (f := f) (k := k) (q := q) (r := r) (s := s) (a := is) (b := gd) hg (by rw [hM.out]; exact hU.out) (by rw [hM.out]; exact hT.out)
  have HI : is = true → gd = true → (pageF k s = lof n f ↔ (r = (M : Int) ∧ (k = 1 ∨ k = 2) ∧ s.size ≤ 240)) := by
    rintro rfl rfl
    rw [← hM.out]
    exact page_iff hv.byte hg (by rw [hM.out]; exact hU.out) (by rw [hM.out]; exact hT.out)
  rw [hM.out] at hS HP
  have HY : Hid (∀ i, i < M → 0 ≤ f i ∧ f i ≤ 255) := fun i hi => hv.byte i (by rw [← hM.out] at hi; omega)
  have hMl : M ≤ 1048576 := by rw [← hM.out]; omega
  have hkb : -9223372036854775808 ≤ k ∧ k ≤ 9223372036854775807 := by
    cases is with
    | true => have := getU_bd HY.out hU.out; omega
    | false => have := getU_none13 hU.out; omega
  have hql : q ≤ 9223372036854775807 := by
    cases is with
    | true => have := getU_bd HY.out hU.out; omega
    | false => have := getU_none13 hU.out; omega
  have hsl : is = true → gd = true → s.size ≤ 1000000 ∧ 0 ≤ r ∧ r ≤ M := by
    rintro rfl rfl
    obtain ⟨hA, hr, -, -, h3⟩ := page_inner HY.out hU.out hT.out
    have := hA.le
    exact ⟨h3, by omega, by omega⟩
  clear hM
  cases is with
  | false =>
    have HG : Hid (getPg n f = (0, strOfNums [], false)) := by show _ = _; rw [HP, if_neg (by simp)]
    clear HP HI hsl
    go_enter Try.func88, Try.ntmps88
    go_wp2_with fail
    refine hS.mono ?_
    rintro e w1 ⟨g1, c1, rfl, hg1, hc1, hr1, hb1⟩
    have hv1 := hr1.view hc1 HY.out
    go_wp2_with fail
    refine (getU_impl' _ M c1 f 0 w1 hU hv1 (by omega) (by omega)).mono ?_
    rintro e _ ⟨rfl, rfl⟩
    go_wp2_with fail
    refine (getText_impl g1 0 M c1 f q w1 s r gd hT hv1 (by omega) (by omega)).mono ?_
    rintro e _ ⟨rfl, rfl⟩
    clear hv1 hr1
    go_wp2
    go_ret3
    rw [HG.out]
    exact pgTo_no hb1 rfl
  | true =>
  cases gd with
  | false =>
    have HG : Hid (getPg n f = (0, strOfNums [], false)) := by show _ = _; rw [HP, if_neg (by simp)]
    clear HP HI hsl
    go_enter Try.func88, Try.ntmps88
    go_wp2_with fail
    refine hS.mono ?_
    rintro e w1 ⟨g1, c1, rfl, hg1, hc1, hr1, hb1⟩
    have hv1 := hr1.view hc1 HY.out
    go_wp2_with fail
    refine (getU_impl' _ M c1 f 0 w1 hU hv1 (by omega) (by omega)).mono ?_
    rintro e _ ⟨rfl, rfl⟩
    go_wp2_with fail
    refine (getText_impl g1 0 M c1 f q w1 s r false hT hv1 (by omega) (by omega)).mono ?_
    rintro e _ ⟨rfl, rfl⟩
    clear hv1 hr1
    go_wp2
    go_ret3
    rw [HG.out]
    exact pgTo_no hb1 rfl
  | true =>
  obtain ⟨hs1, hr0, hr1'⟩ := hsl rfl rfl
  clear hsl
  have HI1 : Hid (pageF k s = lof n f ↔ (r = (M : Int) ∧ (k = 1 ∨ k = 2) ∧ s.size ≤ 240)) := HI rfl rfl
  clear HI
  have HP1 := HP
  clear HP
  have HP : Hid (getPg n f = _) := HP1
  clear HP1
  have kc := fun w => run_bytes_of_string (P := Try.prog) w 9 63 5 s Try.underlying9 Try.underlying63 Try.underlying5
  have HE : Hid (((strOfNums (lof (pageF k s).length (fun i => (pageF k s).getD i 0))).toList == (strOfNums (lof n f)).toList) = decide (pageF k s = lof n f)) := by
    show _ = _
    rw [lof_self, Bool.eq_iff_iff, beq_iff_eq, decide_eq_true_eq]
    constructor
    · intro h
      refine strOfNums_inj (pageF_byte k s) (lof_byteS hv.byte) ?_
      rw [ByteArray.toList_eq, ByteArray.toList_eq] at h
      exact ByteArray.ext (Array.ext' h)
    · intro h; rw [h]
  have HPP : ∀ (g cp : Nat) (W : World), s.size ≤ cp → RowZ 5 W g s.size (fun i => (sl s).getD i 0) → Calls Try.prog 79 #[.int .i64 k, .slice (some ⟨g, 0, none⟩) s.size cp] W (PageTo W (pageF k s)) := by
    intro g cp W hc hz
    have el : lof s.size (fun i => (sl s).getD i 0) = sl s := by
      have := lof_self (sl s)
      rw [sl_len] at this
      exact this
    have := putPage_impl g 0 s.size cp (fun i => (sl s).getD i 0) k W (hz.view hc (by have := bytes_of_list (sl_byte s); rw [sl_len] at this; exact this)) (by omega) hkb.1 hkb.2
    rw [el, strOfNums_sl] at this
    exact this
  have HV : Hid (View w (some ⟨b, 0, none⟩) n cap f) := hv
  have hpb := pageF_byte k s
  obtain ⟨L, hL⟩ : ∃ L, Hid (pageF k s = L) := ⟨_, rfl⟩
  rw [hL.out] at HI1 HE HPP hpb
  have HPB : Hid (∀ y ∈ L, 0 ≤ y ∧ y ≤ 255) := hpb
  clear hpb hv
  go_enter Try.func88, Try.ntmps88
  go_wp2_with fail
  refine hS.mono ?_
  rintro e w1 ⟨g1, c1, rfl, hg1, hc1, hr1, hb1⟩
  have hv1 := hr1.view hc1 HY.out
  go_wp2_with fail
  refine (getU_impl' _ M c1 f 0 w1 hU hv1 (by omega) (by omega)).mono ?_
  rintro e _ ⟨rfl, rfl⟩
  go_wp2_with fail
  refine (getText_impl g1 0 M c1 f q w1 s r true hT hv1 (by omega) (by omega)).mono ?_
  rintro e _ ⟨rfl, rfl⟩
  clear hv1 hr1
  go_wp2_with fail
  obtain ⟨cp, hcp⟩ : ∃ cp, cp = grownCap w1 s.size 0 5 := ⟨_, rfl⟩
  have hge : s.size ≤ cp := by rw [hcp]; exact grownCap_ge _ _ _ _
  rw [← hcp]
  clear hcp
  have hb2 : Below w.heap.size w (w1.alloc (.cells (bytesRow s cp) 5 ((bytesRow s cp).size, (bytesRow s cp).size + 1))).drew := (hb1.alloc hb1.size _).drew
  have hz2 : RowZ 5 (w1.alloc (.cells (bytesRow s cp) 5 ((bytesRow s cp).size, (bytesRow s cp).size + 1))).drew w1.heap.size s.size (fun i => (sl s).getD i 0) := (text_row w1 s cp).of_block rfl
  refine (HPP w1.heap.size cp _ hge hz2).mono ?_
  rintro e w3 ⟨g3, c3, rfl, hg3, hc3, hr3, hb3⟩
  replace hb3 := hb2.trans (hb3.mono hb2.size)
  clear hb2 hz2 HPP
  go_wp2_with fail
  refine (equal_any g3 0 L.length c3 _ b 0 n cap f w3 (hr3.view hc3 (bytes_of_list HPB.out)) (HV.out.below hb3)).mono ?_
  rintro e _ ⟨he, rfl⟩
  rw [HE.out] at he
  subst he
  clear HE hr3 HPB
  by_cases hq : L = lof n f
  · have HG : Hid (getPg n f = (k, s, true)) := by show _ = _; rw [HP.out, if_pos ⟨trivial, trivial, HI1.out.1 hq⟩]
    have hd : decide (L = lof n f) = true := by simpa using hq
    rw [hd]
    clear HP HI1 hq hd
    go_wp2
    go_ret3
    rw [HG.out]
    exact ⟨_, _, rfl, hb3.size, grownCap_ge _ _ _ _, (text_row w3 s _).of_block rfl, hb3.drew.alloc hb3.size _⟩
  · have HG : Hid (getPg n f = (0, strOfNums [], false)) := by show _ = _; rw [HP.out, if_neg (fun h => hq (HI1.out.2 h.2.2))]
    have hd : decide (L = lof n f) = false := by simpa using hq
    rw [hd]
    clear HP HI1 hq hd kc
    go_wp2
    go_ret3
    rw [HG.out]
    exact pgTo_no hb3 rfl
end Go.Proofs.Ytdjaiappaghfnaa

/-
  Two cells that are laid into a variable.
-/
namespace Go.Proofs.Ytdjaiappaghfnaa
open Go.RowKit
set_option maxRecDepth 4000

theorem scT_other (W : World) (B i j : Nat) (v : Value) (h : i ≠ j) : (W.setCell ⟨B, i, none⟩ v).cell? ⟨B, j, none⟩ = W.cell? ⟨B, j, none⟩ :=
  World.cell?_setCell_other W _ _ v (by intro e; exact h (congrArg Addr.off e))
theorem scT_same {W : World} {B i : Nat} {v u : Value} (h : W.cell? ⟨B, i, none⟩ = some u) : (W.setCell ⟨B, i, none⟩ v).cell? ⟨B, i, none⟩ = some v := World.cell?_setCell_same W _ v h
/-- A token that is put into the result's variable. -/
theorem stored2 {W : World} {B : Nat} {x0 x1 : Value} (a b : Value) (c0 : W.cell? ⟨B, 0, none⟩ = some x0) (c1 : W.cell? ⟨B, 1, none⟩ = some x1) :
    ((W.setCell ⟨B, 0, none⟩ a).setCell ⟨B, 1, none⟩ b).cell? ⟨B, 0, none⟩ = some a ∧ ((W.setCell ⟨B, 0, none⟩ a).setCell ⟨B, 1, none⟩ b).cell? ⟨B, 1, none⟩ = some b := by
  refine ⟨?_, ?_⟩
  · rw [scT_other _ _ 1 0 _ (by decide), scT_same c0]
  · rw [scT_same (u := x1) (by rw [scT_other _ _ 0 1 _ (by decide)]; exact c1)]
theorem stored2A {W : World} {B : Nat} {x0 x1 : Value} (a b : Value) (c0 : W.cell? ⟨B, 0, none⟩ = some x0) (c1 : W.cell? ⟨B, 1, none⟩ = some x1) (h : B < W.heap.size) (o : Obj) :
    (((W.setCell ⟨B, 0, none⟩ a).setCell ⟨B, 1, none⟩ b).alloc o).cell? ⟨B, 0, none⟩ = some a ∧ (((W.setCell ⟨B, 0, none⟩ a).setCell ⟨B, 1, none⟩ b).alloc o).cell? ⟨B, 1, none⟩ = some b := by
  have hg := stored2 a b c0 c1
  refine ⟨?_, ?_⟩
  · rw [World.cell?_alloc_lt _ _ _ (by simpa using h)]; exact hg.1
  · rw [World.cell?_alloc_lt _ _ _ (by simpa using h)]; exact hg.2
end Go.Proofs.Ytdjaiappaghfnaa

