/-
  Together: PutTextImpl, RowPutImpl, RowEncImpl, LongImpl, LongSpec, Big
-/
import Derived.Test.YtkakkjnbhklfpaaGreatDoorPackR24
import Derived.Test.YtkakkjnbhklfpaaGreatDoorPackR1
import Derived.Laws.IdiomStrings
import Derived.Test.YtkakkjnbhklfpaaGreatDoorPackR15
import Derived.Test.YtkakkjnbhklfpaaGreatDoorPackR2
import Derived.Test.YtkakkjnbhklfpaaGreatDoorPackR12
import Derived.Deep.LoopGhost
import Derived.Test.YtkakkjnbhklfpaaGreatDoorPackR23
/-
  The program's PutText: what was there, the number of the text's bytes, and these, in memory of its own.
-/
namespace Go.Proofs.YtkakkjnbhklfpaaGreatDoor
open Go.RowKit
set_option maxRecDepth 4000

/-- What '[]byte(s)' lays reads as the text's bytes. -/
theorem text_view (w : World) (s : ByteArray) (cap : Nat) (m : Nat × Nat) (hc : s.size ≤ cap) : View (w.alloc (.cells (bytesRow s cap) 5 m)) (some ⟨w.heap.size, 0, none⟩) s.size cap (fun i => (sl s).getD i 0) := by
  refine ⟨hc, fun i hi => ?_, fun _ => ⟨w.heap.size, 0, rfl, by simp, fun i hi => ?_⟩⟩
  · have hi' : i < (sl s).length := by rw [sl_len]; exact hi
    have := sl_byte s _ (List.getElem_mem hi')
    simpa [hi'] using this
  · have hi' : i < (sl s).length := by rw [sl_len]; exact hi
    have hd : i < s.data.size := hi
    have e1 : (bytesRow s cap)[i]? = some (.int .u8 ((sl s).getD i 0)) := by
      unfold bytesRow
      rw [Array.getElem?_append_left (by simpa using hd)]
      simp [sl]
      exact ⟨s.data[i], Array.getElem?_eq_getElem hd, by rw [Array.getElem?_eq_getElem hd]; rfl⟩
    rw [Nat.zero_add, World.cell?]
    rw [show (w.alloc (.cells (bytesRow s cap) 5 m)).heap[w.heap.size]? = some (.cells (bytesRow s cap) 5 m) from Deep.blk_alloc_new _ _]
    simp [e1]

set_option maxHeartbeats 1000000 in
theorem putText_impl (b off n cap : Nat) (f : Nat → Int) (s : ByteArray) (w : World) (hv : View w (some ⟨b, off, none⟩) n cap f) (hn : n ≤ 17592186044416) (hs : s.size ≤ 17592186044416) :
    Calls Tryz.prog 146 #[.slice (some ⟨b, off, none⟩) n cap, .string s] w fun e w' => ∃ g c, e = .returned (.slice (some ⟨g, 0, none⟩) (n + (groups (clampN s.size)).length + s.size) c) ∧ w.heap.size ≤ g ∧ n + (groups (clampN s.size)).length + s.size ≤ c ∧ Row 5 w' g (n + (groups (clampN s.size)).length + s.size) (fun i => (textL n f s).getD i 0) ∧ Below w.heap.size w w' := by
  have hgl := (groups_len (clampN s.size)).2
  have hgb : Hid (∀ y ∈ groups (clampN s.size), 0 ≤ y ∧ y ≤ 255) := groups_byte _ (clampN_bd _).1 (clampN_bd _).2
  obtain ⟨gs, hgs⟩ : ∃ gs, Hid (groups (clampN s.size) = gs) := ⟨_, rfl⟩
  rw [hgs.out] at hgl hgb
  have kc := fun w => run_bytes_of_string (P := Tryz.prog) w 9 22 5 s Tryz.underlying9 Tryz.underlying22 Tryz.underlying5
  go_enter Tryz.func146, Tryz.ntmps146
  go_wp2_with fail
  have hb1 : Below w.heap.size w (w.alloc (.cells #[.int .i64 (s.size : Int)] 3)) := (Below.refl _ _).alloc (Nat.le_refl _) _
  refine (putNums_one b off n cap f (s.size : Int) w.heap.size _ (hv.below hb1) (by omega) (by omega) (by omega) (by simp)).mono ?_
  rintro e w2 ⟨g, c, rfl, hg, hgc, hrow, hb2⟩
  rw [hgs.out] at hrow hgc ⊢
  replace hb2 := hb1.trans (hb2.mono (by simp))
  go_wp2_with fail
  obtain ⟨cp, hcp⟩ : ∃ cp, cp = grownCap w2 s.size 0 5 := ⟨_, rfl⟩
  have hge : s.size ≤ cp := by rw [hcp]; exact grownCap_ge _ _ _ _
  rw [← hcp]
  clear hcp kc
  have hb3 : Below w2.heap.size w2 (w2.alloc (.cells (bytesRow s cp) 5 ((bytesRow s cp).size, (bytesRow s cp).size + 1))).drew := ((Below.refl _ _).alloc (Nat.le_refl _) _).drew
  have hvt : View (w2.alloc (.cells (bytesRow s cp) 5 ((bytesRow s cp).size, (bytesRow s cp).size + 1))).drew (some ⟨w2.heap.size, 0, none⟩) s.size cp (fun i => (sl s).getD i 0) := (text_view w2 s cp _ hge).below (Below.refl _ _).drew
  refine (putBytes_any g 0 (n + gs.length) c _ (some ⟨w2.heap.size, 0, none⟩) s.size cp (fun i => (sl s).getD i 0) _ ((hrow.belowAll hb3).view hgc (put_byte n f gs hv.byte hgb.out)) hvt (by intro h; cases h) (by omega)).mono ?_
  rintro e w3 ⟨rfl, hown, hb4⟩
  have el1 : lof (n + gs.length) (fun i => (lof n f ++ gs).getD i 0) = lof n f ++ gs := by
    have := lof_self (lof n f ++ gs)
    rw [List.length_append, lof_len] at this
    exact this
  have el2 : lof s.size (fun i => (sl s).getD i 0) = sl s := by
    have := lof_self (sl s)
    rw [sl_len] at this
    exact this
  rw [el1, el2] at hown
  have hr := row_of_owned hown
  have hgr : w.heap.size ≤ (w2.alloc (.cells (bytesRow s cp) 5 ((bytesRow s cp).size, (bytesRow s cp).size + 1))).drew.heap.size := Nat.le_trans hb2.size hb3.size
  have hbb := hb2.trans ((hb3.mono hb2.size).trans (hb4.mono hgr))
  clear hown hb4 hb3 hvt el1 el2 hrow
  generalize (w2.alloc (.cells (bytesRow s cp) 5 ((bytesRow s cp).size, (bytesRow s cp).size + 1))).drew.heap.size = G at *
  go_wp2
  go_ret
  unfold textL
  rw [hgs.out]
  exact ⟨G, _, rfl, hgr, Nat.le_refl _, hr, hbb⟩
end Go.Proofs.YtkakkjnbhklfpaaGreatDoor

/-
  The program's putRowVal: a value's bytes behind what was there.
-/
namespace Go.Proofs.YtkakkjnbhklfpaaGreatDoor
open Go.RowKit
set_option maxRecDepth 4000

theorem putU_encI (w W : World) (g cg : Nat) (L : List Int) (x : Int) (h : EncTo w W g cg L) (hb : ∀ y ∈ L, 0 ≤ y ∧ y ≤ 255) (hn : L.length ≤ 10000000) (hx0 : -9223372036854775808 ≤ x) (hx1 : x ≤ 9223372036854775807) :
    Calls Tryz.prog 110 #[.slice (some ⟨g, 0, none⟩) L.length cg, .int .i64 x] W (EncMore w W (L ++ groups (clampN x))) := by
  refine (putU_opt (some ⟨g, 0, none⟩) L.length cg _ x W (h.byte hb) (by intro h; cases h) (by omega) hx0 hx1).mono ?_
  rintro e w' ⟨g', c', rfl, hg', hc', hr, hB⟩
  rw [lof_self] at hr
  rw [← List.length_append] at hc' hr ⊢
  exact ⟨g', c', rfl, ⟨hr, Nat.le_trans h.below.size hg', hc', h.below.trans (hB.mono h.below.size)⟩, hB⟩
theorem putU_encNil (w W : World) (x : Int) (h : Below w.heap.size w W) (hx0 : -9223372036854775808 ≤ x) (hx1 : x ≤ 9223372036854775807) :
    Calls Tryz.prog 110 #[.slice none 0 0, .int .i64 x] W (EncMore w W (groups (clampN x))) := by
  refine (putU_opt none 0 0 (fun _ => 0) x W ⟨Nat.le_refl _, fun _ hi => absurd hi (Nat.not_lt_zero _), fun h => absurd h (Nat.lt_irrefl _)⟩ (fun _ => ⟨rfl, rfl⟩) (by omega) hx0 hx1).mono ?_
  rintro e w' ⟨g', c', rfl, hg', hc', hr, hB⟩
  have e1 : lof 0 (fun _ => 0) ++ groups (clampN x) = groups (clampN x) := rfl
  rw [e1] at hr
  rw [Nat.zero_add] at hc' hr ⊢
  exact ⟨g', c', rfl, ⟨hr, Nat.le_trans h.size hg', hc', h.trans (hB.mono h.size)⟩, hB⟩
theorem putVar_encI (w W : World) (g cg : Nat) (L : List Int) (x : Int) (h : EncTo w W g cg L) (hb : ∀ y ∈ L, 0 ≤ y ∧ y ≤ 255) (hn : L.length ≤ 10000000) (hx0 : -9223372036854775808 ≤ x) (hx1 : x ≤ 9223372036854775807) :
    Calls Tryz.prog 145 #[.slice (some ⟨g, 0, none⟩) L.length cg, .int .i64 x] W (EncMore w W (L ++ varL x)) := by
  refine (putVar_impl g 0 L.length cg _ x W (h.byte hb) (by omega) hx0 hx1).mono ?_
  rintro e w' ⟨g', c', rfl, hg', hc', hr, hB⟩
  rw [lof_self] at hr
  rw [← List.length_append] at hc' hr ⊢
  exact ⟨g', c', rfl, ⟨hr, Nat.le_trans h.below.size hg', hc', h.below.trans (hB.mono h.below.size)⟩, hB⟩
theorem putText_encI (w W : World) (g cg : Nat) (L : List Int) (s : ByteArray) (h : EncTo w W g cg L) (hb : ∀ y ∈ L, 0 ≤ y ∧ y ≤ 255) (hn : L.length ≤ 10000000) (hs : s.size ≤ 10000000) :
    Calls Tryz.prog 146 #[.slice (some ⟨g, 0, none⟩) L.length cg, .string s] W (EncMore w W (L ++ (groups (clampN s.size) ++ sl s))) := by
  refine (putText_impl g 0 L.length cg _ s W (h.byte hb) (by omega) (by omega)).mono ?_
  rintro e w' ⟨g', c', rfl, hg', hc', hr, hB⟩
  have e1 : textL L.length (fun i => L.getD i 0) s = L ++ (groups (clampN s.size) ++ sl s) := by unfold textL; rw [lof_self, List.append_assoc]
  have e2 : L.length + (groups (clampN s.size)).length + s.size = (L ++ (groups (clampN s.size) ++ sl s)).length := by rw [List.length_append, List.length_append, sl_len]; omega
  rw [e1, e2] at hr
  rw [e2] at hc' ⊢
  exact ⟨g', c', rfl, ⟨hr, Nat.le_trans h.below.size hg', hc', h.below.trans (hB.mono h.below.size)⟩, hB⟩
theorem putSum_encI (w W : World) (g cg : Nat) (L : List Int) (h : EncTo w W g cg L) (hb : ∀ y ∈ L, 0 ≤ y ∧ y ≤ 255) (hn : L.length ≤ 10000000) :
    Calls Tryz.prog 112 #[.slice (some ⟨g, 0, none⟩) L.length cg] W fun e w' => ∃ g c, e = .returned (.slice (some ⟨g, 0, none⟩) (sumB L).length c) ∧ EncTo w w' g c (sumB L) := by
  refine (putSum_impl g 0 L.length cg _ W (h.byte hb) (by omega)).mono ?_
  rintro e w' ⟨g', c', rfl, hg', hc', hr, hB⟩
  have e2 : L.length + 4 = (sumB L).length := by unfold sumB; rw [List.length_append]; rfl
  rw [lof_self] at hr
  have e1 : L ++ sumL (crc L.length (fun i => L.getD i 0)) = sumB L := rfl
  rw [e1, e2] at hr
  rw [e2] at hc' ⊢
  exact ⟨g', c', rfl, ⟨hr, Nat.le_trans h.below.size hg', hc', h.below.trans (hB.mono h.below.size)⟩⟩
theorem putByte_encI (w W : World) (g cg : Nat) (L : List Int) (b2 : Nat) (x : Int) (h : EncTo w W g cg L) (hb : ∀ y ∈ L, 0 ≤ y ∧ y ≤ 255) (hn : L.length ≤ 10000000) (hx : 0 ≤ x ∧ x ≤ 255) (hc : Row 5 W b2 1 (fun i => [x].getD i 0)) :
    Calls Tryz.prog 37 #[.slice (some ⟨g, 0, none⟩) L.length cg, .slice (some ⟨b2, 0, none⟩) 1 1] W (EncMore w W (L ++ [x])) := by
  refine (putBytes_any g 0 L.length cg _ (some ⟨b2, 0, none⟩) 1 1 (fun i => [x].getD i 0) W (h.byte hb) (hc.view (Nat.le_refl _) (fun i hi => by obtain rfl : i = 0 := (by omega); exact hx)) (by intro h; cases h) (by omega)).mono ?_
  rintro e w' ⟨rfl, hO, hB⟩
  have hr := row_of_owned hO
  rw [lof_self] at hr
  have e1 : lof 1 (fun i => [x].getD i 0) = [x] := rfl
  rw [e1] at hr
  have e2 : L.length + 1 = (L ++ [x]).length := by rw [List.length_append]; rfl
  rw [e2] at hr ⊢
  exact ⟨_, _, rfl, ⟨hr, h.below.size, Nat.le_refl _, h.below.trans (hB.mono h.below.size)⟩, hB⟩

set_option linter.unusedSimpArgs false in
set_option maxHeartbeats 2000000 in
theorem putRowVal_any (w W : World) (g cg : Nat) (L : List Int) (q0 q1 : Int) (q2 : ByteArray) (hE : EncTo w W g cg L) (hby : ∀ y ∈ L, 0 ≤ y ∧ y ≤ 255) (hln : L.length ≤ 1000) (hok : okF q0 q1 q2 = true) :
    Calls Tryz.prog 111 #[.slice (some ⟨g, 0, none⟩) L.length cg, .agg #[.int .i64 q0, .int .i64 q1, .string q2]] W (EncMore w W (L ++ valB q0 q1 q2)) := by
  have hkin := okF_kinds hok
  clear hok
  have hs2 : q2.size ≤ 30 := by rcases hkin with ⟨_, _, e⟩ | ⟨_, _, e⟩ | ⟨_, _, e⟩ | ⟨_, _, e⟩ | ⟨_, _, e⟩ <;> first | exact e | (rw [e]; decide)
  have hq0b : 0 ≤ q0 ∧ q0 ≤ 4 := by omega
  have hV := Box.new W q0 q1 q2
  have hbw : Below W.heap.size W (W.alloc (.cells #[.int .i64 q0, .int .i64 q1, .string q2] 58)) := (Below.refl _ _).alloc (Nat.le_refl _) _
  have hE2 : EncTo w (W.alloc (.cells #[.int .i64 q0, .int .i64 q1, .string q2] 58)) g cg L := ⟨hE.row.belowAll hbw, hE.new, hE.le, hE.below.trans (hbw.mono hE.below.size)⟩
  have hC := putU_encI w _ g cg L q0 hE2 hby (by omega) (by omega) (by omega)
  have hby1 : Hid (∀ y ∈ L ++ groups (clampN q0), 0 ≤ y ∧ y ≤ 255) := fun y hy => by
    rcases List.mem_append.1 hy with hy | hy
    · exact hby y hy
    · exact groups_byte _ (clampN_bd _).1 (clampN_bd _).2 y hy
  have hln1 : (L ++ groups (clampN q0)).length ≤ 1003 := by rw [List.length_append]; have := (groups_len (clampN q0)).2; omega
  have HVB : Hid (L ++ valB q0 q1 q2 = (L ++ groups (clampN q0)) ++ bodyB q0 q1 q2) := by show _ = _; unfold valB; rw [List.append_assoc]
  obtain ⟨L1, hL1⟩ : ∃ L1, Hid (L ++ groups (clampN q0) = L1) := ⟨_, rfl⟩
  rw [hL1.out] at hC hby1 hln1 HVB
  obtain ⟨L2, hL2⟩ : ∃ L2, Hid (L ++ valB q0 q1 q2 = L2) := ⟨_, rfl⟩
  rw [hL2.out] at HVB ⊢
  obtain ⟨W1, hW1⟩ : ∃ W1, Hid (W.alloc (.cells #[.int .i64 q0, .int .i64 q1, .string q2] 58) = W1) := ⟨_, rfl⟩
  rw [hW1.out] at hV hbw hC
  clear hE2 hE hby
  obtain ⟨x0, x1, x2⟩ := hV.cells
  go_enter Tryz.func111, Tryz.ntmps111
  go_wp2_with (rw [hW1.out])
  refine hC.mono ?_
  rintro e w4 ⟨g4, c4, rfl, hE4, hB4⟩
  clear hC x0 x1 x2
  have hV4 := hV.below hB4
  have hBW := hbw.trans (hB4.mono hbw.size)
  obtain ⟨z0, z1, z2⟩ := hV4.cells
  clear hB4 hbw hV
  rcases hkin with ⟨rfl, rfl, rfl⟩ | ⟨rfl, hr, rfl⟩ | ⟨rfl, hr, rfl⟩ | ⟨rfl, rfl, -⟩ | ⟨rfl, hr, rfl⟩
  · have e : L2 = L1 := by rw [HVB.out]; simp [bodyB]
    have HN : Hid (EncMore w W L2 (.returned (.slice (some ⟨g4, 0, none⟩) L1.length c4)) w4) := by rw [e]; exact ⟨g4, c4, rfl, hE4, hBW⟩
    clear hE4 hBW hV4 e
    go_wp2
    go_ret
    exact HN.out
  · have hC5 := putVar_encI w w4 g4 c4 L1 q1 hE4 hby1.out (by omega) (by omega) (by omega)
    have e5 : L1 ++ varL q1 = L2 := by rw [HVB.out]; simp [bodyB]
    rw [e5] at hC5
    clear hE4 e5 HVB hby1
    go_wp2_with fail
    refine hC5.mono ?_
    rintro e w5 ⟨g5, c5, rfl, hE5, hB5⟩
    have HN : Hid (EncMore w W L2 (.returned (.slice (some ⟨g5, 0, none⟩) L2.length c5)) w5) := ⟨g5, c5, rfl, hE5, hBW.trans (hB5.mono hBW.size)⟩
    clear hE5 hB5 hC5 hBW hV4 z0 z1 z2
    go_wp2
    go_ret
    exact HN.out
  · have hC5 := putVar_encI w w4 g4 c4 L1 q1 hE4 hby1.out (by omega) (by omega) (by omega)
    have e5 : L1 ++ varL q1 = L2 := by rw [HVB.out]; simp [bodyB]
    rw [e5] at hC5
    clear hE4 e5 HVB hby1
    go_wp2_with fail
    refine hC5.mono ?_
    rintro e w5 ⟨g5, c5, rfl, hE5, hB5⟩
    have HN : Hid (EncMore w W L2 (.returned (.slice (some ⟨g5, 0, none⟩) L2.length c5)) w5) := ⟨g5, c5, rfl, hE5, hBW.trans (hB5.mono hBW.size)⟩
    clear hE5 hB5 hC5 hBW hV4 z0 z1 z2
    go_wp2
    go_ret
    exact HN.out
  · have hC5 := putText_encI w w4 g4 c4 L1 q2 hE4 hby1.out (by omega) (by omega)
    have e5 : L1 ++ (groups (clampN q2.size) ++ sl q2) = L2 := by rw [HVB.out]; simp [bodyB]
    rw [e5] at hC5
    clear hE4 e5 HVB hby1
    go_wp2_with fail
    refine hC5.mono ?_
    rintro e w5 ⟨g5, c5, rfl, hE5, hB5⟩
    have HN : Hid (EncMore w W L2 (.returned (.slice (some ⟨g5, 0, none⟩) L2.length c5)) w5) := ⟨g5, c5, rfl, hE5, hBW.trans (hB5.mono hBW.size)⟩
    clear hE5 hB5 hC5 hBW hV4 z0 z1 z2
    go_wp2
    go_ret
    exact HN.out
  · obtain ⟨q1', rfl⟩ : ∃ z : Nat, q1 = z := ⟨q1.toNat, by omega⟩
    have hw : IntKind.u8.wrap (q1' : Int) = (q1' : Int) := by rw [u8_wrap]; omega
    have hbw2 : Below w4.heap.size w4 (w4.alloc (.cells #[.int .u8 (q1' : Int)] 5)) := (Below.refl _ _).alloc (Nat.le_refl _) _
    have hE6 : EncTo w (w4.alloc (.cells #[.int .u8 (q1' : Int)] 5)) g4 c4 L1 := ⟨hE4.row.belowAll hbw2, hE4.new, hE4.le, hE4.below.trans (hbw2.mono hE4.below.size)⟩
    have hC5 := putByte_encI w _ g4 c4 L1 w4.heap.size (q1' : Int) hE6 hby1.out (by omega) (by omega) (newRow w4 [(q1' : Int)] 5)
    have e5 : L1 ++ [(q1' : Int)] = L2 := by rw [HVB.out]; simp [bodyB]; omega
    rw [e5] at hC5
    have hBW2 := hBW.trans (hbw2.mono hBW.size)
    clear hE4 e5 HVB hby1 hE6 hbw2
    go_wp2_with fail
    refine hC5.mono ?_
    rintro e w5 ⟨g5, c5, rfl, hE5, hB5⟩
    have HN : Hid (EncMore w W L2 (.returned (.slice (some ⟨g5, 0, none⟩) L2.length c5)) w5) := ⟨g5, c5, rfl, hE5, hBW2.trans (hB5.mono hBW2.size)⟩
    clear hE5 hB5 hC5 hBW hBW2 hV4 z0 z1 z2
    go_wp2
    go_ret
    exact HN.out
end Go.Proofs.YtkakkjnbhklfpaaGreatDoor

/-
  The program's EncodeRow: its values one behind the other, and a sum.
-/
namespace Go.Proofs.YtkakkjnbhklfpaaGreatDoor
open Go.RowKit
set_option maxRecDepth 4000

set_option linter.unusedSimpArgs false in
set_option maxHeartbeats 2000000 in
theorem implEncodeRow_any (a : Option Addr) (n cap : Nat) (fc ft : Nat → Int) (fu fd : Nat → Bool) (a2 : Option Addr) (m cap2 : Nat) (fk fn : Nat → Int) (fs : Nat → ByteArray) (w : World) (h : PView w a n cap fc ft fu fd) (h2 : VView w a2 m cap2 fk fn fs) (hn : n ≤ 281474976710656) (hm : m ≤ 281474976710656) :
    Calls Tryz.prog 68 #[.slice a n cap, .slice a2 m cap2] w fun e w' => ∃ g cg, e = .returned (.slice (some ⟨g, 0, none⟩) (encRB n fc ft fu m fk fn fs).length cg) ∧ EncTo w w' g cg (encRB n fc ft fu m fk fn fs) := by
  go_enter Tryz.func68, Tryz.ntmps68
  go_wp2_with fail
  refine (implRowOk_any a n cap fc ft fu fd a2 m cap2 fk fn fs w h h2 hn hm).mono ?_
  cases hok : rowOk n fc ft fu m fk fn fs with
  | false =>
    have HE : Hid (encRB n fc ft fu m fk fn fs = []) := by show _ = _; unfold encRB; rw [hok]; rfl
    rintro e w1 ⟨rfl, hb⟩
    have HT : Hid (EncTo w (w1.alloc (.cells #[] 5)) w1.heap.size 0 []) := ⟨Row.none w1 _ _, hb.size, Nat.le_refl _, hb.alloc hb.size _⟩
    clear h h2 hb
    go_wp2
    go_ret
    refine ⟨_, 0, by rw [HE.out]; rfl, ?_⟩
    rw [HE.out]; exact HT.out
  | true =>
    have HE : Hid (encRB n fc ft fu m fk fn fs = sumB (rowB m fk fn fs)) := by show _ = _; unfold encRB; rw [hok]; rfl
    have hrk := hok
    unfold rowOk at hrk
    simp only [Bool.and_eq_true, decide_eq_true_eq] at hrk
    obtain ⟨hpk, hmn, hfa⟩ := hrk
    obtain ⟨-, hfit⟩ := fitsAll_iff.1 hfa
    have hm6 : m ≤ 6 := by have := (planOk_iff.1 hpk).2; omega
    have HOK : Hid (∀ i, i < m → okF (fk i) (fn i) (fs i) = true) := fun i hi => by have := hfit i hi; unfold fitsP at this; simp only [Bool.and_eq_true] at this; exact this.1
    rintro e w1 ⟨rfl, hb⟩
    clear hpk hfa hfit hok hmn h
    have hC := putU_encNil w w1 (m : Int) hb (by omega) (by omega)
    clear hb
    obtain ⟨vb, hvb⟩ : ∃ vb : Nat → List Int, Hid (vb = fun i => valB (fk i) (fn i) (fs i)) := ⟨_, rfl⟩
    have HRB : Hid (rowB m fk fn fs = groups (clampN m) ++ keyT vb m) := by show _ = _; rw [hvb.out]; rfl
    obtain ⟨G0, hG0⟩ : ∃ G0, Hid (groups (clampN (m : Int)) = G0) := ⟨_, rfl⟩
    have HB : Hid (∀ k, ∀ y ∈ G0 ++ keyT vb k, 0 ≤ y ∧ y ≤ 255) := fun k y hy => by
      rcases List.mem_append.1 hy with hy | hy
      · rw [← hG0.out] at hy; exact groups_byte _ (clampN_bd _).1 (clampN_bd _).2 y hy
      · rw [hvb.out] at hy; exact keyT_byte (fun i _ => valB_byte _ _ _) y hy
    have HLn : Hid (∀ k, k ≤ m → (G0 ++ keyT vb k).length ≤ 1000) := fun k hk => by
      have h1 : (keyT vb k).length ≤ k * 69 := keyT_len (fun i hi => by
        rw [hvb.out]
        have h3 := valB_len (fk i) (fn i) (fs i)
        have h4 := okF_few (HOK.out i (by omega))
        show (valB (fk i) (fn i) (fs i)).length ≤ 69
        omega)
      have h2 := (groups_len (clampN (m : Int))).2
      rw [hG0.out] at h2
      rw [List.length_append]
      omega
    rw [hG0.out] at hC HRB
    go_wp2_with fail
    refine hC.mono ?_
    rintro e w2 ⟨g, c, rfl, hE, hB2⟩
    clear hC hB2
    go_wp2
    go_loopg [5, 18] m (fun q v i wr => ∃ (k g c : Nat), k ≤ m ∧ q = m - k ∧ v = .slice (some ⟨g, 0, none⟩) (G0 ++ keyT vb k).length c ∧ i = .int .i64 k ∧ EncTo w wr g c (G0 ++ keyT vb k))
    case atStart => exact ⟨0, g, c, Nat.zero_le _, rfl, by simp [keyT], rfl, by simpa [keyT] using hE⟩
    case round =>
      clear hE
      obtain ⟨k, g3, c3, hk, rfl, rfl, rfl, hE⟩ := hrel
      by_cases hlt : k < m
      · have hkz : (k : Int) < (m : Int) := by omega
        obtain ⟨b2, o2, rfl, hb2, hd2⟩ := (h2.below hE.below).cells (by omega)
        obtain ⟨x0, x1, x2⟩ := hd2 k hlt
        have hok := HOK.out k hlt
        have hvk : Hid (keyT vb (k + 1) = keyT vb k ++ valB (fk k) (fn k) (fs k)) := by show _ = _; rw [keyT, hvb.out]
        have hby := HB.out k
        have hln := HLn.out k hk
        obtain ⟨L, hL⟩ : ∃ L, Hid (G0 ++ keyT vb k = L) := ⟨_, rfl⟩
        rw [hL.out] at hE hby hln ⊢
        obtain ⟨q0, hq0⟩ : ∃ p, fk k = p := ⟨_, rfl⟩
        obtain ⟨q1, hq1⟩ : ∃ p, fn k = p := ⟨_, rfl⟩
        obtain ⟨q2, hq2⟩ : ∃ p, fs k = p := ⟨_, rfl⟩
        rw [hq0] at x0 hok hvk
        rw [hq1] at x1 hok hvk
        rw [hq2] at x2 hok hvk
        clear hd2 hq0 hq1 hq2
        have HL2 : Hid (G0 ++ keyT vb (k + 1) = L ++ valB q0 q1 q2) := by show _ = _; rw [hvk.out, ← List.append_assoc, hL.out]
        clear hvk
        have hbw : Below wr.heap.size wr (wr.alloc (.cells #[.int .i64 q0, .int .i64 q1, .string q2] 58)) := (Below.refl _ _).alloc (Nat.le_refl _) _
        have hE2 : EncTo w (wr.alloc (.cells #[.int .i64 q0, .int .i64 q1, .string q2] 58)) g3 c3 L := ⟨hE.row.belowAll hbw, hE.new, hE.le, hE.below.trans (hbw.mono hE.below.size)⟩
        have hC := putRowVal_any w _ g3 c3 L q0 q1 q2 hE2 hby hln hok
        rw [← HL2.out] at hC
        obtain ⟨L5, hL5⟩ : ∃ L5, Hid (G0 ++ keyT vb (k + 1) = L5) := ⟨_, rfl⟩
        rw [hL5.out] at hC
        clear hE hE2 hbw hby hok HL2
        go_wp2_with fail
        clear x0 x1 x2
        refine hC.mono ?_
        rintro e w5 ⟨g5, c5, rfl, hE5, -⟩
        have HN : Hid (EncTo w w5 g5 c5 L5) := hE5
        clear hE5 hC
        go_wp2
        go_roundg (m - (k + 1))
        case measure => omega
        case rel => exact ⟨k + 1, g5, c5, by omega, rfl, by rw [hL5.out], by go_num, by rw [hL5.out]; exact HN.out⟩
      · have hkz : ¬ (k : Int) < (m : Int) := by omega
        obtain rfl : k = m := by omega
        have hC := putSum_encI w wr g3 c3 _ hE (HB.out k) (by have := HLn.out k hk; omega)
        obtain ⟨L, hL⟩ : ∃ L, Hid (G0 ++ keyT vb k = L) := ⟨_, rfl⟩
        rw [hL.out] at hC HRB ⊢
        clear hE h2
        go_wp2_with fail
        refine hC.mono ?_
        rintro e w4 ⟨g4, c4, rfl, hE4⟩
        have HE4 : Hid (EncTo w w4 g4 c4 (sumB L)) := hE4
        clear hE4 hC
        go_wp2
        go_ret
        refine ⟨g4, c4, by rw [HE.out, HRB.out]; rfl, ?_⟩
        rw [HE.out, HRB.out]; exact HE4.out
end Go.Proofs.YtkakkjnbhklfpaaGreatDoor

/-
  The program's LongKey, at a table that is there, comes to the plain one.
-/
namespace Go.Proofs.YtkakkjnbhklfpaaGreatDoor
open Go.RowKit
set_option maxRecDepth 4000

/-- The bytes of a row of a table. -/
def lineB (D : PDef) (m : Nat) (fk fn : Nat → Int) (fs : Nat → ByteArray) : List Int := encRB (rowN D) (fun i => (plF D.col allL i).col) (fun i => (plF D.col allL i).type) (fun i => (plF D.col allL i).null) m fk fn fs
open Classical in
/-- Whether a key or the row is long. -/
noncomputable def longB (f : Nat → PDef) (n j m : Nat) (fk fn : Nat → Int) (fs : Nat → ByteArray) : Bool := decide ((∃ k : Nat, k < 3 ∧ 48 < (keyB f n (j : Int) ((k : Int) - 1) m fk fn fs).length) ∨ 60 < (lineB (f j) m fk fn fs).length)

set_option maxHeartbeats 2000000 in
theorem rowBytes_any (a : Option Addr) (n cap : Nat) (P : Nat → PPart) (a2 : Option Addr) (m c2 : Nat) (fk fn : Nat → Int) (fs : Nat → ByteArray) (w : World) (hp : QView w a n cap P) (hq : VView w a2 m c2 fk fn fs) (hn : n ≤ 1048576) (hm : m ≤ 1048576) :
    Calls Tryz.prog 41 #[.slice a n cap, .slice a2 m c2] w fun e w' => ∃ g cg, e = .returned (.slice (some ⟨g, 0, none⟩) (encRB n (fun i => (P i).col) (fun i => (P i).type) (fun i => (P i).null) m fk fn fs).length cg) ∧ Below w.heap.size w w' := by
  have hR := implEncodeRow_any a n cap _ _ _ _ a2 m c2 fk fn fs w hp hq (by omega) (by omega)
  obtain ⟨L, hL⟩ : ∃ L, Hid (encRB n (fun i => (P i).col) (fun i => (P i).type) (fun i => (P i).null) m fk fn fs = L) := ⟨_, rfl⟩
  simp only [hL.out] at hR
  rw [hL.out]
  clear hp hq
  go_enter Tryz.func41, Tryz.ntmps41
  go_wp2_with fail
  refine hR.mono ?_
  rintro e w2 ⟨g, cg, rfl, hT⟩
  have HR : Hid (Below w.heap.size w w2) := hT.below
  clear hR hT
  go_wp2
  go_ret
  exact ⟨g, cg, rfl, HR.out⟩

set_option maxHeartbeats 4000000 in
theorem implLong_any (a : Option Addr) (n cap : Nat) (f : Nat → PDef) (j : Nat) (a2 : Option Addr) (m c2 : Nat) (fk fn : Nat → Int) (fs : Nat → ByteArray) (w : World) (hj : j < n) (h : LView w a n cap f) (hf : LFine n f) (hq : VView w a2 m c2 fk fn fs) (hm : m ≤ 1048576) (hs : ∀ i, i < m → (fs i).size ≤ 1048576) (hI : ChkI w) :
    Calls Tryz.prog 17 #[.slice a n cap, .int .i64 j, .slice a2 m c2] w fun e w' => e = .returned (.bool (longB f n j m fk fn fs)) ∧ Below w.heap.size w w' := by
  have HKO : Hid (∀ (W : World) (i : Int), Below w.heap.size w W → Calls Tryz.prog 11 #[.slice a n cap, .int .i64 j, .int .i64 i, .slice a2 m c2] W (ByTo W (keyB f n j i m fk fn fs))) := fun W i hb => implKey_any a n cap f j i a2 m c2 fk fn fs W (h.below hb) hf (hq.below hb) hm hs (hI.below hb)
  have HVL : Hid (∀ W, Below w.heap.size w W → LView W a n cap f) := fun W hb => h.below hb
  have HRP : Hid (∀ (W : World) (v : Value), Below w.heap.size w W → DView W v (f j) → Calls Tryz.prog 35 #[v] W fun e w' => ∃ g c, e = .returned (.agg #[.slice (some ⟨g, 0, none⟩) (rowN (f j)) c]) ∧ w'.ownsRow W.heap.size 50 4 (.slice (some ⟨g, 0, none⟩) (rowN (f j)) c) (rowN (f j)) (rowG (encQ (plF (f j).col allL)) (rowN (f j))) ∧ Below W.heap.size W w') := fun W v hb hd => rowPlanOf_any v (f j) W hd (hf.at_ j hj) (hI.below hb)
  have HRB : Hid (∀ (W : World) (g c : Nat), Below w.heap.size w W → QView W (some ⟨g, 0, none⟩) (rowN (f j)) c (plF (f j).col allL) → Calls Tryz.prog 41 #[.slice (some ⟨g, 0, none⟩) (rowN (f j)) c, .slice a2 m c2] W fun e w' => ∃ g cg, e = .returned (.slice (some ⟨g, 0, none⟩) (lineB (f j) m fk fn fs).length cg) ∧ Below W.heap.size W w') := fun W g c hb hp => rowBytes_any _ _ c _ a2 m c2 fk fn fs W hp (hq.below hb) (by have := rowN6 (f j); omega) hm
  have hjz : (j : Int) < (n : Int) := by omega
  have hjz0 : ¬ (j : Int) < 0 := by omega
  have hjz1 : ¬ (j : Int) ≥ (n : Int) := by omega
  clear h hf hq hs hI
  go_enter Tryz.func17, Tryz.ntmps17
  go_wp2
  go_loopg [7] 3 (fun q i wr => ∃ k : Nat, k ≤ 3 ∧ q = 3 - k ∧ i = .int .i64 ((k : Int) - 1) ∧ Below w.heap.size w wr ∧ Hid (∀ i, i < k → ¬ 48 < (keyB f n (j : Int) ((i : Int) - 1) m fk fn fs).length))
  case atStart => exact ⟨0, by omega, rfl, by simp, Below.refl _ _, fun i hi => absurd hi (Nat.not_lt_zero _)⟩
  case round =>
    obtain ⟨k, hk, rfl, rfl, hB, HN⟩ := hrel
    by_cases hlt : k < 3
    · have hkz : (k : Int) - 1 < 2 := by omega
      have hK := HKO.out wr ((k : Int) - 1) hB
      have HLO : Hid (48 < (keyB f n (j : Int) ((k : Int) - 1) m fk fn fs).length → longB f n j m fk fn fs = true) := fun h => by unfold longB; exact decide_eq_true (.inl ⟨k, hlt, h⟩)
      have hl4 : (keyB f n (j : Int) ((k : Int) - 1) m fk fn fs).length ≤ 416 := (keyB_len f n j ((k : Int) - 1) m fk fn fs)
      obtain ⟨L, hL⟩ : ∃ x, Hid ((keyB f n (j : Int) ((k : Int) - 1) m fk fn fs).length = x) := ⟨_, rfl⟩
      have hK2 : Calls Tryz.prog 11 #[.slice a n cap, .int .i64 j, .int .i64 ((k : Int) - 1), .slice a2 m c2] wr fun e w' => ∃ g c, e = .returned (.slice (some ⟨g, 0, none⟩) L c) ∧ Below wr.heap.size wr w' := hK.mono (fun e w' ⟨g, c, he, _, hb⟩ => ⟨g, c, by rw [← hL.out]; exact he, hb⟩)
      rw [hL.out] at hl4 HLO
      have HN2 : Hid (¬ 48 < L → ∀ i, i < k + 1 → ¬ 48 < (keyB f n (j : Int) ((i : Int) - 1) m fk fn fs).length) := by
        intro h i hi
        by_cases e : i < k
        · exact HN.out i e
        · obtain rfl : i = k := by omega
          rw [hL.out]; exact h
      clear hK
      go_wp2_with fail
      refine hK2.mono ?_
      rintro e w1 ⟨g1, c1, rfl, hb1⟩
      have HB1 : Hid (Below w.heap.size w w1) := hB.trans (hb1.mono hB.size)
      clear hK2 hb1
      by_cases h48 : 48 < L
      · have hz : (L : Int) > 48 := by omega
        go_wp2
        go_ret
        exact ⟨by rw [HLO.out h48]; rfl, HB1.out⟩
      · have hz : ¬ (L : Int) > 48 := by omega
        have HNN : Hid (∀ i, i < k + 1 → ¬ 48 < (keyB f n (j : Int) ((i : Int) - 1) m fk fn fs).length) := HN2.out h48
        clear HLO HN2
        go_wp2
        go_roundg (3 - (k + 1))
        case measure => omega
        case rel => exact ⟨k + 1, by omega, rfl, by go_num, HB1.out, HNN⟩
    · have hkz : ¬ (k : Int) - 1 < 2 := by omega
      obtain rfl : k = 3 := by omega
      obtain ⟨b1, o1, rfl, hbb, hc1⟩ := (HVL.out wr hB).cells (by omega)
      obtain ⟨y1, y2, y3, x0, x1, x2, x3, hv⟩ := hc1 j hj
      have hR := HRP.out wr _ hB hv
      obtain ⟨p0, hp0⟩ : ∃ x, Hid ((f j).name = x) := ⟨_, rfl⟩
      rw [hp0.out] at x0 hR
      have HB : Hid (Below w.heap.size w wr) := hB
      clear hc1 hv hB HVL HRP HKO
      go_wp2_with fail
      refine hR.mono ?_
      rintro e w2 ⟨g2, c2', rfl, hO2, hb2⟩
      have HB2 : Hid (Below w.heap.size w w2) := HB.out.trans (hb2.mono HB.out.size)
      have hRB := HRB.out w2 g2 c2' HB2.out (qview_of_own hO2)
      obtain ⟨RN, hRN⟩ : ∃ x, Hid (rowN (f j) = x) := ⟨_, rfl⟩
      obtain ⟨L, hL⟩ : ∃ x, Hid ((lineB (f j) m fk fn fs).length = x) := ⟨_, rfl⟩
      rw [hRN.out] at hRB ⊢
      rw [hL.out] at hRB
      have hfd := fun W => rp_field g2 RN c2' W
      have HLO : Hid (longB f n j m fk fn fs = decide ((60 : Int) < (L : Int))) := by
        show _ = _
        unfold longB
        rw [decide_eq_decide, hL.out]
        constructor
        · rintro (⟨i, hi, h⟩ | h)
          · exact absurd h (HN.out i hi)
          · omega
        · intro h; exact .inr (by omega)
      clear hR hO2 hb2 HRB x0 x1 x2 x3
      go_wp2_with fail
      refine hRB.mono ?_
      rintro e w3 ⟨g3, c3, rfl, hb3⟩
      have HB3 : Hid (Below w.heap.size w w3) := HB2.out.trans (hb3.mono HB2.out.size)
      clear hRB hb3
      go_wp2
      go_ret
      exact ⟨by rw [HLO.out]; rfl, HB3.out⟩
end Go.Proofs.YtkakkjnbhklfpaaGreatDoor

/-
  The model's LongKey, at a list that is right and a row that is right, comes to the plain one.
-/
namespace Go.Proofs.YtkakkjnbhklfpaaGreatDoor
open Go.RowKit
set_option maxRecDepth 4000

theorem long_of {f : Nat → PDef} {n j m : Nat} {fk fn : Nat → Int} {fs : Nat → ByteArray} (hF : firstF f n = -1) (hj : j < n) : longB f n j m fk fn fs = decide ((∃ k : Nat, k < (f j).ni + 1 ∧ 48 < (keyB f n (j : Int) ((k : Int) - 1) m fk fn fs).length) ∨ 60 < (lineB (f j) m fk fn fs).length) := by
  unfold longB
  rw [decide_eq_decide]
  have h2 := (checkF_good ((firstF_none hF).2.1 j hj)).2.2.2.1
  constructor
  · rintro (⟨k, hk, h⟩ | h)
    · refine .inl ⟨k, ?_, h⟩
      by_cases hc : k < (f j).ni + 1
      · exact hc
      · exfalso
        have : keyB f n (j : Int) ((k : Int) - 1) m fk fn fs = [] := by
          unfold keyB
          rw [if_neg]
          rintro ⟨hT, -⟩
          have := hT.2.2.2.2
          simp only [Int.toNat_natCast] at this
          omega
        rw [this] at h
        simp at h
    · exact .inr h
  · rintro (⟨k, hk, h⟩ | h)
    · exact .inl ⟨k, by omega, h⟩
    · exact .inr h

set_option maxHeartbeats 4000000 in
theorem specLong_any (a : Option Addr) (n cap : Nat) (f : Nat → PDef) (j : Nat) (a2 : Option Addr) (m c2 : Nat) (fk fn : Nat → Int) (fs : Nat → ByteArray) (w : World) (hj : j < n) (hF : firstF f n = -1) (hok : rowOkD (f j) m fk fn fs = true) (h : LView w a n cap f) (hf : LFine n f) (hq : VView w a2 m c2 fk fn fs) (hm : m ≤ 1048576) (hs : ∀ i, i < m → (fs i).size ≤ 1048576) :
    Calls Tryz.prog 18 #[.slice a n cap, .int .i64 j, .slice a2 m c2] w fun e w' => e = .returned (.bool (longB f n j m fk fn fs)) ∧ Below w.heap.size w w' := by
  have hni := (checkF_good ((firstF_none hF).2.1 j hj)).2.2.2.1
  have hTh := there_any a n cap f j (-1) w h hf
  have hT1 : There f n (j : Int) (-1) := ⟨hF, by omega, by omega, by omega, by simp only [Int.toNat_natCast]; omega⟩
  have HLG := long_of (m := m) (fk := fk) (fn := fn) (fs := fs) hF hj
  have HVL : Hid (∀ W, Below w.heap.size w W → LView W a n cap f) := fun W hb => h.below hb
  have HRP : Hid (∀ (W : World) (v : Value), DView W v (f j) → Calls Tryz.prog 44 #[v] W (PlanTo W (rowN (f j)) (plF (f j).col allL))) := fun W v hd => specRowPlan_any v (f j) W hd (hf.at_ j hj)
  have HRO : Hid (∀ (W : World) (g c : Nat), Below w.heap.size w W → QView W (some ⟨g, 0, none⟩) (rowN (f j)) c (plF (f j).col allL) → Calls Tryz.prog 43 #[.slice (some ⟨g, 0, none⟩) (rowN (f j)) c, .slice a2 m c2] W fun e w' => e = .returned (.bool true) ∧ Below W.heap.size W w') := fun W g c hb hp => by
    have := specRowOk_any _ (rowN (f j)) c _ _ _ _ a2 m c2 fk fn fs W hp (hq.below hb) (by have := rowN6 (f j); omega) hm hs
    rw [show rowOk (rowN (f j)) (fun i => (plF (f j).col allL i).col) (fun i => (plF (f j).col allL i).type) (fun i => (plF (f j).col allL i).null) m fk fn fs = true from hok] at this
    exact this
  have HER : Hid (∀ (W : World) (g c : Nat), Below w.heap.size w W → QView W (some ⟨g, 0, none⟩) (rowN (f j)) c (plF (f j).col allL) → Calls Tryz.prog 46 #[.slice (some ⟨g, 0, none⟩) (rowN (f j)) c, .slice a2 m c2] W fun e w' => ∃ g cg, e = .returned (.slice (some ⟨g, 0, none⟩) (lineB (f j) m fk fn fs).length cg) ∧ Below W.heap.size W w') := fun W g c hb hp => (specEncodeRow_any _ (rowN (f j)) c _ _ _ _ a2 m c2 fk fn fs W hp (hq.below hb) (by have := rowN6 (f j); omega) hm hs).mono (fun e w' ⟨g, cg, he, hE, _⟩ => ⟨g, cg, he, hE.below⟩)
  have HLK : Hid (∀ (W : World) (k : Nat), Below w.heap.size w W → k < (f j).ni + 1 → Calls Tryz.prog 45 #[.slice a n cap, .int .i64 j, .int .i64 ((k : Int) - 1), .slice a2 m c2] W fun e w' => ∃ g c, e = .returned (.slice (some ⟨g, 0, none⟩) (keyB f n (j : Int) ((k : Int) - 1) m fk fn fs).length c) ∧ Below W.heap.size W w') := fun W k hb hk => by
    have hT : There f n (j : Int) ((k : Int) - 1) := ⟨hF, by omega, by omega, by omega, by simp only [Int.toNat_natCast]; omega⟩
    have e : keyB f n (j : Int) ((k : Int) - 1) m fk fn fs = [(j : Int) + 1, (k : Int) - 1 + 1] ++ keyQ (planN (f j) ((k : Int) - 1)) (plF (f j).col (planL (f j) ((k : Int) - 1))) m fk fn fs := by
      unfold keyB
      simp only [Int.toNat_natCast]
      rw [if_pos ⟨hT, hok⟩]
    rw [e]
    exact (l11Key_any a n cap f j ((k : Int) - 1) a2 m c2 fk fn fs W (h.below hb) hf (hq.below hb) hm hs hT).mono (fun e w' ⟨g, c, he, _, hb'⟩ => ⟨g, c, he, hb'⟩)
  have hjz : (j : Int) < (n : Int) := by omega
  have hjz0 : ¬ (j : Int) < 0 := by omega
  clear h hf hq hs
  go_enter Tryz.func18, Tryz.ntmps18
  go_wp2_with fail
  refine hTh.mono ?_
  rintro e w1 ⟨b, rfl, hbT, hb1⟩
  obtain rfl : b = true := hbT.out.2 hT1
  obtain ⟨b1, o1, rfl, hbb, hc1⟩ := (HVL.out w1 hb1).cells (by omega)
  obtain ⟨y1, y2, y3, x0, x1, x2, x3, hv⟩ := hc1 j hj
  have hR := HRP.out w1 _ hv
  obtain ⟨p0, hp0⟩ : ∃ x, Hid ((f j).name = x) := ⟨_, rfl⟩
  rw [hp0.out] at x0 hR
  have HB1 : Hid (Below w.heap.size w w1) := hb1
  obtain ⟨RN, hRN⟩ : ∃ x, Hid (rowN (f j) = x) := ⟨_, rfl⟩
  simp only [hRN.out] at hR HRO HER
  clear hTh hbT hb1 hc1 hv hT1
  go_wp2_with fail
  refine hR.mono ?_
  rintro e w3 ⟨g3, c3, rfl, hO3, hb3⟩
  have HB3 : Hid (Below w.heap.size w w3) := HB1.out.trans (hb3.mono HB1.out.size)
  have hTk := HRO.out w3 g3 c3 HB3.out (qview_of_own hO3)
  clear hR hO3 hb3 HRO x0 x1 x2 x3 hbb
  go_wp2_with fail
  refine hTk.mono ?_
  rintro e w4 ⟨rfl, hb4⟩
  have HB4 : Hid (Below w.heap.size w w4) := HB3.out.trans (hb4.mono HB3.out.size)
  clear hTk hb4
  go_wp2
  go_loopg [7] ((f j).ni + 1) (fun q i wr => ∃ k : Nat, k ≤ (f j).ni + 1 ∧ q = (f j).ni + 1 - k ∧ i = .int .i64 ((k : Int) - 1) ∧ Below w.heap.size w wr ∧ Hid (∀ i, i < k → ¬ 48 < (keyB f n (j : Int) ((i : Int) - 1) m fk fn fs).length))
  case atStart => exact ⟨0, by omega, rfl, by simp, HB4.out, fun i hi => absurd hi (Nat.not_lt_zero _)⟩
  case round =>
    obtain ⟨k, hk, rfl, rfl, hB, HN⟩ := hrel
    obtain ⟨b1', o1', e1', hbb, hc1⟩ := (HVL.out wr hB).cells (by omega)
    cases e1'
    obtain ⟨y1, y2, y3, x0, x1, x2, x3, hv⟩ := hc1 j hj
    obtain ⟨ac, cc, ap, cp, ai, ci, -, rfl, rfl, rfl, -, -, -⟩ := hv.parts
    by_cases hlt : k < (f j).ni + 1
    · have hkz : (k : Int) - 1 < ((f j).ni : Int) := by omega
      have hK := HLK.out wr k hB hlt
      have HLO : Hid (48 < (keyB f n (j : Int) ((k : Int) - 1) m fk fn fs).length → longB f n j m fk fn fs = true) := fun h => by rw [HLG]; exact decide_eq_true (.inl ⟨k, hlt, h⟩)
      have hl4 := keyB_len f n j ((k : Int) - 1) m fk fn fs
      have HN2 : Hid (¬ 48 < (keyB f n (j : Int) ((k : Int) - 1) m fk fn fs).length → ∀ i, i < k + 1 → ¬ 48 < (keyB f n (j : Int) ((i : Int) - 1) m fk fn fs).length) := by
        intro h i hi
        by_cases e : i < k
        · exact HN.out i e
        · obtain rfl : i = k := by omega
          exact h
      obtain ⟨L, hL⟩ : ∃ x, Hid ((keyB f n (j : Int) ((k : Int) - 1) m fk fn fs).length = x) := ⟨_, rfl⟩
      rw [hL.out] at hl4 HLO hK HN2
      obtain ⟨NI, hNI⟩ : ∃ x, Hid ((f j).ni = x) := ⟨_, rfl⟩
      rw [hNI.out] at x3 hkz
      clear hc1 hv x0 x1 x2
      go_wp2_with fail
      refine hK.mono ?_
      rintro e w5 ⟨g5, c5, rfl, hb5⟩
      have HB5 : Hid (Below w.heap.size w w5) := hB.trans (hb5.mono hB.size)
      clear hK hb5 x3
      by_cases h48 : 48 < L
      · have hz : (L : Int) > 48 := by omega
        go_wp2
        go_ret
        exact ⟨by rw [HLO.out h48]; rfl, HB5.out⟩
      · have hz : ¬ (L : Int) > 48 := by omega
        have HNN : Hid (∀ i, i < k + 1 → ¬ 48 < (keyB f n (j : Int) ((i : Int) - 1) m fk fn fs).length) := HN2.out h48
        clear HLO HN2
        go_wp2
        go_roundg ((f j).ni + 1 - (k + 1))
        case measure => omega
        case rel => exact ⟨k + 1, by omega, rfl, by go_num, HB5.out, HNN⟩
    · have hkz : ¬ (k : Int) - 1 < ((f j).ni : Int) := by omega
      have hkn : k = (f j).ni + 1 := by omega
      have hR := HRP.out wr _ hv
      obtain ⟨L, hL⟩ : ∃ x, Hid ((lineB (f j) m fk fn fs).length = x) := ⟨_, rfl⟩
      have HLO : Hid (longB f n j m fk fn fs = decide ((60 : Int) < (L : Int))) := by
        show _ = _
        rw [HLG, decide_eq_decide, hL.out]
        constructor
        · rintro (⟨i, hi, h⟩ | h)
          · exact absurd h (HN.out i (by omega))
          · omega
        · intro h; exact .inr (by omega)
      have HB : Hid (Below w.heap.size w wr) := hB
      obtain ⟨N0, hN0⟩ : ∃ x, Hid ((f j).nc = x) := ⟨_, rfl⟩
      obtain ⟨N1, hN1⟩ : ∃ x, Hid ((f j).np = x) := ⟨_, rfl⟩
      obtain ⟨N2, hN2⟩ : ∃ x, Hid ((f j).ni = x) := ⟨_, rfl⟩
      rw [hp0.out, hRN.out, hN0.out, hN1.out, hN2.out] at hR
      rw [hp0.out] at x0
      rw [hN0.out] at x1
      rw [hN1.out] at x2
      rw [hN2.out] at x3 hkz
      simp only [hL.out] at HER
      clear hc1 hv hB HVL HRP HLK HN HLG hkn
      go_wp2_with fail
      refine hR.mono ?_
      rintro e w6 ⟨g6, c6, rfl, hO6, hb6⟩
      have HB6 : Hid (Below w.heap.size w w6) := HB.out.trans (hb6.mono HB.out.size)
      have hE := HER.out w6 g6 c6 HB6.out (qview_of_own hO6)
      clear hR hO6 hb6 HER x0 x1 x2 x3
      go_wp2_with fail
      refine hE.mono ?_
      rintro e w7 ⟨g7, c7, rfl, hb7⟩
      have HB7 : Hid (Below w.heap.size w w7) := HB6.out.trans (hb7.mono HB6.out.size)
      clear hE hb7
      go_wp2
      go_ret
      exact ⟨by rw [HLO.out]; rfl, HB7.out⟩
end Go.Proofs.YtkakkjnbhklfpaaGreatDoor

/-
  Whether a code is too long.
-/
namespace Go.Proofs.YtkakkjnbhklfpaaGreatDoor
open Go.RowKit
set_option maxRecDepth 4000

theorem big_any (ao : Option Addr) (n cap : Nat) (w : World) (_hn : n ≤ 9223372036854775807) :
    Calls Tryz.prog 5 #[.slice ao n cap] w fun e w' => e = .returned (.bool (decide ((1048576 : Int) < (n : Int)))) ∧ w = w' := by
  go_enter Tryz.func5, Tryz.ntmps5
  go_wp2
  go_ret
  exact ⟨rfl, rfl⟩

end Go.Proofs.YtkakkjnbhklfpaaGreatDoor

