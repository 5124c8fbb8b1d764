/-
  The program's PutText: what was there, the number of the text's bytes, and these, in memory of its own.
-/
import Derived.Test.YtjkoipdcpkkkeaaPutNums
import Derived.Test.YtjkoipdcpkkkeaaTextPlain
import Derived.Laws.IdiomStrings
namespace Go.Proofs.Ytjkoipdcpkkkeaa
open Go.RowKit

/-- What '[]byte(s)' lays reads as the text's bytes. -/
theorem text_view (w : World) (s : ByteArray) (cap : Nat) (m : Nat × Nat) (hc : s.size ≤ cap) : View (w.alloc (.cells (bytesRow s cap) 5 m)) (some ⟨w.heap.size, 0, none⟩) s.size cap (fun i => (sl s).getD i 0) := by
  refine ⟨hc, fun i hi => ?_, fun _ => ⟨w.heap.size, 0, rfl, by simp, fun i hi => ?_⟩⟩
  · have hi' : i < (sl s).length := by rw [sl_len]; exact hi
    have := sl_byte s _ (List.getElem_mem hi')
    simpa [hi'] using this
  · have hi' : i < (sl s).length := by rw [sl_len]; exact hi
    have hd : i < s.data.size := hi
    have e1 : (bytesRow s cap)[i]? = some (.int .u8 ((sl s).getD i 0)) := by
      unfold bytesRow
      rw [Array.getElem?_append_left (by simpa using hd)]
      simp [sl]
      exact ⟨s.data[i], Array.getElem?_eq_getElem hd, by rw [Array.getElem?_eq_getElem hd]; rfl⟩
    rw [Nat.zero_add, World.cell?]
    rw [show (w.alloc (.cells (bytesRow s cap) 5 m)).heap[w.heap.size]? = some (.cells (bytesRow s cap) 5 m) from Deep.blk_alloc_new _ _]
    simp [e1]

set_option maxHeartbeats 1000000 in
theorem putText_impl (b off n cap : Nat) (f : Nat → Int) (s : ByteArray) (w : World) (hv : View w (some ⟨b, off, none⟩) n cap f) (hn : n ≤ 17592186044416) (hs : s.size ≤ 17592186044416) :
    Calls Try.prog 10 #[.slice (some ⟨b, off, none⟩) n cap, .string s] w fun e w' => ∃ g c, e = .returned (.slice (some ⟨g, 0, none⟩) (n + (groups (clampN s.size)).length + s.size) c) ∧ w.heap.size ≤ g ∧ n + (groups (clampN s.size)).length + s.size ≤ c ∧ Row 5 w' g (n + (groups (clampN s.size)).length + s.size) (fun i => (textL n f s).getD i 0) ∧ Below w.heap.size w w' := by
  have hgl := (groups_len (clampN s.size)).2
  have hgb : Hid (∀ y ∈ groups (clampN s.size), 0 ≤ y ∧ y ≤ 255) := groups_byte _ (clampN_bd _).1 (clampN_bd _).2
  obtain ⟨gs, hgs⟩ : ∃ gs, Hid (groups (clampN s.size) = gs) := ⟨_, rfl⟩
  rw [hgs.out] at hgl hgb
  have kc := fun w => run_bytes_of_string (P := Try.prog) w 9 22 5 s Try.underlying9 Try.underlying22 Try.underlying5
  go_enter Try.func10, Try.ntmps10
  go_wp2_with fail
  have hb1 : Below w.heap.size w (w.alloc (.cells #[.int .i64 (s.size : Int)] 3)) := (Below.refl _ _).alloc (Nat.le_refl _) _
  refine (putNums_one b off n cap f (s.size : Int) w.heap.size _ (hv.below hb1) (by omega) (by omega) (by omega) (by simp)).mono ?_
  rintro e w2 ⟨g, c, rfl, hg, hgc, hrow, hb2⟩
  rw [hgs.out] at hrow hgc ⊢
  replace hb2 := hb1.trans (hb2.mono (by simp))
  go_wp2_with fail
  obtain ⟨cp, hcp⟩ : ∃ cp, cp = grownCap w2 s.size 0 5 := ⟨_, rfl⟩
  have hge : s.size ≤ cp := by rw [hcp]; exact grownCap_ge _ _ _ _
  rw [← hcp]
  clear hcp kc
  have hb3 : Below w2.heap.size w2 (w2.alloc (.cells (bytesRow s cp) 5 ((bytesRow s cp).size, (bytesRow s cp).size + 1))).drew := ((Below.refl _ _).alloc (Nat.le_refl _) _).drew
  have hvt : View (w2.alloc (.cells (bytesRow s cp) 5 ((bytesRow s cp).size, (bytesRow s cp).size + 1))).drew (some ⟨w2.heap.size, 0, none⟩) s.size cp (fun i => (sl s).getD i 0) := (text_view w2 s cp _ hge).below (Below.refl _ _).drew
  refine (putBytes_any g 0 (n + gs.length) c _ (some ⟨w2.heap.size, 0, none⟩) s.size cp (fun i => (sl s).getD i 0) _ ((hrow.belowAll hb3).view hgc (put_byte n f gs hv.byte hgb.out)) hvt (by intro h; cases h) (by omega)).mono ?_
  rintro e w3 ⟨rfl, hown, hb4⟩
  have el1 : lof (n + gs.length) (fun i => (lof n f ++ gs).getD i 0) = lof n f ++ gs := by
    have := lof_self (lof n f ++ gs)
    rw [List.length_append, lof_len] at this
    exact this
  have el2 : lof s.size (fun i => (sl s).getD i 0) = sl s := by
    have := lof_self (sl s)
    rw [sl_len] at this
    exact this
  rw [el1, el2] at hown
  have hr := row_of_owned hown
  have hgr : w.heap.size ≤ (w2.alloc (.cells (bytesRow s cp) 5 ((bytesRow s cp).size, (bytesRow s cp).size + 1))).drew.heap.size := Nat.le_trans hb2.size hb3.size
  have hbb := hb2.trans ((hb3.mono hb2.size).trans (hb4.mono hgr))
  clear hown hb4 hb3 hvt el1 el2 hrow
  generalize (w2.alloc (.cells (bytesRow s cp) 5 ((bytesRow s cp).size, (bytesRow s cp).size + 1))).drew.heap.size = G at *
  go_wp2
  go_ret
  unfold textL
  rw [hgs.out]
  exact ⟨G, _, rfl, hgr, Nat.le_refl _, hr, hbb⟩
end Go.Proofs.Ytjkoipdcpkkkeaa
