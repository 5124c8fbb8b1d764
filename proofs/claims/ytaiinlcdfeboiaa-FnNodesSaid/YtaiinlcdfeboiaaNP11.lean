/-
  Together: PutTextImpl, NodePutI, GetPlain, GetTextPlain, StrSl, NumsPlain, LofEq, AtB
-/
import Derived.Test.YtaiinlcdfeboiaaNP10
import Derived.Test.YtaiinlcdfeboiaaNP6
import Derived.Laws.IdiomStrings
import Derived.Test.YtaiinlcdfeboiaaNP9
import Derived.Test.YtaiinlcdfeboiaaNP1
import Derived.Test.YtaiinlcdfeboiaaNP4
/-
  The program's PutText: what was there, the number of the text's bytes, and these, in memory of its own.
-/
namespace Go.Proofs.Ytaiinlcdfeboiaa
open Go.RowKit
set_option maxRecDepth 4000

/-- What '[]byte(s)' lays reads as the text's bytes. -/
theorem text_view (w : World) (s : ByteArray) (cap : Nat) (m : Nat × Nat) (hc : s.size ≤ cap) : View (w.alloc (.cells (bytesRow s cap) 5 m)) (some ⟨w.heap.size, 0, none⟩) s.size cap (fun i => (sl s).getD i 0) := by
  refine ⟨hc, fun i hi => ?_, fun _ => ⟨w.heap.size, 0, rfl, by simp, fun i hi => ?_⟩⟩
  · have hi' : i < (sl s).length := by rw [sl_len]; exact hi
    have := sl_byte s _ (List.getElem_mem hi')
    simpa [hi'] using this
  · have hi' : i < (sl s).length := by rw [sl_len]; exact hi
    have hd : i < s.data.size := hi
    have e1 : (bytesRow s cap)[i]? = some (.int .u8 ((sl s).getD i 0)) := by
      unfold bytesRow
      rw [Array.getElem?_append_left (by simpa using hd)]
      simp [sl]
      exact ⟨s.data[i], Array.getElem?_eq_getElem hd, by rw [Array.getElem?_eq_getElem hd]; rfl⟩
    rw [Nat.zero_add, World.cell?]
    rw [show (w.alloc (.cells (bytesRow s cap) 5 m)).heap[w.heap.size]? = some (.cells (bytesRow s cap) 5 m) from Deep.blk_alloc_new _ _]
    simp [e1]

set_option maxHeartbeats 1000000 in
theorem putText_impl (b off n cap : Nat) (f : Nat → Int) (s : ByteArray) (w : World) (hv : View w (some ⟨b, off, none⟩) n cap f) (hn : n ≤ 17592186044416) (hs : s.size ≤ 17592186044416) :
    Calls Try.prog 64 #[.slice (some ⟨b, off, none⟩) n cap, .string s] w fun e w' => ∃ g c, e = .returned (.slice (some ⟨g, 0, none⟩) (n + (groups (clampN s.size)).length + s.size) c) ∧ w.heap.size ≤ g ∧ n + (groups (clampN s.size)).length + s.size ≤ c ∧ Row 5 w' g (n + (groups (clampN s.size)).length + s.size) (fun i => (textL n f s).getD i 0) ∧ Below w.heap.size w w' := by
  have hgl := (groups_len (clampN s.size)).2
  have hgb : Hid (∀ y ∈ groups (clampN s.size), 0 ≤ y ∧ y ≤ 255) := groups_byte _ (clampN_bd _).1 (clampN_bd _).2
  obtain ⟨gs, hgs⟩ : ∃ gs, Hid (groups (clampN s.size) = gs) := ⟨_, rfl⟩
  rw [hgs.out] at hgl hgb
  have kc := fun w => run_bytes_of_string (P := Try.prog) w 9 22 5 s Try.underlying9 Try.underlying22 Try.underlying5
  go_enter Try.func64, Try.ntmps64
  go_wp2_with fail
  have hb1 : Below w.heap.size w (w.alloc (.cells #[.int .i64 (s.size : Int)] 3)) := (Below.refl _ _).alloc (Nat.le_refl _) _
  refine (putNums_one b off n cap f (s.size : Int) w.heap.size _ (hv.below hb1) (by omega) (by omega) (by omega) (by simp)).mono ?_
  rintro e w2 ⟨g, c, rfl, hg, hgc, hrow, hb2⟩
  rw [hgs.out] at hrow hgc ⊢
  replace hb2 := hb1.trans (hb2.mono (by simp))
  go_wp2_with fail
  obtain ⟨cp, hcp⟩ : ∃ cp, cp = grownCap w2 s.size 0 5 := ⟨_, rfl⟩
  have hge : s.size ≤ cp := by rw [hcp]; exact grownCap_ge _ _ _ _
  rw [← hcp]
  clear hcp kc
  have hb3 : Below w2.heap.size w2 (w2.alloc (.cells (bytesRow s cp) 5 ((bytesRow s cp).size, (bytesRow s cp).size + 1))).drew := ((Below.refl _ _).alloc (Nat.le_refl _) _).drew
  have hvt : View (w2.alloc (.cells (bytesRow s cp) 5 ((bytesRow s cp).size, (bytesRow s cp).size + 1))).drew (some ⟨w2.heap.size, 0, none⟩) s.size cp (fun i => (sl s).getD i 0) := (text_view w2 s cp _ hge).below (Below.refl _ _).drew
  refine (putBytes_any g 0 (n + gs.length) c _ (some ⟨w2.heap.size, 0, none⟩) s.size cp (fun i => (sl s).getD i 0) _ ((hrow.belowAll hb3).view hgc (put_byte n f gs hv.byte hgb.out)) hvt (by intro h; cases h) (by omega)).mono ?_
  rintro e w3 ⟨rfl, hown, hb4⟩
  have el1 : lof (n + gs.length) (fun i => (lof n f ++ gs).getD i 0) = lof n f ++ gs := by
    have := lof_self (lof n f ++ gs)
    rw [List.length_append, lof_len] at this
    exact this
  have el2 : lof s.size (fun i => (sl s).getD i 0) = sl s := by
    have := lof_self (sl s)
    rw [sl_len] at this
    exact this
  rw [el1, el2] at hown
  have hr := row_of_owned hown
  have hgr : w.heap.size ≤ (w2.alloc (.cells (bytesRow s cp) 5 ((bytesRow s cp).size, (bytesRow s cp).size + 1))).drew.heap.size := Nat.le_trans hb2.size hb3.size
  have hbb := hb2.trans ((hb3.mono hb2.size).trans (hb4.mono hgr))
  clear hown hb4 hb3 hvt el1 el2 hrow
  generalize (w2.alloc (.cells (bytesRow s cp) 5 ((bytesRow s cp).size, (bytesRow s cp).size + 1))).drew.heap.size = G at *
  go_wp2
  go_ret
  unfold textL
  rw [hgs.out]
  exact ⟨G, _, rfl, hgr, Nat.le_refl _, hr, hbb⟩
end Go.Proofs.Ytaiinlcdfeboiaa

/-
  The program's PutNode, and the model's.
-/
namespace Go.Proofs.Ytaiinlcdfeboiaa
open Go.RowKit
set_option maxRecDepth 4000

theorem hidN {α : Type} (y : α) : ∃ x, Hid (y = x) := ⟨y, rfl⟩
theorem putText_bri (g c : Nat) (L : List Int) (s : ByteArray) (w : World) (hv : View w (some ⟨g, 0, none⟩) L.length c (fun i => L.getD i 0)) (hn : L.length ≤ 17592186044416) (hs : s.size ≤ 17592186044416) :
    Calls Try.prog 64 #[.slice (some ⟨g, 0, none⟩) L.length c, .string s] w fun e w' => ∃ v, e = .returned v ∧ BR w' w.heap.size v (L ++ oneT s) ∧ Below w.heap.size w w' := by
  refine (putText_impl g 0 L.length c (fun i => L.getD i 0) s w hv hn hs).mono ?_
  rintro e w1 ⟨g2, c2, rfl, hg, hgc, hr, hb⟩
  have hl : (L ++ oneT s).length = L.length + (groups (clampN s.size)).length + s.size := by rw [List.length_append, oneT_len]; omega
  have ht : textL L.length (fun i => L.getD i 0) s = L ++ oneT s := by unfold textL oneT; rw [lof_self, List.append_assoc]
  rw [ht] at hr
  exact ⟨_, rfl, ⟨g2, c2, by rw [hl], hg, by rw [hl]; exact hgc, by rw [hl]; exact hr⟩, hb⟩

theorem apps_byte {L K : List Int} (h1 : ∀ y ∈ L, 0 ≤ y ∧ y ≤ 255) (h2 : ∀ y ∈ K, 0 ≤ y ∧ y ≤ 255) : ∀ y ∈ L ++ K, 0 ≤ y ∧ y ≤ 255 := by
  intro y hy
  rw [List.mem_append] at hy
  rcases hy with hy | hy
  · exact h1 y hy
  · exact h2 y hy

set_option maxHeartbeats 2000000 in
theorem putTexts_any (v : Value) (L : List Int) (B : Nat) (a : Option Addr) (n c : Nat) (f : Nat → ByteArray) (w : World) (hB : B ≤ w.heap.size) (hr : BR w B v L) (hby : ∀ y ∈ L, 0 ≤ y ∧ y ≤ 255) (hl : L.length ≤ 4398046511104) (h : TxV w a n c f) (hn : n ≤ 1048576) (hz : ∀ i, i < n → (f i).size ≤ 1048576) :
    Calls Try.prog 32 #[v, .slice a n c] w fun e w' => ∃ u, e = .returned u ∧ BR w' B u (L ++ textsL f n) ∧ Below w.heap.size w w' := by
  have HBY : Hid (∀ k, k ≤ n → (L ++ textsL f k).length ≤ 8796093022208 ∧ ∀ y ∈ L ++ textsL f k, 0 ≤ y ∧ y ≤ 255) := fun k hk => by
    have h2 := textsL_len hz k hk
    exact ⟨by rw [List.length_append]; omega, apps_byte hby (textsL_byte f k)⟩
  have HZ : Hid (∀ i, i < n → (f i).size ≤ 1048576) := hz
  have HBB : Hid (B ≤ w.heap.size) := hB
  have HR0 : Hid (BR w B v L) := hr
  clear hby hz hB hr
  go_enter Try.func32, Try.ntmps32
  go_wp2
  go_loopg [0, 9] n (fun q b i wr => ∃ k : Nat, k ≤ n ∧ q = n - k ∧ i = .int .i64 k ∧ Below w.heap.size w wr ∧ BR wr B b (L ++ textsL f k))
  case atStart => exact ⟨0, Nat.zero_le _, rfl, rfl, Below.refl _ _, by rw [show textsL f 0 = [] from rfl, List.append_nil]; exact HR0.out⟩
  case round =>
    clear HR0
    obtain ⟨k, hk, rfl, rfl, hB, hr⟩ := hrel
    by_cases hlt : k < n
    · obtain ⟨b1, o1, rfl, hb1, y0⟩ := txv_at (h.below hB) hlt
      obtain ⟨hl2, hby⟩ := HBY.out k (Nat.le_of_lt hlt)
      obtain ⟨g, c2, rfl, hv⟩ := hr.view hby
      have hkz : (k : Int) < (n : Int) := by omega
      have hP := putText_bri g c2 _ (f k) wr hv (by omega) (by have := HZ.out k hlt; omega)
      have HST : Hid (L ++ textsL f (k + 1) = (L ++ textsL f k) ++ oneT (f k)) := by show _ = _; simp [textsL, List.append_assoc]
      have HBk : Hid (Below w.heap.size w wr) := hB
      obtain ⟨p0, hp0⟩ : ∃ x, Hid (f k = x) := ⟨_, rfl⟩
      obtain ⟨Q, hQ⟩ : ∃ Q, Hid (L ++ textsL f k = Q) := ⟨_, rfl⟩
      rw [hp0.out] at y0 HST hP
      rw [hQ.out] at hP HST ⊢
      have HTX : Hid (TxV w (some ⟨b1, o1, none⟩) n c f) := h
      clear hr hv hby hB h
      go_wp2_with fail
      refine hP.mono ?_
      rintro e w3 ⟨v3, rfl, hr3, hb3⟩
      have HR3 : Hid (BR w3 B v3 (L ++ textsL f (k + 1))) := by show BR _ _ _ _; rw [HST.out]; exact hr3.mono (Nat.le_trans HBB.out HBk.out.size)
      have HB3 : Hid (Below w.heap.size w w3) := HBk.out.trans (hb3.mono HBk.out.size)
      clear hP hr3 hb3 HST
      go_wp2
      go_roundg (n - (k + 1))
      case measure => omega
      case rel => exact ⟨k + 1, by omega, rfl, by go_num, HB3.out, HR3.out⟩
    · obtain rfl : k = n := by omega
      have hkz : ¬ (k : Int) < (k : Int) := by omega
      have HB : Hid (Below w.heap.size w wr) := hB
      have HR : Hid (BR wr B u0 (L ++ textsL f k)) := hr
      clear hB hr h
      go_wp2
      go_ret
      exact ⟨_, rfl, HR.out, HB.out⟩

set_option maxHeartbeats 1000000 in
theorem putRest_leaf (v : Value) (L : List Int) (B : Nat) (a b : Option Addr) (n c m d : Nat) (f : Nat → ByteArray) (w : World) (hB : B ≤ w.heap.size) (hr : BR w B v L) (hby : ∀ y ∈ L, 0 ≤ y ∧ y ≤ 255) (hl : L.length ≤ 4398046511104) (h : TxV w b m d f) (hn : m ≤ 1048576) (hz : ∀ i, i < m → (f i).size ≤ 1048576) :
    Calls Try.prog 31 #[v, leafV (.slice a n c) (.slice b m d)] w fun e w' => ∃ u, e = .returned u ∧ BR w' B u (L ++ textsL f m) ∧ Below w.heap.size w w' := by
  have hq := as_leaf_leaf a b n c m d
  have hb0 : Below w.heap.size w (w.alloc (.cells #[.slice a n c, .slice b m d] 87)) := (Below.refl _ _).alloc (Nat.le_refl _) _
  have hS := putTexts_any v L B b m d f _ (Nat.le_trans hB hb0.size) (hr.below hb0) hby hl (h.below hb0) hn hz
  clear h hz hr hby hl
  unfold leafV
  go_enter Try.func31, Try.ntmps31
  go_wp2_with fail
  refine hS.mono ?_
  rintro e w2 ⟨u, rfl, hr2, hb2⟩
  have HB : Hid (Below w.heap.size w w2) := hb0.trans (hb2.mono (by simp))
  have HR : Hid (BR w2 B u (L ++ textsL f m)) := hr2
  clear hS hb2 hb0 hq hr2
  go_wp2
  go_ret
  exact ⟨_, rfl, HR.out, HB.out⟩

set_option maxHeartbeats 1000000 in
theorem putRest_inner (v : Value) (L : List Int) (B : Nat) (a b : Option Addr) (n c m d : Nat) (f : Nat → Int) (w : World) (hB : B ≤ w.heap.size) (hr : BR w B v L) (hby : ∀ y ∈ L, 0 ≤ y ∧ y ≤ 255) (hl : L.length ≤ 4398046511104) (h : NuV w b m d f) (hn : m ≤ 1048577) :
    Calls Try.prog 31 #[v, innerV (.slice a n c) (.slice b m d)] w fun e w' => ∃ u, e = .returned u ∧ BR w' B u (L ++ numL f m) ∧ Below w.heap.size w w' := by
  have hq := as_inner_leaf a b n c m d
  have hq2 := as_inner_inner a b n c m d
  have hq3 := inner_kids a b n c m d
  have hb0 : Below w.heap.size w (w.alloc (.cells #[.slice none 0 0, .slice none 0 0] 87)) := (Below.refl _ _).alloc (Nat.le_refl _) _
  obtain ⟨g, c0, rfl, hv⟩ := (hr.below hb0).view hby
  have hS := putNums_many (some ⟨g, 0, none⟩) L c0 b m d f _ hv (fun h => by cases h) (by omega) (h.below hb0) hn
  clear h hr hby hl hv
  unfold innerV
  go_enter Try.func31, Try.ntmps31
  go_wp2_with fail
  refine hS.mono ?_
  rintro e w2 ⟨u, rfl, hr2, hb2⟩
  have HB : Hid (Below w.heap.size w w2) := hb0.trans (hb2.mono (by simp))
  have HR : Hid (BR w2 B u (L ++ numL f m)) := hr2.mono (Nat.le_trans hB hb0.size)
  clear hS hb2 hb0 hq hr2 hq2 hq3
  go_wp2
  go_ret
  exact ⟨_, rfl, HR.out, HB.out⟩

theorem br_nil (w : World) (B : Nat) (hB : B ≤ w.heap.size) : BR (w.alloc (.cells #[] 5)) B (.slice (some ⟨w.heap.size, 0, none⟩) 0 0) [] := by
  refine ⟨w.heap.size, 0, rfl, hB, Nat.le_refl _, ?_⟩
  exact ⟨#[], by unfold World.alloc; simp only [Array.getElem?_push_size], Nat.zero_le _, fun i hi => absurd hi (Nat.not_lt_zero _)⟩
/-- The bytes that a node is put as. -/
noncomputable def putI (D : PNode) : List Int := if OkI D then bytesN D else []
noncomputable def putS (D : PNode) : List Int := if OkS D then bytesN D else []

set_option maxHeartbeats 2000000 in
theorem specPutNode_any (v : Value) (D : PNode) (w : World) (h : NdView w v D) (hf : NFine D) :
    Calls Try.prog 35 #[v] w fun e w' => ∃ u, e = .returned u ∧ BR w' w.heap.size u (putS D) ∧ Below w.heap.size w w' := by
  obtain ⟨ac, cc, ap, cp, ai, ci, rfl, hc, hp, hi⟩ := h.is
  obtain ⟨W0, hW0⟩ : ∃ W0, Hid (w.alloc (.cells #[.bool D.leaf, .slice ac D.nk cc, .slice ap D.nv cp, .slice ai D.nd ci] 27) = W0) := ⟨_, rfl⟩
  have hb0 : Below w.heap.size w W0 := by rw [← hW0.out]; exact (Below.refl _ _).alloc (Nat.le_refl _) _
  have HX : Hid (∀ W, Below W0.heap.size W0 W → (W.cell? ⟨w.heap.size, 0, none⟩ = some (.bool D.leaf) ∧ W.cell? ⟨w.heap.size, 1, none⟩ = some (.slice ac D.nk cc) ∧ W.cell? ⟨w.heap.size, 2, none⟩ = some (.slice ap D.nv cp) ∧ W.cell? ⟨w.heap.size, 3, none⟩ = some (.slice ai D.nd ci))) := by
    intro W hb
    rw [← hW0.out] at hb
    exact nbox4 (hb.mono (by simp))
  have HBK : Hid (∀ W, Below W0.heap.size W0 W → Below w.heap.size w W) := fun W hb => hb0.trans (hb.mono hb0.size)
  have hN := specNodeOk_any _ D W0 (h.below hb0) hf
  have HPUT : Hid (∀ W : World, Below w.heap.size w W → Calls Try.prog 45 #[.agg #[.bool D.leaf, .slice ac D.nk cc, .slice ap D.nv cp, .slice ai D.nd ci]] W fun e w' => ∃ u, e = .returned u ∧ BR w' W.heap.size u (bytesN D) ∧ Below W.heap.size W w') := fun W hb => l14Put_any _ D W (h.below hb) hf hf.kid
  have HT : Hid (OkS D → putS D = bytesN D) := fun h => if_pos h
  have HF : Hid (¬ OkS D → putS D = []) := fun h => if_neg h
  obtain ⟨P, hP⟩ : ∃ P : Prop, Hid (OkS D = P) := ⟨_, rfl⟩
  simp only [hP.out] at hN HT HF
  obtain ⟨b0, hbv⟩ := hidN D.leaf
  obtain ⟨L, hL⟩ := hidN (putS D)
  obtain ⟨L1, hL1⟩ := hidN (bytesN D)
  simp only [hL.out, hL1.out, hbv.out] at HT HF HPUT HX hN ⊢
  simp only [hbv.out] at hW0
  clear hP hL hL1 h hf hc hp hi hbv
  obtain ⟨x0, x1, x2, x3⟩ := HX.out W0 (Below.refl _ _)
  have hbk0 := HBK.out W0 (Below.refl _ _)
  go_enter Try.func35, Try.ntmps35
  go_wp2_with (first | rw [hW0.out] | fail)
  refine hN.mono ?_
  rintro e w1 ⟨r, rfl, hr, hb1⟩
  have HR : Hid (r = true ↔ P) := hr
  have hbk := HBK.out w1 hb1
  clear hN hr x0 x1 x2 x3 hbk0 hW0 hb0
  cases r with
  | false =>
    have HN : Hid (L = []) := HF.out (fun h => by have := HR.out.2 h; cases this)
    have HB : Hid (BR (w1.alloc (.cells #[] 5)) w.heap.size (.slice (some ⟨w1.heap.size, 0, none⟩) 0 0) L ∧ Below w.heap.size w (w1.alloc (.cells #[] 5))) := by rw [HN.out]; exact ⟨br_nil w1 _ hbk.size, hbk.alloc hbk.size _⟩
    clear HN HR HT HF hbk hb1 HX HBK HPUT
    go_wp2
    go_ret
    exact ⟨_, rfl, HB.out.1, HB.out.2⟩
  | true =>
    have HN : Hid (L = L1) := HT.out (HR.out.1 rfl)
    obtain ⟨x0, x1, x2, x3⟩ := HX.out _ hb1
    have hP := HPUT.out w1 hbk
    clear HR HT HF HX HBK HPUT
    go_wp2_with fail
    refine hP.mono ?_
    rintro e w2 ⟨u, rfl, hr2, hb2⟩
    have HO : Hid (BR w2 w.heap.size u L ∧ Below w.heap.size w w2) := ⟨by rw [HN.out]; exact hr2.mono hbk.size, hbk.trans (hb2.mono hbk.size)⟩
    clear hP hr2 hb2 hbk hb1 x0 x1 x2 x3 HN
    go_wp2
    go_ret
    exact ⟨_, rfl, HO.out.1, HO.out.2⟩

set_option maxHeartbeats 4000000 in
theorem implPutNode_leaf (D : PNode) (hleaf : D.leaf = true) (ac : Option Addr) (cc : Nat) (ap : Option Addr) (cp : Nat) (ai : Option Addr) (ci : Nat) (w : World) (hc : TxV w ac D.nk cc D.key) (hp : TxV w ap D.nv cp D.val) (hi : NuV w ai D.nd ci D.kid) (hf : NFine D) :
    Calls Try.prog 10 #[.agg #[.bool true, .slice ac D.nk cc, .slice ap D.nv cp, .slice ai D.nd ci]] w fun e w' => ∃ u, e = .returned u ∧ BR w' w.heap.size u (putI D) ∧ Below w.heap.size w w' := by
  obtain ⟨W0, hW0⟩ : ∃ W0, Hid (w.alloc (.cells #[.bool true, .slice ac D.nk cc, .slice ap D.nv cp, .slice ai D.nd ci] 27) = W0) := ⟨_, rfl⟩
  have hb0 : Below w.heap.size w W0 := by rw [← hW0.out]; exact (Below.refl _ _).alloc (Nat.le_refl _) _
  have HX : Hid (∀ W, Below W0.heap.size W0 W → (W.cell? ⟨w.heap.size, 0, none⟩ = some (.bool true) ∧ W.cell? ⟨w.heap.size, 1, none⟩ = some (.slice ac D.nk cc) ∧ W.cell? ⟨w.heap.size, 2, none⟩ = some (.slice ap D.nv cp) ∧ W.cell? ⟨w.heap.size, 3, none⟩ = some (.slice ai D.nd ci))) := by
    intro W hb
    rw [← hW0.out] at hb
    exact nbox4 (hb.mono (by simp))
  have HBK : Hid (∀ W, Below W0.heap.size W0 W → Below w.heap.size w W) := fun W hb => hb0.trans (hb.mono hb0.size)
  have hN := implNodeOk_leaf D hleaf ac cc ap cp ai ci W0 (hc.below hb0) (hp.below hb0) (hi.below hb0) hf
  have hK := fun W => kindOf_leaf ac ap ai D.nk cc D.nv cp D.nd ci W
  have hm : ∀ W : World, (method 227 87 (.agg #[.slice ac D.nk cc, .slice ap D.nv cp]) "loop.example/g00322/impl.mark").run Try.prog W = .ok (98, .agg #[.slice ac D.nk cc, .slice ap D.nv cp]) W := fun _ => by kernel_rfl
  have hn : ∀ W : World, (nilAhead 227 87 (.agg #[.slice ac D.nk cc, .slice ap D.nv cp]) "loop.example/g00322/impl.mark").run Try.prog W = .ok (some false) W := fun _ => by kernel_rfl
  have hnum : ∀ (W : World) (a : Option Addr), NuV W a 2 2 (two 1 D.nk) → Calls Try.prog 33 #[.slice none 0 0, .slice a 2 2] W fun e w' => ∃ v, e = .returned v ∧ BR w' W.heap.size v (headL D) ∧ Below W.heap.size W w' := fun W a h => by
    have hh : headL D = [] ++ numL (two 1 D.nk) 2 := by rw [numL_two]; unfold headL; rw [hleaf]; rfl
    rw [hh]
    exact putNums_many none [] 0 a 2 2 _ W ⟨Nat.le_refl _, fun i hi => absurd hi (Nat.not_lt_zero _), fun h => absurd h (Nat.lt_irrefl _)⟩ (fun _ => ⟨rfl, rfl⟩) (by simp) h (by omega)
  have hhl := headL_len D
  have htx : ∀ (W : World) (B : Nat) (v : Value), B ≤ W.heap.size → Below w.heap.size w W → BR W B v (headL D) → Calls Try.prog 32 #[v, .slice ac D.nk cc] W fun e w' => ∃ u, e = .returned u ∧ BR w' B u (headL D ++ textsL D.key D.nk) ∧ Below W.heap.size W w' := fun W B v hB hb hr => putTexts_any v (headL D) B ac D.nk cc D.key W hB hr (headL_byte D) (by omega) (hc.below hb) hf.nk hf.key
  have hkl := textsL_len hf.key D.nk (Nat.le_refl _)
  have hnk := hf.nk
  have hrs : ∀ (W : World) (B : Nat) (v : Value), B ≤ W.heap.size → Below w.heap.size w W → BR W B v (headL D ++ textsL D.key D.nk) → Calls Try.prog 31 #[v, .iface 87 (.agg #[.slice ac D.nk cc, .slice ap D.nv cp])] W fun e w' => ∃ u, e = .returned u ∧ BR w' B u (bytesN D) ∧ Below W.heap.size W w' := fun W B v hB hb hr => by
    have hh : bytesN D = (headL D ++ textsL D.key D.nk) ++ textsL D.val D.nv := by unfold bytesN; rw [hleaf]; rfl
    rw [hh]
    exact putRest_leaf v _ B ac ap D.nk cc D.nv cp D.val W hB hr (apps_byte (headL_byte D) (textsL_byte _ _)) (by rw [List.length_append]; omega) (hp.below hb) hf.nv hf.val
  have HT : Hid (OkI D → putI D = bytesN D) := fun h => if_pos h
  have HF : Hid (¬ OkI D → putI D = []) := fun h => if_neg h
  obtain ⟨P, hP⟩ : ∃ P : Prop, Hid (OkI D = P) := ⟨_, rfl⟩
  simp only [hP.out] at hN HT HF
  obtain ⟨L, hL⟩ := hidN (putI D)
  obtain ⟨L1, hL1⟩ := hidN (bytesN D)
  obtain ⟨L2, hL2⟩ := hidN (headL D ++ textsL D.key D.nk)
  obtain ⟨L3, hL3⟩ := hidN (headL D)
  simp only [hL.out, hL1.out, hL2.out] at HT HF hrs htx ⊢
  simp only [hL3.out] at htx hnum
  clear hP hL hL1 hL2 hL3 hf hc hp hi hleaf hhl hkl
  obtain ⟨x0, x1, x2, x3⟩ := HX.out W0 (Below.refl _ _)
  unfold leafV at hK
  go_enter Try.func10, Try.ntmps10
  go_wp2_with (first | rw [hW0.out] | fail)
  refine hN.mono ?_
  rintro e w1 ⟨r, rfl, hr, hb1⟩
  have HR : Hid (r = true ↔ P) := hr
  have hbk := HBK.out w1 hb1
  clear hN hr x0 x1 x2 x3 hW0 hb0
  cases r with
  | false =>
    have HN : Hid (L = []) := HF.out (fun h => by have := HR.out.2 h; cases this)
    have HB : Hid (BR (w1.alloc (.cells #[] 5)) w.heap.size (.slice (some ⟨w1.heap.size, 0, none⟩) 0 0) L ∧ Below w.heap.size w (w1.alloc (.cells #[] 5))) := by rw [HN.out]; exact ⟨br_nil w1 _ hbk.size, hbk.alloc hbk.size _⟩
    clear HN HR HT HF hbk hb1 HX HBK hrs htx hnum hK hm hn
    go_wp2
    go_ret
    exact ⟨_, rfl, HB.out.1, HB.out.2⟩
  | true =>
    have HN : Hid (L = L1) := HT.out (HR.out.1 rfl)
    obtain ⟨x0, x1, x2, x3⟩ := HX.out _ hb1
    clear HR HT HF
    go_wp2_with fail
    refine (hK w1).mono ?_
    rintro e w3 ⟨rfl, hb3⟩
    have hbw3 : Below W0.heap.size W0 w3 := hb1.trans (hb3.mono hb1.size)
    clear x0 x1 x2 x3
    obtain ⟨-, x1, -, -⟩ := HX.out _ hbw3
    have HWK : Hid (∀ W, Below w3.heap.size w3 W → W.cell? ⟨w.heap.size, 1, none⟩ = some (.slice ac D.nk cc)) := fun W hb => (HX.out W (hbw3.trans (hb.mono hbw3.size))).2.1
    have HMW : Hid (∀ W, Below w3.heap.size w3 W → Below w.heap.size w W) := fun W hb => HBK.out W (hbw3.trans (hb.mono hbw3.size))
    clear hK hb1 hbk hb3 hbw3 HX HBK
    go_wp2_with fail
    go_region_held3 (fun WW => WW.cell? ⟨w.heap.size, 1, none⟩ = some (.slice ac D.nk cc)) (first | assumption | go_keep) (first
      | (go_at_call 98; refine (mark_leaf _ _ _ _ _ _ _).mono ?_; rintro e wm ⟨rfl, hBm⟩; have hbm : Below w3.heap.size w3 wm := Below.trans (by repeat (first | exact Below.refl _ _ | refine Below.drew ?_)) hBm; have hcm : wm.cell? ⟨w.heap.size, 1, none⟩ = some (.slice ac D.nk cc) := HWK.out _ hbm)
      | (go_at_call 33; refine (hnum _ _ (nuv_two _ _ _ _)).mono ?_; rintro e wp ⟨vp, rfl, hrp, hBp⟩; have hbp : Below w3.heap.size w3 wp := hbm.trans ((Below.trans (by repeat (first | exact Below.refl _ _ | refine Below.alloc ?_ (by simp) _ | refine Below.drew ?_)) (hBp.mono (by simp))).mono hbm.size); have hrp2 : BR wp w.heap.size vp L3 := hrp.mono (by have h1 := (HMW.out _ hbm).size; simpa using (Nat.le_succ_of_le h1)); have hcp : wp.cell? ⟨w.heap.size, 1, none⟩ = some (.slice ac D.nk cc) := HWK.out _ hbp)
      | (go_at_call 32; refine (htx _ w.heap.size _ (by first | exact (HMW.out _ hbp).size | simpa using (HMW.out _ hbp).size) (HMW.out _ (by repeat (first | exact hbp | refine Below.drew ?_))) (by first | exact hrp2 | exact hrp2.below (Below.refl _ _).drew)).mono ?_; rintro e wt ⟨vt, rfl, hrt, hBt⟩; have hbt : Below w3.heap.size w3 wt := hbp.trans ((Below.trans (by repeat (first | exact Below.refl _ _ | refine Below.drew ?_)) hBt).mono hbp.size); have hct : wt.cell? ⟨w.heap.size, 1, none⟩ = some (.slice ac D.nk cc) := HWK.out _ hbt)
      | (go_at_call 31; refine (hrs _ w.heap.size _ (by first | exact (HMW.out _ hbt).size | simpa using (HMW.out _ hbt).size) (HMW.out _ (by repeat (first | exact hbt | refine Below.drew ?_))) (by first | exact hrt | exact hrt.below (Below.refl _ _).drew)).mono ?_; rintro e wz ⟨vz, rfl, hrz, hBz⟩; have hbz : Below w3.heap.size w3 wz := hbt.trans ((Below.trans (by repeat (first | exact Below.refl _ _ | refine Below.drew ?_)) hBz).mono hbt.size); have hcz : wz.cell? ⟨w.heap.size, 1, none⟩ = some (.slice ac D.nk cc) := HWK.out _ hbz))
    all_goals
      have HB : Hid (BR wz w.heap.size vz L ∧ Below w.heap.size w wz) := ⟨by rw [HN.out]; exact hrz, HMW.out _ hbz⟩
      clear hcm hcp hct hcz hBm hBp hBt hBz hbm hbp hbt hbz hrz hrt hrp hrp2 HWK HMW hnum htx hrs
      go_wp2
      go_ret
      exact ⟨_, rfl, by first | exact HB.out.1 | exact HB.out.1.below (Below.refl _ _).drew, by first | exact HB.out.2 | exact HB.out.2.drew⟩

set_option maxHeartbeats 4000000 in
theorem implPutNode_inner (D : PNode) (hleaf : D.leaf = false) (ac : Option Addr) (cc : Nat) (ap : Option Addr) (cp : Nat) (ai : Option Addr) (ci : Nat) (w : World) (hc : TxV w ac D.nk cc D.key) (hp : TxV w ap D.nv cp D.val) (hi : NuV w ai D.nd ci D.kid) (hf : NFine D) :
    Calls Try.prog 10 #[.agg #[.bool false, .slice ac D.nk cc, .slice ap D.nv cp, .slice ai D.nd ci]] w fun e w' => ∃ u, e = .returned u ∧ BR w' w.heap.size u (putI D) ∧ Below w.heap.size w w' := by
  obtain ⟨W0, hW0⟩ : ∃ W0, Hid (w.alloc (.cells #[.bool false, .slice ac D.nk cc, .slice ap D.nv cp, .slice ai D.nd ci] 27) = W0) := ⟨_, rfl⟩
  have hb0 : Below w.heap.size w W0 := by rw [← hW0.out]; exact (Below.refl _ _).alloc (Nat.le_refl _) _
  have HX : Hid (∀ W, Below W0.heap.size W0 W → (W.cell? ⟨w.heap.size, 0, none⟩ = some (.bool false) ∧ W.cell? ⟨w.heap.size, 1, none⟩ = some (.slice ac D.nk cc) ∧ W.cell? ⟨w.heap.size, 2, none⟩ = some (.slice ap D.nv cp) ∧ W.cell? ⟨w.heap.size, 3, none⟩ = some (.slice ai D.nd ci))) := by
    intro W hb
    rw [← hW0.out] at hb
    exact nbox4 (hb.mono (by simp))
  have HBK : Hid (∀ W, Below W0.heap.size W0 W → Below w.heap.size w W) := fun W hb => hb0.trans (hb.mono hb0.size)
  have hN := implNodeOk_inner D hleaf ac cc ap cp ai ci W0 (hc.below hb0) (hp.below hb0) (hi.below hb0) hf
  have hK := fun W => kindOf_inner ac ap ai D.nk cc D.nv cp D.nd ci W
  have hm : ∀ W : World, (method 227 89 (.agg #[.slice ac D.nk cc, .slice ai D.nd ci]) "loop.example/g00322/impl.mark").run Try.prog W = .ok (99, .agg #[.slice ac D.nk cc, .slice ai D.nd ci]) W := fun _ => by kernel_rfl
  have hn : ∀ W : World, (nilAhead 227 89 (.agg #[.slice ac D.nk cc, .slice ai D.nd ci]) "loop.example/g00322/impl.mark").run Try.prog W = .ok (some false) W := fun _ => by kernel_rfl
  have hnum : ∀ (W : World) (a : Option Addr), NuV W a 2 2 (two 0 D.nk) → Calls Try.prog 33 #[.slice none 0 0, .slice a 2 2] W fun e w' => ∃ v, e = .returned v ∧ BR w' W.heap.size v (headL D) ∧ Below W.heap.size W w' := fun W a h => by
    have hh : headL D = [] ++ numL (two 0 D.nk) 2 := by rw [numL_two]; unfold headL; rw [hleaf]; rfl
    rw [hh]
    exact putNums_many none [] 0 a 2 2 _ W ⟨Nat.le_refl _, fun i hi => absurd hi (Nat.not_lt_zero _), fun h => absurd h (Nat.lt_irrefl _)⟩ (fun _ => ⟨rfl, rfl⟩) (by simp) h (by omega)
  have hhl := headL_len D
  have htx : ∀ (W : World) (B : Nat) (v : Value), B ≤ W.heap.size → Below w.heap.size w W → BR W B v (headL D) → Calls Try.prog 32 #[v, .slice ac D.nk cc] W fun e w' => ∃ u, e = .returned u ∧ BR w' B u (headL D ++ textsL D.key D.nk) ∧ Below W.heap.size W w' := fun W B v hB hb hr => putTexts_any v (headL D) B ac D.nk cc D.key W hB hr (headL_byte D) (by omega) (hc.below hb) hf.nk hf.key
  have hkl := textsL_len hf.key D.nk (Nat.le_refl _)
  have hnk := hf.nk
  have hrs : ∀ (W : World) (B : Nat) (v : Value), B ≤ W.heap.size → Below w.heap.size w W → BR W B v (headL D ++ textsL D.key D.nk) → Calls Try.prog 31 #[v, .iface 89 (.agg #[.slice ac D.nk cc, .slice ai D.nd ci])] W fun e w' => ∃ u, e = .returned u ∧ BR w' B u (bytesN D) ∧ Below W.heap.size W w' := fun W B v hB hb hr => by
    have hh : bytesN D = (headL D ++ textsL D.key D.nk) ++ numL D.kid D.nd := by unfold bytesN; rw [hleaf]; rfl
    rw [hh]
    exact putRest_inner v _ B ac ai D.nk cc D.nd ci D.kid W hB hr (apps_byte (headL_byte D) (textsL_byte _ _)) (by rw [List.length_append]; omega) (hi.below hb) (by have := hf.nd; omega)
  have HT : Hid (OkI D → putI D = bytesN D) := fun h => if_pos h
  have HF : Hid (¬ OkI D → putI D = []) := fun h => if_neg h
  obtain ⟨P, hP⟩ : ∃ P : Prop, Hid (OkI D = P) := ⟨_, rfl⟩
  simp only [hP.out] at hN HT HF
  obtain ⟨L, hL⟩ := hidN (putI D)
  obtain ⟨L1, hL1⟩ := hidN (bytesN D)
  obtain ⟨L2, hL2⟩ := hidN (headL D ++ textsL D.key D.nk)
  obtain ⟨L3, hL3⟩ := hidN (headL D)
  simp only [hL.out, hL1.out, hL2.out] at HT HF hrs htx ⊢
  simp only [hL3.out] at htx hnum
  clear hP hL hL1 hL2 hL3 hf hc hp hi hleaf hhl hkl
  obtain ⟨x0, x1, x2, x3⟩ := HX.out W0 (Below.refl _ _)
  unfold innerV at hK
  go_enter Try.func10, Try.ntmps10
  go_wp2_with (first | rw [hW0.out] | fail)
  refine hN.mono ?_
  rintro e w1 ⟨r, rfl, hr, hb1⟩
  have HR : Hid (r = true ↔ P) := hr
  have hbk := HBK.out w1 hb1
  clear hN hr x0 x1 x2 x3 hW0 hb0
  cases r with
  | false =>
    have HN : Hid (L = []) := HF.out (fun h => by have := HR.out.2 h; cases this)
    have HB : Hid (BR (w1.alloc (.cells #[] 5)) w.heap.size (.slice (some ⟨w1.heap.size, 0, none⟩) 0 0) L ∧ Below w.heap.size w (w1.alloc (.cells #[] 5))) := by rw [HN.out]; exact ⟨br_nil w1 _ hbk.size, hbk.alloc hbk.size _⟩
    clear HN HR HT HF hbk hb1 HX HBK hrs htx hnum hK hm hn
    go_wp2
    go_ret
    exact ⟨_, rfl, HB.out.1, HB.out.2⟩
  | true =>
    have HN : Hid (L = L1) := HT.out (HR.out.1 rfl)
    obtain ⟨x0, x1, x2, x3⟩ := HX.out _ hb1
    clear HR HT HF
    go_wp2_with fail
    refine (hK w1).mono ?_
    rintro e w3 ⟨rfl, hb3⟩
    have hbw3 : Below W0.heap.size W0 w3 := hb1.trans (hb3.mono hb1.size)
    clear x0 x1 x2 x3
    obtain ⟨-, x1, -, -⟩ := HX.out _ hbw3
    have HWK : Hid (∀ W, Below w3.heap.size w3 W → W.cell? ⟨w.heap.size, 1, none⟩ = some (.slice ac D.nk cc)) := fun W hb => (HX.out W (hbw3.trans (hb.mono hbw3.size))).2.1
    have HMW : Hid (∀ W, Below w3.heap.size w3 W → Below w.heap.size w W) := fun W hb => HBK.out W (hbw3.trans (hb.mono hbw3.size))
    clear hK hb1 hbk hb3 hbw3 HX HBK
    go_wp2_with fail
    go_region_held3 (fun WW => WW.cell? ⟨w.heap.size, 1, none⟩ = some (.slice ac D.nk cc)) (first | assumption | go_keep) (first
      | (go_at_call 99; refine (mark_inner _ _ _ _ _ _ _).mono ?_; rintro e wm ⟨rfl, hBm⟩; have hbm : Below w3.heap.size w3 wm := Below.trans (by repeat (first | exact Below.refl _ _ | refine Below.drew ?_)) hBm; have hcm : wm.cell? ⟨w.heap.size, 1, none⟩ = some (.slice ac D.nk cc) := HWK.out _ hbm)
      | (go_at_call 33; refine (hnum _ _ (nuv_two _ _ _ _)).mono ?_; rintro e wp ⟨vp, rfl, hrp, hBp⟩; have hbp : Below w3.heap.size w3 wp := hbm.trans ((Below.trans (by repeat (first | exact Below.refl _ _ | refine Below.alloc ?_ (by simp) _ | refine Below.drew ?_)) (hBp.mono (by simp))).mono hbm.size); have hrp2 : BR wp w.heap.size vp L3 := hrp.mono (by have h1 := (HMW.out _ hbm).size; simpa using (Nat.le_succ_of_le h1)); have hcp : wp.cell? ⟨w.heap.size, 1, none⟩ = some (.slice ac D.nk cc) := HWK.out _ hbp)
      | (go_at_call 32; refine (htx _ w.heap.size _ (by first | exact (HMW.out _ hbp).size | simpa using (HMW.out _ hbp).size) (HMW.out _ (by repeat (first | exact hbp | refine Below.drew ?_))) (by first | exact hrp2 | exact hrp2.below (Below.refl _ _).drew)).mono ?_; rintro e wt ⟨vt, rfl, hrt, hBt⟩; have hbt : Below w3.heap.size w3 wt := hbp.trans ((Below.trans (by repeat (first | exact Below.refl _ _ | refine Below.drew ?_)) hBt).mono hbp.size); have hct : wt.cell? ⟨w.heap.size, 1, none⟩ = some (.slice ac D.nk cc) := HWK.out _ hbt)
      | (go_at_call 31; refine (hrs _ w.heap.size _ (by first | exact (HMW.out _ hbt).size | simpa using (HMW.out _ hbt).size) (HMW.out _ (by repeat (first | exact hbt | refine Below.drew ?_))) (by first | exact hrt | exact hrt.below (Below.refl _ _).drew)).mono ?_; rintro e wz ⟨vz, rfl, hrz, hBz⟩; have hbz : Below w3.heap.size w3 wz := hbt.trans ((Below.trans (by repeat (first | exact Below.refl _ _ | refine Below.drew ?_)) hBz).mono hbt.size); have hcz : wz.cell? ⟨w.heap.size, 1, none⟩ = some (.slice ac D.nk cc) := HWK.out _ hbz))
    all_goals
      have HB : Hid (BR wz w.heap.size vz L ∧ Below w.heap.size w wz) := ⟨by rw [HN.out]; exact hrz, HMW.out _ hbz⟩
      clear hcm hcp hct hcz hBm hBp hBt hBz hbm hbp hbt hbz hrz hrt hrp hrp2 HWK HMW hnum htx hrs
      go_wp2
      go_ret
      exact ⟨_, rfl, by first | exact HB.out.1 | exact HB.out.1.below (Below.refl _ _).drew, by first | exact HB.out.2 | exact HB.out.2.drew⟩

theorem implPutNode_any (v : Value) (D : PNode) (w : World) (h : NdView w v D) (hf : NFine D) :
    Calls Try.prog 10 #[v] w fun e w' => ∃ u, e = .returned u ∧ BR w' w.heap.size u (putI D) ∧ Below w.heap.size w w' := by
  obtain ⟨ac, cc, ap, cp, ai, ci, rfl, hc, hp, hi⟩ := h.is
  cases hl : D.leaf with
  | true => exact implPutNode_leaf D hl ac cc ap cp ai ci w hc hp hi hf
  | false => exact implPutNode_inner D hl ac cc ap cp ai ci w hc hp hi hf
end Go.Proofs.Ytaiinlcdfeboiaa

/-
  What is read of bytes as a number, plainly: of n bytes (f), from the place p on.
-/
namespace Go.Proofs.Ytaiinlcdfeboiaa

def getU (n : Nat) (f : Nat → Int) (p : Int) : Int × Int × Bool :=
  if p < 0 ∨ (n : Int) ≤ p then (0, 0, false)
  else if f p.toNat < 128 then (f p.toNat, p + 1, true)
  else if n ≤ p.toNat + 1 then (0, 0, false)
  else if f (p.toNat + 1) < 128 then (if f (p.toNat + 1) = 0 then (0, 0, false) else (f p.toNat - 128 + f (p.toNat + 1) * 128, p + 2, true))
  else if n ≤ p.toNat + 2 then (0, 0, false)
  else if f (p.toNat + 2) < 128 then
    (if f (p.toNat + 2) = 0 ∨ 1000000 < f p.toNat - 128 + (f (p.toNat + 1) - 128) * 128 + f (p.toNat + 2) * 16384 then (0, 0, false)
     else (f p.toNat - 128 + (f (p.toNat + 1) - 128) * 128 + f (p.toNat + 2) * 16384, p + 3, true))
  else (0, 0, false)

theorem getU_neg (n : Nat) (f : Nat → Int) (p : Int) (h : p < 0) : getU n f p = (0, 0, false) := by
  unfold getU; rw [if_pos (Or.inl h)]
theorem getU_past (n : Nat) (f : Nat → Int) (i : Nat) (h : n ≤ i) : getU n f (i : Int) = (0, 0, false) := by
  unfold getU; rw [if_pos (Or.inr (by omega))]
section
variable (n : Nat) (f : Nat → Int) (i : Nat)
theorem getU_in (h : i < n) : ¬ ((i : Int) < 0 ∨ (n : Int) ≤ (i : Int)) := by omega
theorem getU_1 (h : i < n) (h1 : f i < 128) : getU n f (i : Int) = (f i, (i : Int) + 1, true) := by
  unfold getU; rw [if_neg (getU_in n i h), Int.toNat_natCast, if_pos h1]
theorem getU_2end (h : i < n) (h1 : 128 ≤ f i) (h2 : n ≤ i + 1) : getU n f (i : Int) = (0, 0, false) := by
  unfold getU; rw [if_neg (getU_in n i h), Int.toNat_natCast, if_neg (by omega), if_pos h2]
theorem getU_2zero (h : i + 1 < n) (h1 : 128 ≤ f i) (h2 : f (i + 1) = 0) : getU n f (i : Int) = (0, 0, false) := by
  unfold getU; rw [if_neg (getU_in n i (by omega)), Int.toNat_natCast, if_neg (by omega), if_neg (by omega), if_pos (by omega), if_pos h2]
theorem getU_2 (h : i + 1 < n) (h1 : 128 ≤ f i) (h2 : f (i + 1) < 128) (h3 : f (i + 1) ≠ 0) : getU n f (i : Int) = (f i - 128 + f (i + 1) * 128, (i : Int) + 2, true) := by
  unfold getU; rw [if_neg (getU_in n i (by omega)), Int.toNat_natCast, if_neg (by omega), if_neg (by omega), if_pos (by omega), if_neg h3]
theorem getU_3end (h : i + 1 < n) (h1 : 128 ≤ f i) (h2 : 128 ≤ f (i + 1)) (h3 : n ≤ i + 2) : getU n f (i : Int) = (0, 0, false) := by
  unfold getU; rw [if_neg (getU_in n i (by omega)), Int.toNat_natCast, if_neg (by omega), if_neg (by omega), if_neg (by omega), if_pos h3]
theorem getU_3no (h : i + 2 < n) (h1 : 128 ≤ f i) (h2 : 128 ≤ f (i + 1)) (h3 : f (i + 2) < 128) (h4 : f (i + 2) = 0 ∨ 1000000 < f i - 128 + (f (i + 1) - 128) * 128 + f (i + 2) * 16384) : getU n f (i : Int) = (0, 0, false) := by
  unfold getU; rw [if_neg (getU_in n i (by omega)), Int.toNat_natCast, if_neg (by omega), if_neg (by omega), if_neg (by omega), if_neg (by omega), if_pos h3, if_pos h4]
theorem getU_3 (h : i + 2 < n) (h1 : 128 ≤ f i) (h2 : 128 ≤ f (i + 1)) (h3 : f (i + 2) < 128) (h4 : ¬ (f (i + 2) = 0 ∨ 1000000 < f i - 128 + (f (i + 1) - 128) * 128 + f (i + 2) * 16384)) :
    getU n f (i : Int) = (f i - 128 + (f (i + 1) - 128) * 128 + f (i + 2) * 16384, (i : Int) + 3, true) := by
  unfold getU; rw [if_neg (getU_in n i (by omega)), Int.toNat_natCast, if_neg (by omega), if_neg (by omega), if_neg (by omega), if_neg (by omega), if_pos h3, if_neg h4]
theorem getU_long (h : i + 2 < n) (h1 : 128 ≤ f i) (h2 : 128 ≤ f (i + 1)) (h3 : 128 ≤ f (i + 2)) : getU n f (i : Int) = (0, 0, false) := by
  unfold getU; rw [if_neg (getU_in n i (by omega)), Int.toNat_natCast, if_neg (by omega), if_neg (by omega), if_neg (by omega), if_neg (by omega), if_neg (by omega)]
end
end Go.Proofs.Ytaiinlcdfeboiaa

/-
  What is read as a text, plainly.
-/
namespace Go.Proofs.Ytaiinlcdfeboiaa
open Go.RowKit
set_option maxRecDepth 4000

theorem getU_bd {n : Nat} {f : Nat → Int} {p a q : Int} (hf : ∀ i, i < n → 0 ≤ f i ∧ f i ≤ 255) (h : getU n f p = (a, q, true)) : 0 ≤ a ∧ a ≤ 1000000 ∧ 0 ≤ q ∧ q ≤ n := by
  unfold getU at h
  by_cases h0 : p < 0 ∨ (n : Int) ≤ p
  · rw [if_pos h0] at h; cases h
  rw [if_neg h0] at h
  have b0 := hf p.toNat (by omega)
  by_cases h1 : f p.toNat < 128
  · rw [if_pos h1] at h; cases h; omega
  rw [if_neg h1] at h
  by_cases h2 : n ≤ p.toNat + 1
  · rw [if_pos h2] at h; cases h
  rw [if_neg h2] at h
  have b1 := hf (p.toNat + 1) (by omega)
  by_cases h3 : f (p.toNat + 1) < 128
  · rw [if_pos h3] at h
    by_cases h4 : f (p.toNat + 1) = 0
    · rw [if_pos h4] at h; cases h
    · rw [if_neg h4] at h; cases h; omega
  rw [if_neg h3] at h
  by_cases h5 : n ≤ p.toNat + 2
  · rw [if_pos h5] at h; cases h
  rw [if_neg h5] at h
  have b2 := hf (p.toNat + 2) (by omega)
  by_cases h6 : f (p.toNat + 2) < 128
  · rw [if_pos h6] at h
    by_cases h7 : f (p.toNat + 2) = 0 ∨ 1000000 < f p.toNat - 128 + (f (p.toNat + 1) - 128) * 128 + f (p.toNat + 2) * 16384
    · rw [if_pos h7] at h; cases h
    · rw [if_neg h7] at h; cases h; omega
  rw [if_neg h6] at h; cases h

/-- What is read as a text. -/
def getText (n : Nat) (f : Nat → Int) (p : Int) : ByteArray × Int × Bool :=
  if (getU n f p).2.2 = true ∧ (getU n f p).1 ≤ n - (getU n f p).2.1 then (strOfNums (lof (getU n f p).1.toNat (fun i => f ((getU n f p).2.1.toNat + i))), (getU n f p).2.1 + (getU n f p).1, true) else (strOfNums [], 0, false)

theorem View.cut {w : World} {b off n cap m k : Nat} {f : Nat → Int} (h : View w (some ⟨b, off, none⟩) n cap f) (hm : k + m ≤ n) : View w (some ⟨b, off + k, none⟩) m (cap - k) (fun i => f (k + i)) := by
  have := h.le
  refine ⟨by omega, fun i hi => h.byte (k + i) (by omega), fun h0 => ?_⟩
  obtain ⟨b', off', e, hb, hc⟩ := h.cells (by omega)
  simp only [Option.some.injEq, Addr.mk.injEq, and_true] at e
  obtain ⟨rfl, rfl⟩ := e
  exact ⟨b, off + k, rfl, hb, fun i hi => by rw [Nat.add_assoc]; exact hc (k + i) (by omega)⟩

theorem retT {s s' : ByteArray} {b b' : Int} {c c' : Bool} (h1 : s = s') (h2 : b = b') (h3 : c = c') :
    Ending.returned (.tuple #[.string s, .int .i64 b, .bool c]) = .returned (.tuple #[.string s', .int .i64 b', .bool c']) := by rw [h1, h2, h3]

end Go.Proofs.Ytaiinlcdfeboiaa

/-
  A text and its bytes as numbers, there and back.
-/
namespace Go.Proofs.Ytaiinlcdfeboiaa
open Go.RowKit
set_option maxRecDepth 4000

theorem strOfNums_sl (s : ByteArray) : strOfNums (sl s) = s := by
  apply ByteArray.ext
  apply Array.ext'
  show ((sl s).map fun n => UInt8.ofNat n.toNat) = s.data.toList
  unfold sl
  rw [List.map_map]
  conv => rhs; rw [← List.map_id s.data.toList]
  apply List.map_congr_left
  intro b _
  simp
theorem sl_strOfNums {t : List Int} (h : ∀ y ∈ t, 0 ≤ y ∧ y ≤ 255) : sl (strOfNums t) = t :=
  strOfNums_inj (sl_byte _) h (strOfNums_sl _)
end Go.Proofs.Ytaiinlcdfeboiaa

/-
  What was put comes back, plainly: a number of its groups, a text of its bytes; cut by one byte the number does not.
-/
namespace Go.Proofs.Ytaiinlcdfeboiaa
open Go.RowKit
set_option maxRecDepth 4000

theorem getD_left (l k : List Int) (i : Nat) (h : i < l.length) : (l ++ k).getD i 0 = l.getD i 0 := by
  rw [List.getD_eq_getElem?_getD, List.getD_eq_getElem?_getD, List.getElem?_append_left h]
theorem getD_right (l k : List Int) (i : Nat) : (l ++ k).getD (l.length + i) 0 = k.getD i 0 := by
  rw [List.getD_eq_getElem?_getD, List.getD_eq_getElem?_getD, List.getElem?_append_right (by omega)]
  congr 2
  omega

/-- A number that lies as its groups from n on is read there. -/
theorem getU_put (n N : Nat) (F : Nat → Int) (x : Int) (h0 : 0 ≤ x) (h1 : x ≤ 1000000) (hF : ∀ i, i < (groups x).length → F (n + i) = (groups x).getD i 0) (hN : n + (groups x).length ≤ N) :
    getU N F (n : Int) = (x, (n : Int) + (groups x).length, true) := by
  by_cases a : x < 128
  · have e : groups x = [x] := by unfold groups; rw [if_pos a]
    rw [e] at hF hN ⊢
    have f0 : F n = x := by have := hF 0 (by simp); simpa using this
    simp only [List.length_cons, List.length_nil] at hN
    rw [getU_1 N F n (by omega) (by omega), f0]
    rfl
  · by_cases b : x < 16384
    · have e : groups x = [x % 128 + 128, x / 128] := by unfold groups; rw [if_neg a, if_pos b]
      rw [e] at hF hN ⊢
      have f0 : F n = x % 128 + 128 := by have := hF 0 (by simp); simpa using this
      have f1 : F (n + 1) = x / 128 := by have := hF 1 (by simp); simpa using this
      simp only [List.length_cons, List.length_nil] at hN
      rw [getU_2 N F n (by omega) (by omega) (by omega) (by omega), f0, f1]
      have : x % 128 + 128 - 128 + x / 128 * 128 = x := by omega
      rw [this]
      rfl
    · have e : groups x = [x % 128 + 128, x / 128 % 128 + 128, x / 16384] := by unfold groups; rw [if_neg a, if_neg b]
      rw [e] at hF hN ⊢
      have f0 : F n = x % 128 + 128 := by have := hF 0 (by simp); simpa using this
      have f1 : F (n + 1) = x / 128 % 128 + 128 := by have := hF 1 (by simp); simpa using this
      have f2 : F (n + 2) = x / 16384 := by have := hF 2 (by simp); simpa using this
      simp only [List.length_cons, List.length_nil] at hN
      have v : F n - 128 + (F (n + 1) - 128) * 128 + F (n + 2) * 16384 = x := by rw [f0, f1, f2]; omega
      rw [getU_3 N F n (by omega) (by omega) (by omega) (by omega) (by omega), v]
      rfl

theorem getU_cutoff (n N : Nat) (F : Nat → Int) (x : Int) (_h0 : 0 ≤ x) (hF : ∀ i, i < (groups x).length → F (n + i) = (groups x).getD i 0) (hN : n + (groups x).length = N + 1) :
    getU N F (n : Int) = (0, 0, false) := by
  by_cases a : x < 128
  · have e : groups x = [x] := by unfold groups; rw [if_pos a]
    rw [e] at hN
    simp only [List.length_cons, List.length_nil] at hN
    exact getU_past N F n (by omega)
  · by_cases b : x < 16384
    · have e : groups x = [x % 128 + 128, x / 128] := by unfold groups; rw [if_neg a, if_pos b]
      rw [e] at hF hN
      have f0 : F n = x % 128 + 128 := by have := hF 0 (by simp); simpa using this
      simp only [List.length_cons, List.length_nil] at hN
      exact getU_2end N F n (by omega) (by omega) (by omega)
    · have e : groups x = [x % 128 + 128, x / 128 % 128 + 128, x / 16384] := by unfold groups; rw [if_neg a, if_neg b]
      rw [e] at hF hN
      have f0 : F n = x % 128 + 128 := by have := hF 0 (by simp); simpa using this
      have f1 : F (n + 1) = x / 128 % 128 + 128 := by have := hF 1 (by simp); simpa using this
      simp only [List.length_cons, List.length_nil] at hN
      exact getU_3end N F n (by omega) (by omega) (by omega) (by omega)

/-- A text that was put comes back. -/
theorem getText_put (n : Nat) (f : Nat → Int) (s : ByteArray) (hs : s.size ≤ 1000000) :
    getText (n + (groups (clampN s.size)).length + s.size) (fun i => (textL n f s).getD i 0) (n : Int) = (s, ((n + (groups (clampN s.size)).length + s.size : Nat) : Int), true) := by
  have hc : clampN s.size = s.size := by unfold clampN; rw [if_neg (by omega), if_neg (by omega)]
  rw [hc]
  have e1 : ∀ i, i < (groups s.size).length → (textL n f s).getD (n + i) 0 = (groups s.size).getD i 0 := by
    intro i hi
    unfold textL
    rw [hc, List.append_assoc]
    have := getD_right (lof n f) (groups s.size ++ sl s) i
    rw [lof_len] at this
    rw [this, getD_left _ _ _ hi]
  have hu := getU_put n (n + (groups s.size).length + s.size) (fun i => (textL n f s).getD i 0) s.size (by omega) (by omega) e1 (by omega)
  have e2 : ∀ i, (textL n f s).getD (n + (groups s.size).length + i) 0 = (sl s).getD i 0 := by
    intro i
    unfold textL
    rw [hc]
    have := getD_right (lof n f ++ groups s.size) (sl s) i
    rw [List.length_append, lof_len] at this
    exact this
  unfold getText
  rw [hu]
  have et : ((n : Int) + ((groups s.size).length : Int)).toNat = n + (groups s.size).length := by omega
  rw [if_pos ⟨rfl, by show (s.size : Int) ≤ _; push_cast; omega⟩]
  simp only [Int.toNat_natCast, et]
  have el : lof s.size (fun i => (textL n f s).getD (n + (groups s.size).length + i) 0) = sl s := by
    have h1 := lof_self (sl s)
    rw [sl_len] at h1
    rw [← h1]
    unfold lof
    apply List.map_congr_left
    intro i _
    exact e2 i
  rw [el, strOfNums_sl]
  simp only [Prod.mk.injEq, true_and, and_true]
  push_cast
  omega
end Go.Proofs.Ytaiinlcdfeboiaa

/-
  Lists of a function's first values are alike just where it is.
-/
namespace Go.Proofs.Ytaiinlcdfeboiaa
open Go.RowKit
set_option maxRecDepth 4000

theorem lof_eq {n : Nat} {f g : Nat → Int} : lof n f = lof n g ↔ ∀ i, i < n → f i = g i := by
  constructor
  · intro h i hi
    rw [← lof_get n f i hi, ← lof_get n g i hi, h]
  · intro h
    unfold lof
    apply List.map_congr_left
    intro i hi
    exact h i (List.mem_range.1 hi)
end Go.Proofs.Ytaiinlcdfeboiaa

/-
  What stands at a place of bytes, what is read there: numbers and texts.
-/
namespace Go.Proofs.Ytaiinlcdfeboiaa
open Go.RowKit
set_option maxRecDepth 4000

/-- The bytes L stand at place i of the N bytes F. -/
structure AtF (N : Nat) (F : Nat → Int) (i : Nat) (L : List Int) : Prop where
  le : i + L.length ≤ N
  at' : ∀ j, j < L.length → F (i + j) = L.getD j 0
theorem AtF.left {N : Nat} {F : Nat → Int} {i : Nat} {L K : List Int} (h : AtF N F i (L ++ K)) : AtF N F i L :=
  ⟨by have := h.le; rw [List.length_append] at this; omega, fun j hj => by rw [h.at' j (by rw [List.length_append]; omega), getD_left _ _ _ hj]⟩
theorem AtF.right {N : Nat} {F : Nat → Int} {i : Nat} {L K : List Int} (h : AtF N F i (L ++ K)) : AtF N F (i + L.length) K :=
  ⟨by have := h.le; rw [List.length_append] at this; omega, fun j hj => by rw [Nat.add_assoc, h.at' (L.length + j) (by rw [List.length_append]; omega), getD_right]⟩
theorem AtF.append {N : Nat} {F : Nat → Int} {i : Nat} {L K : List Int} (h : AtF N F i L) (k : AtF N F (i + L.length) K) : AtF N F i (L ++ K) :=
  ⟨by have := k.le; rw [List.length_append]; omega, fun j hj => by
    rw [List.length_append] at hj
    by_cases e : j < L.length
    · rw [h.at' j e, getD_left _ _ _ e]
    · obtain ⟨m, rfl⟩ : ∃ m, j = L.length + m := ⟨j - L.length, by omega⟩
      rw [← Nat.add_assoc, k.at' m (by omega), getD_right]⟩
theorem AtF.nil {N : Nat} {F : Nat → Int} {i : Nat} (h : i ≤ N) : AtF N F i [] := ⟨by simpa using h, fun j hj => absurd hj (Nat.not_lt_zero _)⟩
/-- It is these bytes. -/
theorem AtF.lof {N : Nat} {F : Nat → Int} {i : Nat} {L : List Int} (h : AtF N F i L) : lof L.length (fun j => F (i + j)) = L := by
  rw [← lof_self L]
  conv => lhs; rw [show (Go.Proofs.Ytaiinlcdfeboiaa.lof L.length fun i => L.getD i 0).length = L.length by rw [lof_len]]
  rw [lof_eq]
  exact fun j hj => h.at' j hj
theorem AtF.ofLof {N : Nat} {F : Nat → Int} {i : Nat} {L : List Int} (hle : i + L.length ≤ N) (h : L = Go.Proofs.Ytaiinlcdfeboiaa.lof L.length (fun j => F (i + j))) : AtF N F i L :=
  ⟨hle, fun j hj => by
    conv => rhs; rw [h]
    rw [lof_get _ _ _ hj]⟩

theorem getU_at {N : Nat} {F : Nat → Int} {i : Nat} {x : Int} (h0 : 0 ≤ x) (h1 : x ≤ 1000000) (h : AtF N F i (groups x)) : getU N F (i : Int) = (x, (i : Int) + ((groups x).length : Int), true) :=
  getU_put i N F x h0 h1 h.at' h.le
theorem getU_read {N : Nat} {F : Nat → Int} {p a q : Int} (hb : ∀ i, i < N → 0 ≤ F i ∧ F i ≤ 255) (h : getU N F p = (a, q, true)) : ∃ i : Nat, p = (i : Int) ∧ AtF N F i (groups a) ∧ q = (i : Int) + ((groups a).length : Int) ∧ 0 ≤ a ∧ a ≤ 1000000 := by
  obtain ⟨ha0, ha1, -, -⟩ := getU_bd hb h
  by_cases h1 : p < 0 ∨ (N : Int) ≤ p
  · unfold getU at h; rw [if_pos h1] at h; cases h
  obtain ⟨i, rfl⟩ := Int.eq_ofNat_of_zero_le (a := p) (by omega)
  have hin : i < N := by omega
  have b0 := hb i hin
  refine ⟨i, rfl, ?_⟩
  by_cases c1 : F i < 128
  · rw [getU_1 N F i hin c1] at h
    cases h
    have e : groups (F i) = [F i] := groups_last _ c1
    rw [e]
    refine ⟨⟨by simp; omega, fun j hj => ?_⟩, rfl, ha0, ha1⟩
    match j, hj with
    | 0, _ => rfl
  by_cases c2 : N ≤ i + 1
  · rw [getU_2end N F i hin (by omega) c2] at h; cases h
  have b1 := hb (i + 1) (by omega)
  by_cases c3 : F (i + 1) < 128
  · by_cases c4 : F (i + 1) = 0
    · rw [getU_2zero N F i (by omega) (by omega) c4] at h; cases h
    rw [getU_2 N F i (by omega) (by omega) c3 c4] at h
    cases h
    have e : groups (F i - 128 + F (i + 1) * 128) = [F i, F (i + 1)] := by
      unfold groups
      rw [if_neg (by omega), if_pos (by omega)]
      congr 1
      · omega
      · congr 1; omega
    rw [e]
    refine ⟨⟨by simp; omega, fun j hj => ?_⟩, rfl, ha0, ha1⟩
    match j, hj with
    | 0, _ => rfl
    | 1, _ => rfl
  by_cases c5 : N ≤ i + 2
  · rw [getU_3end N F i (by omega) (by omega) (by omega) c5] at h; cases h
  have b2 := hb (i + 2) (by omega)
  by_cases c6 : F (i + 2) < 128
  · by_cases c7 : F (i + 2) = 0 ∨ 1000000 < F i - 128 + (F (i + 1) - 128) * 128 + F (i + 2) * 16384
    · rw [getU_3no N F i (by omega) (by omega) (by omega) c6 c7] at h; cases h
    rw [getU_3 N F i (by omega) (by omega) (by omega) c6 c7] at h
    cases h
    have e : groups (F i - 128 + (F (i + 1) - 128) * 128 + F (i + 2) * 16384) = [F i, F (i + 1), F (i + 2)] := by
      unfold groups
      rw [if_neg (by omega), if_neg (by omega)]
      congr 1
      · omega
      · congr 1
        · omega
        · congr 1; omega
    rw [e]
    refine ⟨⟨by simp; omega, fun j hj => ?_⟩, rfl, ha0, ha1⟩
    match j, hj with
    | 0, _ => rfl
    | 1, _ => rfl
    | 2, _ => rfl
  · rw [getU_long N F i (by omega) (by omega) (by omega) (by omega)] at h; cases h

/-- A text as bytes. -/
def txtL (s : ByteArray) : List Int := groups s.size ++ sl s
theorem getText_at {N : Nat} {F : Nat → Int} {i : Nat} {s : ByteArray} (hs : s.size ≤ 1000000) (h : AtF N F i (txtL s)) : getText N F (i : Int) = (s, (i : Int) + ((txtL s).length : Int), true) := by
  have h1 := getU_at (x := s.size) (by omega) (by omega) h.left
  have h2 := h.right
  have hl2 := h2.le
  rw [sl_len] at hl2
  unfold getText
  rw [h1]
  simp only
  rw [if_pos ⟨trivial, by omega⟩]
  have e : (i : Int) + ((groups s.size).length : Int) = ((i + (groups (s.size : Int)).length : Nat) : Int) := by push_cast; rfl
  rw [e]
  simp only [Int.toNat_natCast]
  have e2 := h2.lof
  rw [sl_len] at e2
  rw [e2, strOfNums_sl]
  refine Prod.ext rfl (Prod.ext ?_ rfl)
  show _ = _
  unfold txtL
  rw [List.length_append, sl_len]
  push_cast
  omega
theorem getText_read {N : Nat} {F : Nat → Int} {p q : Int} {s : ByteArray} (hb : ∀ i, i < N → 0 ≤ F i ∧ F i ≤ 255) (h : getText N F p = (s, q, true)) : ∃ i : Nat, p = (i : Int) ∧ AtF N F i (txtL s) ∧ q = (i : Int) + ((txtL s).length : Int) ∧ s.size ≤ 1000000 := by
  unfold getText at h
  by_cases c : (getU N F p).2.2 = true ∧ (getU N F p).1 ≤ N - (getU N F p).2.1
  · rw [if_pos c] at h
    obtain ⟨a, q1, ok, hu⟩ : ∃ a q1 ok, getU N F p = (a, q1, ok) := ⟨_, _, _, rfl⟩
    rw [hu] at c h
    simp only at c h
    obtain ⟨rfl, hle⟩ := c
    obtain ⟨i, rfl, hA, rfl, h0, h1⟩ := getU_read hb hu
    obtain ⟨A, rfl⟩ := Int.eq_ofNat_of_zero_le h0
    have e : (i : Int) + ((groups (A : Int)).length : Int) = ((i + (groups (A : Int)).length : Nat) : Int) := by push_cast; rfl
    rw [e] at h hle
    simp only [Int.toNat_natCast, Prod.mk.injEq, and_true] at h
    obtain ⟨hs, hq⟩ := h
    have hbl : ∀ y ∈ Go.Proofs.Ytaiinlcdfeboiaa.lof A (fun j => F (i + (groups (A : Int)).length + j)), 0 ≤ y ∧ y ≤ 255 := by
      intro y hy
      obtain ⟨j, hj, rfl⟩ := List.mem_map.1 hy
      exact hb _ (by have := List.mem_range.1 hj; omega)
    have hsl : sl s = Go.Proofs.Ytaiinlcdfeboiaa.lof A (fun j => F (i + (groups (A : Int)).length + j)) := by
      rw [← hs]; exact sl_strOfNums hbl
    have hsz : s.size = A := by rw [← sl_len, hsl, lof_len]
    refine ⟨i, rfl, ?_, ?_, by omega⟩
    · unfold txtL
      rw [hsz]
      refine hA.append ⟨by rw [sl_len, hsz]; omega, fun j hj => ?_⟩
      rw [sl_len, hsz] at hj
      rw [hsl, lof_get _ _ _ hj]
    · rw [← hq]
      unfold txtL
      rw [List.length_append, sl_len, hsz]
      push_cast
      omega
  · rw [if_neg c] at h
    simp at h
end Go.Proofs.Ytaiinlcdfeboiaa

