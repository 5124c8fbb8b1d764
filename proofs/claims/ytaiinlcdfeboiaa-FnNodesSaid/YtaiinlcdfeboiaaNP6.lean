/-
  Together: NodeDN, NodeChild, NodeRisePlain, TextPlain, NumsL, NodeBytes, NodeRight, NodeAscI, NodeLongI, PutBytes, PutBOpt, NodeNums, TwoNums, NodeKind
-/
import Derived.Test.YtaiinlcdfeboiaaNP5
import Derived.Test.YtaiinlcdfeboiaaNP1
import Derived.Deep.LoopGhost
import Derived.Lib.AppendStr
import Derived.Test.YtaiinlcdfeboiaaProg
import Derived.WalkSpells
/-
  A node of a drawn kind that reads.
-/
namespace Go.Proofs.Ytaiinlcdfeboiaa
open Go.RowKit
set_option maxRecDepth 4000

/-- A node of a drawn kind reads. -/
structure DN (W : World) (v : Value) (L : NL) : Prop where
  is : ∃ kv vv dv, v = .agg #[.bool L.leaf, kv, vv, dv] ∧ RV3 W kv vv dv L
theorem DN.view {W : World} {v : Value} {L : NL} (h : DN W v L) : NdView W v L.pn := by
  obtain ⟨kv, vv, dv, e, hR⟩ := h.is
  subst e
  exact hR.view
theorem DN.below {W W' : World} {v : Value} {L : NL} (h : DN W v L) (hb : Below W.heap.size W W') : DN W' v L := by
  obtain ⟨kv, vv, dv, e, hR⟩ := h.is
  exact ⟨kv, vv, dv, e, hR.below hb⟩
theorem but_below {g B : Nat} {w w1 w2 : World} (h : Below B w w1) (hb : But g w1 w2) (hg : B ≤ g) (hs : B ≤ w1.heap.size) : Below B w w2 := h.trans (hb.below hg hs)

end Go.Proofs.Ytaiinlcdfeboiaa

/-
  How many keys of a node are no greater than a key: the model's and the program's.
-/
namespace Go.Proofs.Ytaiinlcdfeboiaa
open Go.RowKit
set_option maxRecDepth 4000

/-- A text that is no greater than another. -/
def leT (a b : ByteArray) : Bool := Op.bytesLess a.toList b.toList || a.toList == b.toList
/-- How many of the first k are no greater. -/
def cntLe (f : Nat → ByteArray) (s : ByteArray) : Nat → Nat
  | 0 => 0
  | k + 1 => cntLe f s k + (if leT (f k) s then 1 else 0)
theorem cntLe_le (f : Nat → ByteArray) (s : ByteArray) : ∀ k, cntLe f s k ≤ k
  | 0 => Nat.le_refl _
  | k + 1 => by have := cntLe_le f s k; simp only [cntLe]; split <;> omega
theorem leq_str (a b : ByteArray) (w : World) : (binOp .leq 9 (.string a) (.string b)).run Try.prog w = .ok (.bool (leT a b)) w := by
  simp [go_sem, binOp, Op.stringOp, leT]

set_option maxHeartbeats 2000000 in
theorem specChild_any (v : Value) (D : PNode) (s : ByteArray) (w : World) (h : NdView w v D) (hf : NFine D) :
    Calls Try.prog 23 #[v, .string s] w fun e w' => e = .returned (.int .i64 (cntLe D.key s D.nk)) ∧ Below w.heap.size w w' := by
  obtain ⟨ac, cc, ap, cp, ai, ci, rfl, hc, -, -⟩ := h.is
  have hnk := hf.nk
  clear h hf
  have hB0 := nbox_start w (.cells #[.bool D.leaf, .slice ac D.nk cc, .slice ap D.nv cp, .slice ai D.nd ci] 27)
  go_enter Try.func23, Try.ntmps23
  go_wp2
  go_loopg [5, 6] D.nk (fun q c i wr => ∃ k : Nat, k ≤ D.nk ∧ q = D.nk - k ∧ c = .int .i64 (cntLe D.key s k) ∧ i = .int .i64 k ∧ Below (w.heap.size + 1) (w.alloc (.cells #[.bool D.leaf, .slice ac D.nk cc, .slice ap D.nv cp, .slice ai D.nd ci] 27)) wr)
  case atStart => exact ⟨0, Nat.zero_le _, rfl, rfl, rfl, hB0⟩
  case round =>
    clear hB0
    obtain ⟨k, hk, rfl, rfl, rfl, hB⟩ := hrel
    obtain ⟨x0, x1, x2, x3⟩ := nbox4 hB
    have hBw := (nbox_below hB).1
    by_cases hlt : k < D.nk
    · obtain ⟨b1, o1, rfl, hb1, y0⟩ := txv_at (hc.below hBw) hlt
      have hkz : (k : Int) < (D.nk : Int) := by omega
      have hle := cntLe_le D.key s k
      have HS : Hid ((cntLe D.key s (k + 1) : Int) = cntLe D.key s k + (if leT (D.key k) s then 1 else 0)) := by
        show _ = _
        simp only [cntLe]; split <;> simp
      have hL := fun W => leq_str (D.key k) s W
      obtain ⟨p0, hp0⟩ : ∃ x, Hid (D.key k = x) := ⟨_, rfl⟩
      obtain ⟨n0, hn0⟩ : ∃ x, Hid (cntLe D.key s k = x) := ⟨_, rfl⟩
      simp only [hp0.out] at hL
      rw [hp0.out] at y0
      rw [hp0.out, hn0.out] at HS
      rw [hn0.out] at hle ⊢
      have HB : Hid (Below (w.heap.size + 1) (w.alloc (.cells #[.bool D.leaf, .slice (some ⟨b1, o1, none⟩) D.nk cc, .slice ap D.nv cp, .slice ai D.nd ci] 27)) wr) := hB
      clear hB hBw hc
      cases hb : leT p0 s
      · rw [hb] at HS
        simp only [hb] at hL
        go_wp2
        go_roundg (D.nk - (k + 1))
        case measure => omega
        case rel => exact ⟨k + 1, by omega, rfl, by rw [HS.out]; simp, by go_num, HB.out⟩
      · rw [hb] at HS
        simp only [hb] at hL
        go_wp2
        go_roundg (D.nk - (k + 1))
        case measure => omega
        case rel => exact ⟨k + 1, by omega, rfl, by rw [HS.out]; go_num, by go_num, HB.out⟩
    · obtain rfl : k = D.nk := by omega
      have hkz : ¬ (D.nk : Int) < (D.nk : Int) := by omega
      clear hc hB
      go_wp2
      go_ret
      exact ⟨rfl, hBw⟩

set_option maxHeartbeats 2000000 in
theorem implChild_any (v : Value) (D : PNode) (s : ByteArray) (w : World) (h : NdView w v D) (hf : NFine D) :
    Calls Try.prog 21 #[v, .string s] w fun e w' => e = .returned (.int .i64 (cntLe D.key s D.nk)) ∧ Below w.heap.size w w' := by
  obtain ⟨ac, cc, ap, cp, ai, ci, rfl, hc, -, -⟩ := h.is
  have hnk := hf.nk
  clear h hf
  have hB0 := nbox_start w (.cells #[.bool D.leaf, .slice ac D.nk cc, .slice ap D.nv cp, .slice ai D.nd ci] 27)
  go_enter Try.func21, Try.ntmps21
  go_wp2
  go_loopg [5, 11] D.nk (fun q c i wr => ∃ k : Nat, k ≤ D.nk ∧ q = D.nk - k ∧ c = .int .i64 (cntLe D.key s k) ∧ i = .int .i64 k ∧ Below (w.heap.size + 1) (w.alloc (.cells #[.bool D.leaf, .slice ac D.nk cc, .slice ap D.nv cp, .slice ai D.nd ci] 27)) wr)
  case atStart => exact ⟨0, Nat.zero_le _, rfl, rfl, rfl, hB0⟩
  case round =>
    clear hB0
    obtain ⟨k, hk, rfl, rfl, rfl, hB⟩ := hrel
    have hBw := (nbox_below hB).1
    by_cases hlt : k < D.nk
    · obtain ⟨b1, o1, rfl, hb1, y0⟩ := txv_at (hc.below hBw) hlt
      have hkz : (k : Int) < (D.nk : Int) := by omega
      have hle := cntLe_le D.key s k
      have HS : Hid ((cntLe D.key s (k + 1) : Int) = cntLe D.key s k + (if leT (D.key k) s then 1 else 0)) := by
        show _ = _
        simp only [cntLe]; split <;> simp
      have hL := fun W => leq_str (D.key k) s W
      obtain ⟨p0, hp0⟩ : ∃ x, Hid (D.key k = x) := ⟨_, rfl⟩
      obtain ⟨n0, hn0⟩ : ∃ x, Hid (cntLe D.key s k = x) := ⟨_, rfl⟩
      simp only [hp0.out] at hL
      rw [hp0.out] at y0
      rw [hp0.out, hn0.out] at HS
      rw [hn0.out] at hle ⊢
      have HB : Hid (Below (w.heap.size + 1) (w.alloc (.cells #[.bool D.leaf, .slice (some ⟨b1, o1, none⟩) D.nk cc, .slice ap D.nv cp, .slice ai D.nd ci] 27)) wr) := hB
      clear hB hBw hc
      cases hb : leT p0 s
      · rw [hb] at HS
        simp only [hb] at hL
        go_wp2
        go_roundg (D.nk - (k + 1))
        case measure => omega
        case rel => exact ⟨k + 1, by omega, rfl, by rw [HS.out]; simp, by go_num, HB.out⟩
      · rw [hb] at HS
        simp only [hb] at hL
        go_wp2
        go_roundg (D.nk - (k + 1))
        case measure => omega
        case rel => exact ⟨k + 1, by omega, rfl, by rw [HS.out]; go_num, by go_num, HB.out⟩
    · obtain rfl : k = D.nk := by omega
      have hkz : ¬ (D.nk : Int) < (D.nk : Int) := by omega
      clear hc hB
      go_wp2
      go_ret
      exact ⟨rfl, hBw⟩
end Go.Proofs.Ytaiinlcdfeboiaa

/-
  Keys that ascend, and how many of them are no greater, plainly.
-/
namespace Go.Proofs.Ytaiinlcdfeboiaa
open Go.RowKit
set_option maxRecDepth 4000

theorem bln_irr : ∀ l : List UInt8, Op.bytesLess l l = false
  | [] => rfl
  | x :: xs => by simp [Op.bytesLess, bln_irr xs]
theorem bln_tri : ∀ a b : List UInt8, a ≠ b → Op.bytesLess a b = !Op.bytesLess b a
  | [], [], h => absurd rfl h
  | [], _ :: _, _ => by simp [Op.bytesLess]
  | _ :: _, [], _ => by simp [Op.bytesLess]
  | x :: xs, y :: ys, h => by
    by_cases e : x = y
    · subst e
      have hne : xs ≠ ys := fun e => h (by rw [e])
      simp [Op.bytesLess, bln_tri xs ys hne]
    · have e1 : (x == y) = false := by simpa using e
      have e2 : (y == x) = false := by simpa using fun e3 => e e3.symm
      simp only [Op.bytesLess, e1, e2, Bool.false_and, Bool.or_false]
      have hn : x.toNat ≠ y.toNat := fun e3 => e (UInt8.toNat_inj.1 e3)
      by_cases hl : x < y
      · have : ¬ y < x := by simp only [UInt8.lt_iff_toNat_lt] at hl ⊢; omega
        simp [hl, this]
      · have : y < x := by simp only [UInt8.lt_iff_toNat_lt] at hl ⊢; omega
        simp [hl, this]
theorem bln_trans : ∀ {a b c : List UInt8}, Op.bytesLess a b = true → Op.bytesLess b c = true → Op.bytesLess a c = true
  | [], _, [], h, k => by
    rename_i b
    cases b with
    | nil => simp [Op.bytesLess] at h
    | cons y ys => simp [Op.bytesLess] at k
  | [], _, _ :: _, _, _ => by simp [Op.bytesLess]
  | _ :: _, [], _, h, _ => by simp [Op.bytesLess] at h
  | _ :: _, _ :: _, [], _, k => by simp [Op.bytesLess] at k
  | x :: xs, y :: ys, z :: zs, h, k => by
    simp only [Op.bytesLess, Bool.or_eq_true, decide_eq_true_eq, Bool.and_eq_true, beq_iff_eq, UInt8.lt_iff_toNat_lt] at h k ⊢
    rcases h with h | ⟨rfl, h⟩
    · rcases k with k | ⟨rfl, k⟩
      · left; omega
      · left; exact h
    · rcases k with k | ⟨rfl, k⟩
      · left; exact k
      · right; exact ⟨rfl, bln_trans h k⟩
/-- One text is behind or at the other. -/
def geT (a b : ByteArray) : Bool := !Op.bytesLess a.toList b.toList
theorem geq_str (a b : ByteArray) (w : World) : (binOp .geq 9 (.string a) (.string b)).run Try.prog w = .ok (.bool (geT a b)) w := by
  simp [go_sem, binOp, Op.stringOp, geT]
def ltT (a b : ByteArray) : Bool := Op.bytesLess a.toList b.toList
theorem lss_str (a b : ByteArray) (w : World) : (binOp .lss 9 (.string a) (.string b)).run Try.prog w = .ok (.bool (ltT a b)) w := by
  simp [go_sem, binOp, Op.stringOp, ltT]
/-- The first k ascend. -/
def Rises (f : Nat → ByteArray) (k : Nat) : Prop := ∀ i, i + 1 < k → ltT (f i) (f (i + 1)) = true
theorem rises_lt {f : Nat → ByteArray} {n : Nat} (h : Rises f n) : ∀ (j i : Nat), i < j → j < n → ltT (f i) (f j) = true
  | j + 1, i, hij, hj => by
    by_cases e : i = j
    · subst e; exact h i hj
    · exact bln_trans (rises_lt h j i (by omega) (by omega)) (h j hj)
theorem le_lt {a b s : ByteArray} (h : ltT a b = true) (k : leT b s = true) : leT a s = true := by
  unfold leT at k ⊢
  rw [Bool.or_eq_true] at k ⊢
  rcases k with k | k
  · exact .inl (bln_trans h k)
  · rw [beq_iff_eq] at k
    left; rw [← k]; exact h
theorem not_le {a s : ByteArray} (h : leT a s = false) : ltT s a = true := by
  unfold leT at h
  rw [Bool.or_eq_false_iff] at h
  have hne : a.toList ≠ s.toList := fun e => by rw [e] at h; simp at h
  have := bln_tri _ _ hne
  rw [h.1] at this
  unfold ltT
  cases hx : Op.bytesLess s.toList a.toList with
  | true => rfl
  | false => rw [hx] at this; cases this
/-- Of keys that ascend those that are no greater stand first. -/
theorem cnt_first {f : Nat → ByteArray} {n : Nat} (h : Rises f n) (s : ByteArray) : ∀ m, m ≤ n → ∀ i, i < m → (leT (f i) s = true ↔ i < cntLe f s m)
  | 0, _, i, hi => absurd hi (Nat.not_lt_zero _)
  | m + 1, hm, i, hi => by
    have ih := cnt_first h s m (by omega)
    have hc := cntLe_le f s m
    simp only [cntLe]
    cases hl : leT (f m) s with
    | true =>
      have hall : ∀ j, j < m → leT (f j) s = true := fun j hj => le_lt (rises_lt h m j hj (by omega)) hl
      have hcm : cntLe f s m = m := by
        rcases Nat.eq_zero_or_pos m with rfl | hp
        · rfl
        · have := (ih (m - 1) (by omega)).1 (hall _ (by omega)); omega
      rw [hcm, if_pos rfl]
      by_cases e : i < m
      · simp only [hall i e, true_iff]; omega
      · obtain rfl : i = m := by omega
        simp only [hl, true_iff]; omega
    | false =>
      simp only [Bool.false_eq_true, if_false, Nat.add_zero]
      by_cases e : i < m
      · exact ih i e
      · obtain rfl : i = m := by omega
        rw [hl]
        constructor
        · intro h; cases h
        · intro h; omega
end Go.Proofs.Ytaiinlcdfeboiaa

/-
  A text's bytes as numbers; what is put of a text.
-/
namespace Go.Proofs.Ytaiinlcdfeboiaa
open Go.RowKit
set_option maxRecDepth 4000

/-- A text's bytes as numbers. -/
def sl (s : ByteArray) : List Int := s.data.toList.map (fun b => (b.toNat : Int))
theorem sl_len (s : ByteArray) : (sl s).length = s.size := by unfold sl; rw [List.length_map, Array.length_toList]; rfl
theorem sl_byte (s : ByteArray) : ∀ y ∈ sl s, 0 ≤ y ∧ y ≤ 255 := by
  intro y hy
  simp only [sl, List.mem_map] at hy
  obtain ⟨b, _, rfl⟩ := hy
  have := b.toNat_lt
  omega
theorem sl_cells (s : ByteArray) : Lib.strCells s = bl (sl s) := by simp [Lib.strCells, bl, sl]

/-- What is put: the bytes, the count's groups, the text. -/
def textL (n : Nat) (f : Nat → Int) (s : ByteArray) : List Int := lof n f ++ groups (clampN s.size) ++ sl s
theorem textL_len (n : Nat) (f : Nat → Int) (s : ByteArray) : (textL n f s).length = n + (groups (clampN s.size)).length + s.size := by
  unfold textL; rw [List.length_append, List.length_append, lof_len, sl_len]

end Go.Proofs.Ytaiinlcdfeboiaa

/-
  Numbers as bytes, one behind the other; rows of bytes that an answer owns, by a list.
-/
namespace Go.Proofs.Ytaiinlcdfeboiaa
open Go.RowKit
set_option maxRecDepth 4000

/-- The groups of the first k numbers, one behind the other. -/
def numL (g : Nat → Int) : Nat → List Int
  | 0 => []
  | k + 1 => numL g k ++ groups (clampN (g k))
theorem numL_len (g : Nat → Int) : ∀ k, (numL g k).length ≤ 3 * k
  | 0 => by simp [numL]
  | k + 1 => by have := numL_len g k; have := (groups_len (clampN (g k))).2; simp only [numL, List.length_append]; omega
theorem numL_byte (g : Nat → Int) : ∀ k, ∀ y ∈ numL g k, 0 ≤ y ∧ y ≤ 255
  | 0 => by simp [numL]
  | k + 1 => by
    intro y hy
    rw [numL, List.mem_append] at hy
    rcases hy with hy | hy
    · exact numL_byte g k y hy
    · exact groups_byte _ (clampN_bd _).1 (clampN_bd _).2 y hy
/-- Bytes of the call's own, by a list. -/
def BR (w : World) (B : Nat) (v : Value) (L : List Int) : Prop :=
  ∃ g c, v = .slice (some ⟨g, 0, none⟩) L.length c ∧ B ≤ g ∧ L.length ≤ c ∧ Row 5 w g L.length (fun i => L.getD i 0)
theorem BR.below {w w' : World} {B : Nat} {v : Value} {L : List Int} (h : BR w B v L) (hb : Below w.heap.size w w') : BR w' B v L := by
  obtain ⟨g, c, e, hB, hc, hr⟩ := h
  exact ⟨g, c, e, hB, hc, hr.belowAll hb⟩
theorem BR.mono {w : World} {B B' : Nat} {v : Value} {L : List Int} (h : BR w B v L) (hB : B' ≤ B) : BR w B' v L := by
  obtain ⟨g, c, e, h1, hc, hr⟩ := h
  exact ⟨g, c, e, Nat.le_trans hB h1, hc, hr⟩
theorem getD_byteN {L : List Int} (h : ∀ y ∈ L, 0 ≤ y ∧ y ≤ 255) : ∀ i, i < L.length → 0 ≤ L.getD i 0 ∧ L.getD i 0 ≤ 255 := fun i hi => by
  have := h _ (List.getElem_mem hi)
  simpa [hi] using this
theorem BR.view {w : World} {B : Nat} {v : Value} {L : List Int} (h : BR w B v L) (hy : ∀ y ∈ L, 0 ≤ y ∧ y ≤ 255) : ∃ g c, v = .slice (some ⟨g, 0, none⟩) L.length c ∧ View w (some ⟨g, 0, none⟩) L.length c (fun i => L.getD i 0) := by
  obtain ⟨g, c, e, -, hc, hr⟩ := h
  exact ⟨g, c, e, hr.view hc (getD_byteN hy)⟩
end Go.Proofs.Ytaiinlcdfeboiaa

/-
  The bytes of a node, plainly; rows of bytes that an answer owns, by a list.
-/
namespace Go.Proofs.Ytaiinlcdfeboiaa
open Go.RowKit
set_option maxRecDepth 4000

/-- One text: its count, its bytes. -/
def oneT (s : ByteArray) : List Int := groups (clampN s.size) ++ sl s
/-- The first k texts, one behind the other. -/
def textsL (f : Nat → ByteArray) : Nat → List Int
  | 0 => []
  | k + 1 => textsL f k ++ oneT (f k)
def headL (D : PNode) : List Int := groups (clampN (if D.leaf then 1 else 0)) ++ groups (clampN D.nk)
/-- The bytes of a node, right or not. -/
def bytesN (D : PNode) : List Int := headL D ++ textsL D.key D.nk ++ (if D.leaf then textsL D.val D.nv else numL D.kid D.nd)
/-- How many they are. -/
def sizeN (D : PNode) : Int := (bytesN D).length
theorem oneT_len (s : ByteArray) : (oneT s).length = (groups (clampN s.size)).length + s.size := by rw [oneT, List.length_append, sl_len]
theorem oneT_byte (s : ByteArray) : ∀ y ∈ oneT s, 0 ≤ y ∧ y ≤ 255 := by
  intro y hy
  rw [oneT, List.mem_append] at hy
  rcases hy with hy | hy
  · exact groups_byte _ (clampN_bd _).1 (clampN_bd _).2 y hy
  · exact sl_byte s y hy
theorem textsL_len {f : Nat → ByteArray} {n : Nat} (h : ∀ i, i < n → (f i).size ≤ 1048576) : ∀ k, k ≤ n → (textsL f k).length ≤ 1048579 * k
  | 0, _ => by simp [textsL]
  | k + 1, hk => by
    have := textsL_len h k (by omega)
    have := (groups_len (clampN (f k).size)).2
    have := h k (by omega)
    simp only [textsL, List.length_append, oneT_len]; omega
theorem textsL_byte (f : Nat → ByteArray) : ∀ k, ∀ y ∈ textsL f k, 0 ≤ y ∧ y ≤ 255
  | 0 => by simp [textsL]
  | k + 1 => by
    intro y hy
    rw [textsL, List.mem_append] at hy
    rcases hy with hy | hy
    · exact textsL_byte f k y hy
    · exact oneT_byte _ y hy
theorem headL_len (D : PNode) : (headL D).length ≤ 6 := by
  have := (groups_len (clampN (if D.leaf then 1 else 0))).2
  have := (groups_len (clampN D.nk)).2
  simp only [headL, List.length_append]; omega
theorem headL_byte (D : PNode) : ∀ y ∈ headL D, 0 ≤ y ∧ y ≤ 255 := by
  intro y hy
  rw [headL, List.mem_append] at hy
  rcases hy with hy | hy <;> exact groups_byte _ (clampN_bd _).1 (clampN_bd _).2 y hy

end Go.Proofs.Ytaiinlcdfeboiaa

/-
  Nodes that are right, by the program's words and by the model's, plainly.
-/
namespace Go.Proofs.Ytaiinlcdfeboiaa
open Go.RowKit
set_option maxRecDepth 4000

/-- None of the first n is longer than B. -/
def NoneL (B n : Nat) (f : Nat → ByteArray) : Prop := ∀ i, i < n → (f i).size ≤ B
/-- What a kind asks for, by the program. -/
def KindI (D : PNode) : Prop :=
  (D.leaf = true ∧ 0 < D.nk ∧ D.nv = D.nk ∧ Rises D.key D.nk ∧ NoneL 48 D.nk D.key ∧ NoneL 60 D.nv D.val)
  ∨ (D.leaf = false ∧ D.nd = D.nk + 1 ∧ Rises D.key D.nk ∧ ∀ i, i < D.nd → 2 ≤ D.kid i ∧ D.kid i ≤ 47)
/-- Nothing but what the kind names. -/
def Pure (D : PNode) : Prop := (D.leaf = true ∧ D.nd = 0) ∨ (D.leaf = false ∧ D.nv = 0)
/-- Right, by the program. -/
def OkI (D : PNode) : Prop := Pure D ∧ KindI D ∧ sizeN D ≤ 240
/-- Right, by the model. -/
def OkS (D : PNode) : Prop := OkI D ∧ NoneL 48 D.nk D.key
theorem OkS.i {D : PNode} (h : OkS D) : OkI D := h.1
theorem OkI.s {D : PNode} (h : OkI D) (hk : NoneL 48 D.nk D.key) : OkS D := ⟨h, hk⟩
noncomputable instance (D : PNode) : Decidable (OkI D) := Classical.propDecidable _
noncomputable instance (D : PNode) : Decidable (OkS D) := Classical.propDecidable _
theorem le_not_lt (a b : ByteArray) : leT b a = !ltT a b := by
  unfold leT ltT
  by_cases e : a.toList = b.toList
  · rw [e, bln_irr]; simp
  · have e2 : (b.toList == a.toList) = false := by simpa using fun h => e h.symm
    rw [e2, bln_tri _ _ e]; simp
theorem rises_next {f : Nat → ByteArray} {k : Nat} (h : Rises f k) (h1 : 0 < k → ltT (f (k - 1)) (f k) = true) : Rises f (k + 1) := fun i hi => by
  by_cases e : i + 1 < k
  · exact h i e
  · obtain rfl : k = i + 1 := by omega
    exact h1 (by omega)
theorem rises_less {f : Nat → ByteArray} {k n : Nat} (h : Rises f n) (hk : k ≤ n) : Rises f k := fun i hi => h i (by omega)
theorem rises_one (f : Nat → ByteArray) : Rises f 1 := fun i hi => absurd hi (by omega)
theorem rises_zero (f : Nat → ByteArray) : Rises f 0 := fun i hi => absurd hi (by omega)
end Go.Proofs.Ytaiinlcdfeboiaa

/-
  The program's isAscending.
-/
namespace Go.Proofs.Ytaiinlcdfeboiaa
open Go.RowKit
set_option maxRecDepth 4000

/-- An answer that says whether it is so. -/
def SaysB (w : World) (P : Prop) (e : Ending) (w' : World) : Prop := ∃ r : Bool, e = .returned (.bool r) ∧ (r = true ↔ P) ∧ Below w.heap.size w w'

set_option maxHeartbeats 2000000 in
theorem isAsc_any (a : Option Addr) (n c : Nat) (f : Nat → ByteArray) (w : World) (h : TxV w a n c f) (hn : n ≤ 1048576) :
    Calls Try.prog 72 #[.slice a n c] w (SaysB w (Rises f n)) := by
  go_enter Try.func72, Try.ntmps72
  go_wp2
  go_loopg [3] n (fun q i wr => ∃ k : Nat, 1 ≤ k ∧ k ≤ n + 1 ∧ q = n + 1 - k ∧ i = .int .i64 k ∧ Below w.heap.size w wr ∧ Hid (Rises f k))
  case atStart => exact ⟨1, Nat.le_refl _, by omega, by omega, rfl, Below.refl _ _, rises_one f⟩
  case round =>
    obtain ⟨k, hk1, hk, rfl, rfl, hB, HA⟩ := hrel
    by_cases hlt : k < n
    · obtain ⟨b1, o1, rfl, hb1, hc1⟩ := (h.below hB).cells (by omega)
      have x0 : wr.cell? ⟨b1, o1 + k, none⟩ = some (.string (f k)) := hc1 k hlt
      have y0 : wr.cell? ⟨b1, o1 + (k - 1), none⟩ = some (.string (f (k - 1))) := hc1 (k - 1) (by omega)
      have hkz : (k : Int) < (n : Int) := by omega
      have hG := fun W => leq_str (f k) (f (k - 1)) W
      have HB : Hid (Below w.heap.size w wr) := hB
      have HNX : Hid (leT (f k) (f (k - 1)) = false → Rises f (k + 1)) := fun h => rises_next HA.out (fun _ => by rw [le_not_lt] at h; simpa using h)
      have HNO : Hid (leT (f k) (f (k - 1)) = true → ¬ Rises f n) := fun h hS => by
        have := hS (k - 1) (by omega)
        rw [show k - 1 + 1 = k by omega] at this
        rw [le_not_lt, this] at h; cases h
      obtain ⟨p0, hp0⟩ : ∃ x, Hid (f k = x) := ⟨_, rfl⟩
      obtain ⟨p1, hp1⟩ : ∃ x, Hid (f (k - 1) = x) := ⟨_, rfl⟩
      rw [hp0.out] at x0
      rw [hp1.out] at y0
      simp only [hp1.out, hp0.out] at hG HNX HNO
      obtain ⟨r, hr⟩ : ∃ x, Hid (leT p0 p1 = x) := ⟨_, rfl⟩
      simp only [hr.out] at hG HNX HNO
      obtain ⟨k1, hk1'⟩ : ∃ m, Hid (k - 1 = m) := ⟨_, rfl⟩
      rw [hk1'.out] at y0
      have hw1 : IntKind.i64.wrap ((k : Int) - 1) = (k1 : Int) := by have := hk1'.out; rw [IntKind.wrap_i64]; omega
      have hkn1 : (k1 : Int) < (n : Int) := by have := hk1'.out; omega
      clear HA hc1 hB h
      go_wp2_with fail
      go_region
      all_goals
        cases r with
        | true =>
          have HN : Hid (¬ Rises f n) := HNO.out rfl
          clear HNX HNO
          go_wp2
          go_ret
          exact ⟨false, rfl, ⟨(fun h => by cases h), fun h => absurd h HN.out⟩, by first | exact HB.out | exact HB.out.drew⟩
        | false =>
          have HN : Hid (Rises f (k + 1)) := HNX.out rfl
          clear HNX HNO
          go_wp2
          go_roundg (n + 1 - (k + 1))
          case measure => omega
          case rel => exact ⟨k + 1, by omega, by omega, rfl, by go_num, by first | exact HB.out | exact HB.out.drew, HN⟩
    · have hkz : ¬ (k : Int) < (n : Int) := by omega
      have HN : Hid (Rises f n) := rises_less HA.out (by omega)
      clear h HA
      go_wp2
      go_ret
      exact ⟨true, rfl, ⟨fun _ => HN.out, fun _ => rfl⟩, hB⟩
end Go.Proofs.Ytaiinlcdfeboiaa

/-
  The program's noneLonger, isNoTreeSec, and whether one of a row is so.
-/
namespace Go.Proofs.Ytaiinlcdfeboiaa
open Go.RowKit
set_option maxRecDepth 4000

set_option maxHeartbeats 1000000 in
theorem longer1_any (s : ByteArray) (B : Nat) (m : Int) (w : World) (hx : w.cell? ⟨B, 0, none⟩ = some (.int .i64 m)) :
    Calls Try.prog 80 #[.string s, .pointer (some ⟨B, 0, none⟩)] w fun e w' => e = .returned (.bool (decide (m < s.size))) ∧ w = w' := by
  by_cases h : m < (s.size : Int)
  · have HD : Hid (decide (m < (s.size : Int)) = true) := decide_eq_true h
    rw [HD.out]
    go_enter Try.func80, Try.ntmps80
    go_wp2
    go_ret
    exact ⟨rfl, rfl⟩
  · have HD : Hid (decide (m < (s.size : Int)) = false) := decide_eq_false h
    rw [HD.out]
    have h2 : ¬ (s.size : Int) > m := h
    go_enter Try.func80, Try.ntmps80
    go_wp2
    go_ret
    exact ⟨rfl, rfl⟩

set_option maxHeartbeats 2000000 in
theorem indexLong_any (a : Option Addr) (n cap : Nat) (f : Nat → ByteArray) (B : Nat) (m : Nat) (w : World) (h : TxV w a n cap f) (hn : n ≤ 4194304) (hlt : B < w.heap.size) (hx : w.cell? ⟨B, 0, none⟩ = some (.int .i64 m)) :
    Calls Try.prog 82 #[.slice a n cap, .func (.func 80) #[] #[.pointer (some ⟨B, 0, none⟩)]] w fun e w' => ∃ r : Int, e = .returned (.int .i64 r) ∧ (0 ≤ r ↔ ¬ NoneL m n f) ∧ Below w.heap.size w w' := by
  go_enter Try.func82, Try.ntmps82
  go_wp2
  go_loopg [8] n (fun q i wr => ∃ k : Nat, k ≤ n ∧ q = n - k ∧ i = .int .i64 k ∧ Below w.heap.size w wr ∧ Hid (NoneL m k f))
  case atStart => exact ⟨0, Nat.zero_le _, rfl, rfl, Below.refl _ _, fun j hj => absurd hj (Nat.not_lt_zero _)⟩
  case round =>
    obtain ⟨k, hk, rfl, rfl, hB, HA⟩ := hrel
    by_cases hlt2 : k < n
    · have hkz : (k : Int) < (n : Int) := by omega
      obtain ⟨b1, o1, rfl, hb1, x0⟩ := txv_at (h.below hB) hlt2
      have hxr : wr.cell? ⟨B, 0, none⟩ = some (.int .i64 m) := by rw [hB.cell (p := ⟨B, 0, none⟩) hlt]; exact hx
      have hV := longer1_any (f k) B m wr hxr
      have HB : Hid (Below w.heap.size w wr) := hB
      obtain ⟨o, ho⟩ : ∃ o, Hid (decide ((m : Int) < (f k).size) = o) := ⟨_, rfl⟩
      have HO : Hid (o = true ↔ m < (f k).size) := by show _ ↔ _; rw [← ho.out, decide_eq_true_iff]; omega
      rw [ho.out] at hV
      clear ho
      obtain ⟨s0, hs0⟩ : ∃ s, Hid (f k = s) := ⟨_, rfl⟩
      rw [hs0.out] at x0
      simp only [hs0.out] at hV
      clear h hB hx hxr
      go_wp2_with fail
      refine hV.mono ?_
      rintro e w2 ⟨rfl, rfl⟩
      clear hV x0
      cases o with
      | true =>
        have HR : Hid ((0 : Int) ≤ (k : Int) ↔ ¬ NoneL m n f) := ⟨fun _ hN => absurd (hN k hlt2) (by have := HO.out.1 rfl; omega), fun _ => by omega⟩
        clear HO HA
        go_wp2
        go_ret
        exact ⟨_, rfl, HR.out, HB.out⟩
      | false =>
        have HN : Hid (NoneL m (k + 1) f) := by
          intro i hi
          by_cases e : i < k
          · exact HA.out i e
          · obtain rfl : i = k := by omega
            by_cases hb : m < (f i).size
            · have := HO.out.2 hb; cases this
            · omega
        clear HO HA
        go_wp2
        go_roundg (n - (k + 1))
        case measure => omega
        case rel => exact ⟨k + 1, by omega, rfl, by go_num, HB.out, HN⟩
    · have hkz : ¬ (k : Int) < (n : Int) := by omega
      obtain rfl : k = n := by omega
      have HR : Hid ((0 : Int) ≤ -1 ↔ ¬ NoneL m k f) := ⟨fun h => absurd h (by decide), fun h => absurd HA.out h⟩
      clear h HA hx
      go_wp2
      go_ret
      exact ⟨_, rfl, HR.out, hB⟩

set_option maxHeartbeats 1000000 in
theorem containsLong_any (a : Option Addr) (n cap : Nat) (f : Nat → ByteArray) (B : Nat) (m : Nat) (w : World) (h : TxV w a n cap f) (hn : n ≤ 4194304) (hlt : B < w.heap.size) (hx : w.cell? ⟨B, 0, none⟩ = some (.int .i64 m)) :
    Calls Try.prog 79 #[.slice a n cap, .func (.func 80) #[] #[.pointer (some ⟨B, 0, none⟩)]] w (SaysB w (¬ NoneL m n f)) := by
  have hI := indexLong_any a n cap f B m w h hn hlt hx
  clear h hx
  obtain ⟨P, hP⟩ : ∃ P : Prop, Hid ((¬ NoneL m n f) = P) := ⟨_, rfl⟩
  simp only [hP.out] at hI ⊢
  clear hP
  go_enter Try.func79, Try.ntmps79
  go_wp2_with fail
  refine hI.mono ?_
  rintro e w1 ⟨r, rfl, hr, hb⟩
  have HR : Hid (0 ≤ r ↔ P) := hr
  have HB : Hid (Below w.heap.size w w1) := hb
  clear hI hr hb
  go_wp2
  go_ret
  exact ⟨_, rfl, ⟨fun h => HR.out.1 (of_decide_eq_true h), fun h => decide_eq_true (HR.out.2 h)⟩, HB.out⟩

set_option maxHeartbeats 1000000 in
theorem noneLonger_any (a : Option Addr) (n cap : Nat) (f : Nat → ByteArray) (m : Nat) (w : World) (h : TxV w a n cap f) (hn : n ≤ 4194304) :
    Calls Try.prog 73 #[.slice a n cap, .int .i64 m] w (SaysB w (NoneL m n f)) := by
  have hb0 : Below w.heap.size w (w.alloc (.cells #[.int .i64 m] 3)) := (Below.refl _ _).alloc (Nat.le_refl _) _
  have hC := containsLong_any a n cap f w.heap.size m (w.alloc (.cells #[.int .i64 m] 3)) (h.below hb0) hn (by simp) (by simp)
  obtain ⟨P, hP⟩ : ∃ P : Prop, Hid (NoneL m n f = P) := ⟨_, rfl⟩
  simp only [hP.out] at hC ⊢
  clear hP h
  go_enter Try.func73, Try.ntmps73
  go_wp2_with fail
  refine hC.mono ?_
  rintro e w1 ⟨r, rfl, hr, hb⟩
  have HB : Hid (Below w.heap.size w w1) := hb0.trans (hb.mono (by simp))
  have HR : Hid (r = true ↔ ¬ P) := hr
  clear hC hr hb hb0
  cases r with
  | true =>
    have HP : Hid (¬ P) := HR.out.1 rfl
    clear HR
    go_wp2
    go_ret
    exact ⟨false, rfl, ⟨(fun h => by cases h), fun h => absurd h HP.out⟩, HB.out⟩
  | false =>
    have HP : Hid P := Classical.not_not.1 (fun h => by have := HR.out.2 h; cases this)
    clear HR
    go_wp2
    go_ret
    exact ⟨true, rfl, ⟨fun _ => HP.out, fun _ => rfl⟩, HB.out⟩

/-- A sector of the tree. -/
def secK (x : Int) : Prop := 2 ≤ x ∧ x ≤ 47
def AllSec (n : Nat) (f : Nat → Int) : Prop := ∀ i, i < n → secK (f i)
set_option maxHeartbeats 1000000 in
theorem isNoTreeSec_any (x : Int) (w : World) :
    Calls Try.prog 75 #[.int .i64 x] w (SaysB w (¬ secK x)) := by
  by_cases h : x < 2
  · have HP : Hid (¬ secK x) := by intro h2; unfold secK at h2; omega
    obtain ⟨P, hP⟩ : ∃ P : Prop, Hid ((¬ secK x) = P) := ⟨_, rfl⟩
    simp only [hP.out] at HP ⊢
    clear hP
    go_enter Try.func75, Try.ntmps75
    go_wp2
    go_ret
    exact ⟨_, rfl, ⟨fun _ => HP.out, fun _ => rfl⟩, Below.refl _ _⟩
  · by_cases h2 : (48 : Int) ≤ x
    · have HP : Hid (¬ secK x) := by intro h2; unfold secK at h2; omega
      obtain ⟨P, hP⟩ : ∃ P : Prop, Hid ((¬ secK x) = P) := ⟨_, rfl⟩
      simp only [hP.out] at HP ⊢
      clear hP
      have h3 : x ≥ 48 := h2
      go_enter Try.func75, Try.ntmps75
      go_wp2
      go_ret
      exact ⟨_, rfl, ⟨fun _ => HP.out, fun _ => rfl⟩, Below.refl _ _⟩
    · have HP : Hid (¬ ¬ secK x) := by intro h3; apply h3; unfold secK; omega
      obtain ⟨P, hP⟩ : ∃ P : Prop, Hid ((¬ secK x) = P) := ⟨_, rfl⟩
      simp only [hP.out] at HP ⊢
      clear hP
      have h3 : ¬ x ≥ 48 := h2
      go_enter Try.func75, Try.ntmps75
      go_wp2
      go_ret
      exact ⟨_, rfl, ⟨(fun h => by cases h), fun h => absurd h HP.out⟩, Below.refl _ _⟩

set_option maxHeartbeats 2000000 in
theorem indexSec_any (a : Option Addr) (n cap : Nat) (f : Nat → Int) (w : World) (h : NuV w a n cap f) (hn : n ≤ 4194304) :
    Calls Try.prog 81 #[.slice a n cap, .func (.func 75) #[] #[]] w fun e w' => ∃ r : Int, e = .returned (.int .i64 r) ∧ (0 ≤ r ↔ ¬ AllSec n f) ∧ Below w.heap.size w w' := by
  go_enter Try.func81, Try.ntmps81
  go_wp2
  go_loopg [8] n (fun q i wr => ∃ k : Nat, k ≤ n ∧ q = n - k ∧ i = .int .i64 k ∧ Below w.heap.size w wr ∧ Hid (AllSec k f))
  case atStart => exact ⟨0, Nat.zero_le _, rfl, rfl, Below.refl _ _, fun j hj => absurd hj (Nat.not_lt_zero _)⟩
  case round =>
    obtain ⟨k, hk, rfl, rfl, hB, HA⟩ := hrel
    by_cases hlt2 : k < n
    · have hkz : (k : Int) < (n : Int) := by omega
      obtain ⟨b1, o1, rfl, hb1, x0⟩ := nuv_at (h.below hB) hlt2
      have hV := isNoTreeSec_any (f k) wr
      have HB : Hid (Below w.heap.size w wr) := hB
      obtain ⟨P, hP⟩ : ∃ P : Prop, Hid ((¬ secK (f k)) = P) := ⟨_, rfl⟩
      simp only [hP.out] at hV
      obtain ⟨s0, hs0⟩ : ∃ s, Hid (f k = s) := ⟨_, rfl⟩
      rw [hs0.out] at x0
      rw [hs0.out] at hV
      clear h hB
      go_wp2_with fail
      refine hV.mono ?_
      rintro e w2 ⟨o, rfl, ho, hb2⟩
      have HO : Hid (o = true ↔ P) := ho
      have HB3 : Hid (Below w.heap.size w w2) := HB.out.trans (hb2.mono HB.out.size)
      clear hV x0 ho hb2 HB
      cases o with
      | true =>
        have HR : Hid ((0 : Int) ≤ (k : Int) ↔ ¬ AllSec n f) := ⟨fun _ hN => absurd (hN k hlt2) (by have := HO.out.1 rfl; rw [← hP.out] at this; exact this), fun _ => by omega⟩
        clear HO HA hP
        go_wp2
        go_ret
        exact ⟨_, rfl, HR.out, HB3.out⟩
      | false =>
        have HN : Hid (AllSec (k + 1) f) := by
          intro i hi
          by_cases e : i < k
          · exact HA.out i e
          · obtain rfl : i = k := by omega
            refine Classical.not_not.1 (fun hb => ?_)
            rw [hP.out] at hb
            have := HO.out.2 hb; cases this
        clear HO HA hP
        go_wp2
        go_roundg (n - (k + 1))
        case measure => omega
        case rel => exact ⟨k + 1, by omega, rfl, by go_num, HB3.out, HN⟩
    · have hkz : ¬ (k : Int) < (n : Int) := by omega
      obtain rfl : k = n := by omega
      have HR : Hid ((0 : Int) ≤ -1 ↔ ¬ AllSec k f) := ⟨fun h => absurd h (by decide), fun h => absurd HA.out h⟩
      clear h HA
      go_wp2
      go_ret
      exact ⟨_, rfl, HR.out, hB⟩

set_option maxHeartbeats 1000000 in
theorem containsSec_any (a : Option Addr) (n cap : Nat) (f : Nat → Int) (w : World) (h : NuV w a n cap f) (hn : n ≤ 4194304) :
    Calls Try.prog 74 #[.slice a n cap, .func (.func 75) #[] #[]] w (SaysB w (¬ AllSec n f)) := by
  have hI := indexSec_any a n cap f w h hn
  clear h
  obtain ⟨P, hP⟩ : ∃ P : Prop, Hid ((¬ AllSec n f) = P) := ⟨_, rfl⟩
  simp only [hP.out] at hI ⊢
  clear hP
  go_enter Try.func74, Try.ntmps74
  go_wp2_with fail
  refine hI.mono ?_
  rintro e w1 ⟨r, rfl, hr, hb⟩
  have HR : Hid (0 ≤ r ↔ P) := hr
  have HB : Hid (Below w.heap.size w w1) := hb
  clear hI hr hb
  go_wp2
  go_ret
  exact ⟨_, rfl, ⟨fun h => HR.out.1 (of_decide_eq_true h), fun h => decide_eq_true (HR.out.2 h)⟩, HB.out⟩
end Go.Proofs.Ytaiinlcdfeboiaa

/-
  The program's putBytes: both slices of bytes, one behind the other, in one new row that holds just them.
-/
namespace Go.Proofs.Ytaiinlcdfeboiaa
open Go.RowKit
set_option maxRecDepth 4000

theorem cells_of_any {w : World} {ao : Option Addr} {n cap : Nat} {f : Nat → Int} (h : View w ao n cap f) : ∀ ad, ao = some ad → ∀ j u, (bl (lof n f))[j]? = some u → w.cell? (ad.add j) = some u := by
  rintro ad rfl j u hu
  have hj : j < n := by
    by_cases hj : j < n
    · exact hj
    · rw [List.getElem?_eq_none (by rw [bl_len, lof_len]; omega)] at hu; cases hu
  obtain ⟨b', off', e, _, _⟩ := h.cells (by omega)
  simp only [Option.some.injEq] at e
  subst e
  exact cells_of_view h j u hu

theorem below_new {w w1 : World} (h : w.grownBy w1 none) : Below w.heap.size w w1 := (Below.refl _ _).grown h (Nat.le_refl _) (by intro k hk; cases hk)
theorem below_app {w w1 w2 : World} (h : w.grownBy w1 none) (h2 : w1.grownBy w2 (some w.heap.size)) : Below w.heap.size w w2 :=
  (below_new h).grown h2 h.size (by intro k hk; cases hk; exact Nat.le_refl _)

set_option maxHeartbeats 1000000 in
theorem putBytes_any (b off n cap : Nat) (f : Nat → Int) (ao : Option Addr) (m c : Nat) (g : Nat → Int) (w : World) (hv : View w (some ⟨b, off, none⟩) n cap f) (hg : View w ao m c g) (hno : ao = none → m = 0 ∧ c = 0) (hn : n + m ≤ 70368744177664) :
    Calls Try.prog 65 #[.slice (some ⟨b, off, none⟩) n cap, .slice ao m c] w fun e w' => e = .returned (.slice (some ⟨w.heap.size, 0, none⟩) (n + m) (n + m)) ∧ w'.ownsRow w.heap.size 5 1 (.slice (some ⟨w.heap.size, 0, none⟩) (n + m) (n + m)) (n + m) (bl (lof n f ++ lof m g)) ∧ Below w.heap.size w w' := by
  obtain ⟨i0, hi, hz0, hz1, hz2⟩ := info_parts Try.info5
  go_enter Try.func65, Try.ntmps65
  go_wp2_with (first | (at_make; go_must (refine wpList_make_own _ rfl (.const (.int .i64 0)) (.tmp 10) 22 rfl w.heap.size 5 i0 (.int .u8 0) 1 Try.underlying22 hi hz0 hz1 .i64 .i64 ((n : Int) + (m : Int)) (n + m) rfl rfl (by omega) (by rw [hz2]; omega) (by unfold maxLen; omega) (Nat.le_refl _) ?_); intro w1 hown1 hgr1) | (at_builtin; refine wpList_append_fits_any _ rfl (.tmp 12) (.tmp 13) 22 rfl w.heap.size 5 i0 1 Try.underlying22 hi hz1 w.heap.size 0 (n + m) [] rfl hown1 (some ⟨b, off, none⟩) n cap (bl (lof n f)) rfl (by rw [bl_len, lof_len]; omega) (by intro h; cases h) (cells_of_any (hv.below (below_new hgr1))) (bl_one _) (by omega) ?_; intro w2 hown2 hgr2; simp only [Nat.zero_add, List.nil_append] at hown2) | (at_builtin; refine wpList_append_fits_any _ rfl (.tmp 15) (.tmp 16) 22 rfl w.heap.size 5 i0 1 Try.underlying22 hi hz1 w.heap.size n (n + m) (bl (lof n f)) rfl hown2 ao m c (bl (lof m g)) rfl (by rw [bl_len, lof_len]; omega) hno (cells_of_any (hg.below (below_app hgr1 hgr2))) (bl_one _) (by omega) ?_; intro w3 hown3 hgr3))
  go_ret
  exact ⟨rfl, by rw [bl_append]; exact hown3, (below_app hgr1 hgr2).grown hgr3 (Nat.le_trans hgr1.size hgr2.size) (by intro k hk; cases hk; exact Nat.le_refl _)⟩
end Go.Proofs.Ytaiinlcdfeboiaa

/-
  The program's putBytes behind bytes that may be nil.
-/
namespace Go.Proofs.Ytaiinlcdfeboiaa
open Go.RowKit
set_option maxRecDepth 4000

set_option maxHeartbeats 1000000 in
theorem putBytes_opt (ai : Option Addr) (n cap : Nat) (f : Nat → Int) (ao : Option Addr) (m c : Nat) (g : Nat → Int) (w : World) (hv : View w ai n cap f) (hni : ai = none → n = 0 ∧ cap = 0) (hg : View w ao m c g) (hno : ao = none → m = 0 ∧ c = 0) (hn : n + m ≤ 70368744177664) :
    Calls Try.prog 65 #[.slice ai n cap, .slice ao m c] w fun e w' => e = .returned (.slice (some ⟨w.heap.size, 0, none⟩) (n + m) (n + m)) ∧ w'.ownsRow w.heap.size 5 1 (.slice (some ⟨w.heap.size, 0, none⟩) (n + m) (n + m)) (n + m) (bl (lof n f ++ lof m g)) ∧ Below w.heap.size w w' := by
  obtain ⟨i0, hi, hz0, hz1, hz2⟩ := info_parts Try.info5
  go_enter Try.func65, Try.ntmps65
  go_wp2_with (first | (at_make; go_must (refine wpList_make_own _ rfl (.const (.int .i64 0)) (.tmp 10) 22 rfl w.heap.size 5 i0 (.int .u8 0) 1 Try.underlying22 hi hz0 hz1 .i64 .i64 ((n : Int) + (m : Int)) (n + m) rfl rfl (by omega) (by rw [hz2]; omega) (by unfold maxLen; omega) (Nat.le_refl _) ?_); intro w1 hown1 hgr1) | (at_builtin; refine wpList_append_fits_any _ rfl (.tmp 12) (.tmp 13) 22 rfl w.heap.size 5 i0 1 Try.underlying22 hi hz1 w.heap.size 0 (n + m) [] rfl hown1 ai n cap (bl (lof n f)) rfl (by rw [bl_len, lof_len]; omega) hni (cells_of_any (hv.below (below_new hgr1))) (bl_one _) (by omega) ?_; intro w2 hown2 hgr2; simp only [Nat.zero_add, List.nil_append] at hown2) | (at_builtin; refine wpList_append_fits_any _ rfl (.tmp 15) (.tmp 16) 22 rfl w.heap.size 5 i0 1 Try.underlying22 hi hz1 w.heap.size n (n + m) (bl (lof n f)) rfl hown2 ao m c (bl (lof m g)) rfl (by rw [bl_len, lof_len]; omega) hno (cells_of_any (hg.below (below_app hgr1 hgr2))) (bl_one _) (by omega) ?_; intro w3 hown3 hgr3))
  go_ret
  exact ⟨rfl, by rw [bl_append]; exact hown3, (below_app hgr1 hgr2).grown hgr3 (Nat.le_trans hgr1.size hgr2.size) (by intro k hk; cases hk; exact Nat.le_refl _)⟩
end Go.Proofs.Ytaiinlcdfeboiaa

/-
  The program's putNumbers at as many numbers as there are: what was there, and behind it their groups.
-/
namespace Go.Proofs.Ytaiinlcdfeboiaa
open Go.RowKit
set_option maxRecDepth 4000

/-- Bytes of the call's own, maybe none, read. -/
theorem view_own_opt {w : World} {base : Nat} {v : Value} {L : List Int} (h : w.ownsRow base 5 1 v L.length (bl L)) (hy : ∀ y ∈ L, 0 ≤ y ∧ y ≤ 255) : ∃ a c, v = .slice a L.length c ∧ (a = none → L.length = 0 ∧ c = 0) ∧ View w a L.length c (fun i => L.getD i 0) := by
  by_cases hv : v = .slice none 0 0
  · have hl : L.length = 0 := by
      obtain ⟨hl, h⟩ := h
      rcases h with ⟨_, h0⟩ | ⟨g, k, cur, e, _⟩
      · exact h0
      · rw [hv] at e; cases e
    refine ⟨none, 0, by rw [hv, hl], fun _ => ⟨hl, rfl⟩, ⟨by omega, fun i hi => by omega, fun hn => by omega⟩⟩
  · obtain ⟨g, c, e, -, hgc, hr⟩ := row_of_own' h hv
    exact ⟨_, c, e, (fun e => by cases e), hr.view hgc (getD_byteN hy)⟩

set_option maxHeartbeats 2000000 in
theorem putNums_many (ai : Option Addr) (L0 : List Int) (cap : Nat) (a : Option Addr) (m c : Nat) (g : Nat → Int) (w : World) (hv : View w ai L0.length cap (fun i => L0.getD i 0)) (hni : ai = none → L0.length = 0 ∧ cap = 0) (hn : L0.length ≤ 35184372088832) (hm : NuV w a m c g) (hm1 : m ≤ 1048577) :
    Calls Try.prog 33 #[.slice ai L0.length cap, .slice a m c] w fun e w' => ∃ v, e = .returned v ∧ BR w' w.heap.size v (L0 ++ numL g m) ∧ Below w.heap.size w w' := by
  obtain ⟨i0, hi, hz0, hz1, hz2⟩ := info_parts Try.info5
  go_enter Try.func33, Try.ntmps33
  go_wp2
  go_loopg [5, 11] m (fun q v i wr => ∃ k : Nat, k ≤ m ∧ q = m - k ∧ i = .int .i64 k ∧ wr.ownsRow w.heap.size 5 1 v (numL g k).length (bl (numL g k)) ∧ Below w.heap.size w wr)
  case atStart => exact ⟨0, Nat.zero_le _, rfl, rfl, World.ownsRow_nil _ _ _ _, Below.refl _ _⟩
  case round =>
    obtain ⟨k, hk, rfl, rfl, hown, hB⟩ := hrel
    by_cases hlt : k < m
    · obtain ⟨b1, o1, rfl, hb1, x0⟩ := nuv_at (hm.below hB) hlt
      have hkz : (k : Int) < (m : Int) := by omega
      have hgl := groups_len (clampN (g k))
      have hkl := numL_len g k
      have HNX : Hid (numL g (k + 1) = numL g k ++ groups (clampN (g k))) := rfl
      obtain ⟨x, hx⟩ : ∃ x, Hid (g k = x) := ⟨_, rfl⟩
      obtain ⟨Q, hQ⟩ : ∃ Q, Hid (numL g k = Q) := ⟨_, rfl⟩
      rw [hx.out] at x0 HNX hgl
      rw [hQ.out] at hown hkl HNX
      have HV : Hid (View w ai L0.length cap (fun i => L0.getD i 0)) := hv
      have HM : Hid (NuV w (some ⟨b1, o1, none⟩) m c g) := hm
      have HB : Hid (Below w.heap.size w wr) := hB
      clear hv hm hB
      go_wp2
      all_goals
        go_loopg [5, 8] (clampN x).toNat (fun gg v s wq => ∃ (y : Int) (ys : List Int), s = .int .i64 y ∧ 0 ≤ y ∧ y ≤ 1000000 ∧ gg = y.toNat ∧ groups (clampN x) = ys ++ groups y ∧ wq.ownsRow w.heap.size 5 1 v (Q ++ ys).length (bl (Q ++ ys)) ∧ Below w.heap.size w wq)
        case atStart => exact ⟨clampN x, [], congrArg (Value.int .i64) (by unfold clampN; split <;> (try split) <;> omega), (clampN_bd x).1, (clampN_bd x).2, rfl, rfl, by rw [List.append_nil]; exact hown, HB.out⟩
        case round =>
          clear hown HB
          obtain ⟨y, ys, rfl, hy0, hy1, rfl, hgr, hown, hB⟩ := hrel
          have HG : Hid (groups (clampN x) = ys ++ groups y) := hgr
          have hlen : (Q ++ ys).length ≤ 3 * k + 3 := by have := hgl; rw [hgr] at this; simp at this ⊢; have := groups_len y; omega
          clear hgr
          by_cases hlt2 : y < 128
          · go_wp2_with (first | (at_builtin; go_must (refine wpList_append_own _ rfl (.tmp 29) (.tmp 32) 22 rfl w.heap.size 5 i0 (.int .u8 0) 1 1 Try.underlying22 hi hz0 hz1 hz2 rfl (by decide) _ _ _ rfl (hown.alloc _) ⟨wr.heap.size, 0, none⟩ 1 1 [.int .u8 y] rfl rfl (cellNew _ _ _) (bl_one [y]) (by unfold maxLen; omega) (by omega) (by have := hB.size; simp; omega) ?_); intro v2 w2 hown2 hgr2 _))
            have hB2 : Below w.heap.size w w2 := (hB.alloc hB.size _).grown hgr2 (by have := hB.size; simp; omega) (fun k hk => (hown.lt k hk).1)
            have hO2 : w2.ownsRow w.heap.size 5 1 v2 (numL g (k + 1)).length (bl (numL g (k + 1))) := by
              rw [HNX.out, HG.out, groups_last y hlt2, ← List.append_assoc, List.length_append, bl_append]
              exact hown2
            clear hgr2 hown hown2 hB
            go_wp2
            go_roundg (m - (k + 1))
            case measure => omega
            case rel => exact ⟨k + 1, by omega, rfl, by go_num, hO2, hB2⟩
          · have hG2 : Hid (groups (clampN x) = (ys ++ [y % 128 + 128]) ++ groups (y / 128)) := by
              have := HG.out
              rw [groups_step y (by omega) hy1] at this
              rw [List.append_assoc]; exact this
            go_wp2_with (at_builtin; go_must (refine wpList_append_own _ rfl (.tmp 20) (.tmp 25) 22 rfl w.heap.size 5 i0 (.int .u8 0) 1 1 Try.underlying22 hi hz0 hz1 hz2 rfl (by decide) _ _ _ rfl (hown.alloc _) ⟨wr.heap.size, 0, none⟩ 1 1 [.int .u8 (y % 128 + 128)] rfl rfl (cellNew _ _ _) (bl_one [y % 128 + 128]) (by unfold maxLen; omega) (by omega) (by have := hB.size; simp; omega) ?_); intro v2 w2 hown2 hgr2 _)
            have hB2 : Below w.heap.size w w2 := (hB.alloc hB.size _).grown hgr2 (by have := hB.size; simp; omega) (fun k hk => (hown.lt k hk).1)
            have hO2 : w2.ownsRow w.heap.size 5 1 v2 (Q ++ (ys ++ [y % 128 + 128])).length (bl (Q ++ (ys ++ [y % 128 + 128]))) := by
              rw [← List.append_assoc, List.length_append, bl_append]
              exact hown2
            clear hgr2 hown hown2 hB
            go_wp2
            go_roundg ((y / 128).toNat)
            case measure => omega
            case rel => exact ⟨y / 128, ys ++ [y % 128 + 128], rfl, by omega, by omega, rfl, hG2.out, hO2, hB2⟩
    · obtain rfl : k = m := by omega
      have hkz : ¬ (k : Int) < (k : Int) := by omega
      have hkl := numL_len g k
      obtain ⟨a2, c2, rfl, hno, hV2⟩ := view_own_opt hown (numL_byte g k)
      have hP := putBytes_opt ai L0.length cap (fun i => L0.getD i 0) a2 (numL g k).length c2 (fun i => (numL g k).getD i 0) wr (hv.below hB) hni hV2 hno (by omega)
      have HB : Hid (Below w.heap.size w wr) := hB
      clear hm hv hown hB hV2
      go_wp2_with fail
      refine hP.mono ?_
      rintro e w3 ⟨rfl, hown3, hb3⟩
      have HO : Hid (BR w3 w.heap.size (.slice (some ⟨wr.heap.size, 0, none⟩) (L0.length + (numL g k).length) (L0.length + (numL g k).length)) (L0 ++ numL g k) ∧ Below w.heap.size w w3) := by
        have hbw := HB.out
        rw [lof_self, lof_self] at hown3
        have hr := row_of_owned hown3
        exact ⟨⟨wr.heap.size, _, by rw [List.length_append], hbw.size, by rw [List.length_append]; exact Nat.le_refl _, by rw [List.length_append]; exact hr⟩, hbw.trans (hb3.mono hbw.size)⟩
      clear hown3 hb3 hP
      go_wp2
      go_ret
      exact ⟨_, rfl, HO.out.1, HO.out.2⟩
end Go.Proofs.Ytaiinlcdfeboiaa

/-
  Rows of one number, and of two.
-/
namespace Go.Proofs.Ytaiinlcdfeboiaa
open Go.RowKit
set_option maxRecDepth 4000

theorem nuv_one (w : World) (x : Int) (T : TypeId) : NuV (w.alloc (.cells #[.int .i64 x] T)) (some ⟨w.heap.size, 0, none⟩) 1 1 (fun _ => x) :=
  ⟨Nat.le_refl _, fun _ => ⟨w.heap.size, 0, rfl, by simp, fun i hi => by
    obtain rfl : i = 0 := by omega
    simp⟩⟩
def two (x y : Int) (i : Nat) : Int := if i = 0 then x else y
theorem nuv_two (w : World) (x y : Int) (T : TypeId) : NuV (w.alloc (.cells #[.int .i64 x, .int .i64 y] T)) (some ⟨w.heap.size, 0, none⟩) 2 2 (two x y) :=
  ⟨Nat.le_refl _, fun _ => ⟨w.heap.size, 0, rfl, by simp, fun i hi => by
    have : i = 0 ∨ i = 1 := by omega
    rcases this with rfl | rfl
    · simp [two]
    · simp [two, go_sem]⟩⟩
theorem numL_two (x y : Int) : numL (two x y) 2 = groups (clampN x) ++ groups (clampN y) := by simp [numL, two]
end Go.Proofs.Ytaiinlcdfeboiaa

/-
  The program's nodes within: what each function answers of each kind.
-/
namespace Go.Proofs.Ytaiinlcdfeboiaa
open Go.RowKit
set_option maxRecDepth 4000

/-- A node within, as the machine holds it. -/
def leafV (K V : Value) : Value := .iface 87 (.agg #[K, V])
def innerV (K I : Value) : Value := .iface 89 (.agg #[K, I])
theorem as_leaf_leaf (a b : Option Addr) (n c m d : Nat) (W : World) : (Instr.typeAssert (.iface 87 (.agg #[.slice a n c, .slice b m d])) 52 87 true).run Try.prog W = .ok (.tuple #[.agg #[.slice a n c, .slice b m d], .bool true]) W := by kernel_rfl
theorem as_inner_leaf (a b : Option Addr) (n c m d : Nat) (W : World) : (Instr.typeAssert (.iface 89 (.agg #[.slice a n c, .slice b m d])) 52 87 true).run Try.prog W = .ok (.tuple #[.agg #[.slice none 0 0, .slice none 0 0], .bool false]) W := by kernel_rfl
theorem as_inner_inner (a b : Option Addr) (n c m d : Nat) (W : World) : (Instr.typeAssert (.iface 89 (.agg #[.slice a n c, .slice b m d])) 52 89 false).run Try.prog W = .ok (.agg #[.slice a n c, .slice b m d]) W := by kernel_rfl

theorem inner_kids (a b : Option Addr) (n c m d : Nat) (W : World) : (Instr.field 89 (.agg #[.slice a n c, .slice b m d]) 1).run Try.prog W = .ok (.slice b m d) W := by kernel_rfl

set_option maxHeartbeats 1000000 in
theorem kindOf_leaf (a b i : Option Addr) (n c m d k e : Nat) (w : World) :
    Calls Try.prog 30 #[.agg #[.bool true, .slice a n c, .slice b m d, .slice i k e]] w fun r w' => r = .returned (leafV (.slice a n c) (.slice b m d)) ∧ Below w.heap.size w w' := by
  have hB0 := (nbox_below (nbox_start w (.cells #[.bool true, .slice a n c, .slice b m d, .slice i k e] 27))).1
  go_enter Try.func30, Try.ntmps30
  go_wp2
  go_ret
  exact ⟨rfl, hB0⟩
set_option maxHeartbeats 1000000 in
theorem kindOf_inner (a b i : Option Addr) (n c m d k e : Nat) (w : World) :
    Calls Try.prog 30 #[.agg #[.bool false, .slice a n c, .slice b m d, .slice i k e]] w fun r w' => r = .returned (innerV (.slice a n c) (.slice i k e)) ∧ Below w.heap.size w w' := by
  have hB0 := (nbox_below (nbox_start w (.cells #[.bool false, .slice a n c, .slice b m d, .slice i k e] 27))).1
  go_enter Try.func30, Try.ntmps30
  go_wp2
  go_ret
  exact ⟨rfl, hB0⟩

set_option maxHeartbeats 2000000 in
theorem sizeOfTexts_any (a : Option Addr) (n c : Nat) (f : Nat → ByteArray) (w : World) (h : TxV w a n c f) (hn : n ≤ 1048576) (hz : ∀ i, i < n → (f i).size ≤ 1048576) :
    Calls Try.prog 43 #[.slice a n c] w fun e w' => e = .returned (.int .i64 (textsL f n).length) ∧ Below w.heap.size w w' := by
  go_enter Try.func43, Try.ntmps43
  go_wp2
  go_loopg [3, 8] n (fun q s i wr => ∃ k : Nat, k ≤ n ∧ q = n - k ∧ s = .int .i64 (textsL f k).length ∧ i = .int .i64 k ∧ Below w.heap.size w wr)
  case atStart => exact ⟨0, Nat.zero_le _, rfl, rfl, rfl, Below.refl _ _⟩
  case round =>
    obtain ⟨k, hk, rfl, rfl, rfl, hB⟩ := hrel
    by_cases hlt : k < n
    · obtain ⟨b1, o1, rfl, hb1, x0⟩ := txv_at (h.below hB) hlt
      have hkz : (k : Int) < (n : Int) := by omega
      have hl := textsL_len hz k (by omega)
      have HS : Hid (((textsL f (k + 1)).length : Int) = (textsL f k).length + ((numL (fun _ => ((f k).size : Int)) 1).length + (f k).size)) := by
        show _ = _
        simp [textsL, oneT, numL, sl_len]
      have hgl := (groups_len (clampN ((f k).size : Int))).2
      have HGL : Hid ((numL (fun _ => ((f k).size : Int)) 1).length ≤ 3) := by show _ ≤ _; simp [numL]; exact hgl
      have hz0 := hz k hlt
      obtain ⟨p0, hp0⟩ : ∃ x, Hid (f k = x) := ⟨_, rfl⟩
      obtain ⟨L0, hL0⟩ : ∃ x, Hid ((textsL f k).length = x) := ⟨_, rfl⟩
      rw [hp0.out] at x0 HS hz0 HGL
      rw [hL0.out] at HS hl ⊢
      have HB : Hid (Below w.heap.size w wr) := hB
      have hP := putNums_many none [] 0 (some ⟨wr.heap.size, 0, none⟩) 1 1 (fun _ => (p0.size : Int)) (wr.alloc (.cells #[.int .i64 (p0.size : Int)] 3)) ⟨Nat.le_refl _, fun i hi => absurd hi (Nat.not_lt_zero _), fun h => absurd h (Nat.lt_irrefl _)⟩ (fun _ => ⟨rfl, rfl⟩) (by simp) (nuv_one wr (p0.size : Int) 3) (by omega)
      clear h hz hB hgl
      go_wp2_with fail
      refine hP.mono ?_
      rintro e w2 ⟨v2, rfl, hr2, hb2⟩
      have HB2 : Hid (Below w.heap.size w w2) := (HB.out.alloc HB.out.size _).trans (hb2.mono (by have := HB.out.size; simp; omega))
      obtain ⟨g2, c2, rfl, -⟩ := hr2
      rw [List.nil_append]
      obtain ⟨G0, hG0⟩ : ∃ x, Hid ((numL (fun _ => (p0.size : Int)) 1).length = x) := ⟨_, rfl⟩
      rw [hG0.out] at HS HGL ⊢
      have hg3 := HGL.out
      clear hP hb2 HB
      go_wp2
      go_roundg (n - (k + 1))
      case measure => omega
      case rel => exact ⟨k + 1, by omega, rfl, by rw [HS.out]; first | done | go_num, by go_num, HB2.out⟩
    · obtain rfl : k = n := by omega
      have hkz : ¬ (k : Int) < (k : Int) := by omega
      clear h hz
      go_wp2
      go_ret
      exact ⟨rfl, hB⟩

set_option maxHeartbeats 1000000 in
theorem sizeOfRest_leaf (a b : Option Addr) (n c m d : Nat) (f : Nat → ByteArray) (w : World) (h : TxV w b m d f) (hn : m ≤ 1048576) (hz : ∀ i, i < m → (f i).size ≤ 1048576) :
    Calls Try.prog 44 #[leafV (.slice a n c) (.slice b m d)] w fun e w' => e = .returned (.int .i64 (textsL f m).length) ∧ Below w.heap.size w w' := by
  have hq := as_leaf_leaf a b n c m d
  have hb0 : Below w.heap.size w (w.alloc (.cells #[.slice a n c, .slice b m d] 87)) := (Below.refl _ _).alloc (Nat.le_refl _) _
  have hS := sizeOfTexts_any b m d f _ (h.below hb0) hn hz
  clear h hz
  unfold leafV
  go_enter Try.func44, Try.ntmps44
  go_wp2_with fail
  refine hS.mono ?_
  rintro e w2 ⟨rfl, hb2⟩
  have HB : Hid (Below w.heap.size w w2) := hb0.trans (hb2.mono (by simp))
  clear hS hb2 hb0 hq
  go_wp2
  go_ret
  exact ⟨rfl, HB.out⟩
set_option maxHeartbeats 1000000 in
theorem sizeOfRest_inner (a b : Option Addr) (n c m d : Nat) (f : Nat → Int) (w : World) (h : NuV w b m d f) (hn : m ≤ 1048576) :
    Calls Try.prog 44 #[innerV (.slice a n c) (.slice b m d)] w fun e w' => e = .returned (.int .i64 (numL f m).length) ∧ Below w.heap.size w w' := by
  have hq := as_inner_leaf a b n c m d
  have hq2 := as_inner_inner a b n c m d
  have hq3 := inner_kids a b n c m d
  have hb0 : Below w.heap.size w (w.alloc (.cells #[.slice none 0 0, .slice none 0 0] 87)) := (Below.refl _ _).alloc (Nat.le_refl _) _
  have hS := putNums_many none [] 0 b m d f _ ⟨Nat.le_refl _, fun i hi => absurd hi (Nat.not_lt_zero _), fun h => absurd h (Nat.lt_irrefl _)⟩ (fun _ => ⟨rfl, rfl⟩) (by simp) (h.below hb0) (by omega)
  have hl := numL_len f m
  clear h
  unfold innerV
  go_enter Try.func44, Try.ntmps44
  go_wp2_with fail
  refine hS.mono ?_
  rintro e w2 ⟨v2, rfl, hr2, hb2⟩
  have HB : Hid (Below w.heap.size w w2) := hb0.trans (hb2.mono (by simp))
  obtain ⟨g2, c2, rfl, -⟩ := hr2
  rw [List.nil_append]
  clear hS hb2 hb0 hq hq2 hq3
  go_wp2
  go_ret
  exact ⟨rfl, HB.out⟩
end Go.Proofs.Ytaiinlcdfeboiaa

