/-
  Together: NodeBent, Equal, NodeGetI, NodeGotI, DrawNodesG, GetSpec, GetTextSpec
-/
import Derived.Test.YtaiinlcdfeboiaaNP13
import Derived.Test.YtaiinlcdfeboiaaNP4
import Derived.Test.YtaiinlcdfeboiaaNP12
import Derived.Test.YtaiinlcdfeboiaaNP11
import Derived.Test.YtaiinlcdfeboiaaNP7
import Derived.Test.YtaiinlcdfeboiaaNP1
import Derived.Test.YtaiinlcdfeboiaaNP6
import Derived.Deep.RegionHeld3
/-
  The same, of nodes.
-/
namespace Go.Proofs.Ytaiinlcdfeboiaa
open Go.RowKit
set_option maxRecDepth 4000

theorem textsL_pre {N : Nat} {F : Nat → Int} {p n : Nat} {f : Nat → ByteArray} (h : AtF N F p (textsL f n)) : ∀ m k, k + m = n → AtF N F p (textsL f k)
  | 0, k, hk => by rw [show k = n by omega]; exact h
  | m + 1, k, hk => by
    have := textsL_pre h m (k + 1) (by omega)
    simp only [textsL] at this
    exact this.left
theorem key_at {N : Nat} {F : Nat → Int} {p n j : Nat} {f : Nat → ByteArray} (h : AtF N F p (textsL f n)) (hj : j < n) : AtF N F (p + (textsL f j).length) (oneT (f j)) := by
  have := textsL_pre h (n - (j + 1)) (j + 1) (by omega)
  simp only [textsL] at this
  exact this.right
theorem groups_one {x : Int} (h : x < 128) : groups x = [x] := groups_last x h
theorem numL_ones (f : Nat → Int) : ∀ n, (∀ i, i < n → 0 ≤ f i ∧ f i < 128) → (numL f n).length = n
  | 0, _ => rfl
  | n + 1, h => by
    simp only [numL, List.length_append]
    rw [numL_ones f n (fun i hi => h i (by omega)), clampN_in (h n (by omega)).1 (by have := (h n (by omega)).2; omega), groups_one (h n (by omega)).2]
    rfl
/-- A small node's bytes: the mark, the count, the keys, the rest. -/
theorem small_parts {m : Nat} {F : Nat → Int} {E : PNode} (hs : Shape E) (hk : E.nk < 128) (a : AtF m F 0 (bytesN E)) :
    F 0 = mk E ∧ F 1 = (E.nk : Int) ∧ AtF m F 2 (textsL E.key E.nk) ∧ (bytesN E).length = 2 + (textsL E.key E.nk).length + (restL E).length := by
  have hb := bytesN_shape hs
  have h1 : groups (mk E) = [mk E] := groups_one (by unfold mk; split <;> omega)
  have h2 : groups (E.nk : Int) = [(E.nk : Int)] := groups_one (by omega)
  rw [h1, h2] at hb
  rw [hb] at a
  refine ⟨?_, ?_, ?_, ?_⟩
  · have := a.left.at' 0 (by simp)
    simpa using this
  · have := a.left.at' 1 (by simp)
    simpa using this
  · have := a.right.left
    simpa using this
  · rw [hb]; simp; omega
/-- The keys of a drawn node. -/
theorem keys_of {n : Nat} {F : Nat → Int} {N : Nat} {f : Nat → ByteArray} (hg : ∀ j, j < N → GoodK (f j)) (a : AtF n F 2 (textsL f N)) : Keys F N (fun j => 2 + (textsL f j).length) (fun j => (f j).size) := by
  have hone : ∀ j, j < N → oneT (f j) = ((f j).size : Int) :: sl (f j) := fun j hj => by
    have := (hg j hj).1
    unfold oneT
    rw [clampN_in (by omega) (by omega), groups_one (by omega)]
    rfl
  refine ⟨rfl, fun j hj => ?_, fun j hj => (hg j hj).1, fun j hj => ?_, fun j hj z hz => ?_⟩
  · simp only [textsL, List.length_append]
    rw [hone j hj, List.length_cons, sl_len]; omega
  · have := (key_at a hj).at' 0 (by rw [hone j hj]; simp)
    rw [hone j hj] at this
    simpa using this
  · have := (key_at a hj).at' (1 + z) (by rw [hone j hj, List.length_cons, sl_len]; omega)
    rw [hone j hj] at this
    rw [show 2 + (textsL f j).length + 1 + z = 2 + (textsL f j).length + (1 + z) by omega, this]
    have hgd := (hg j hj).2
    unfold OkB at hgd
    rw [List.all_eq_true] at hgd
    have hz2 : z < (f j).data.toList.length := by simpa using hz
    have := hgd _ (List.getElem_mem hz2)
    simp only [Bool.and_eq_true, decide_eq_true_eq] at this
    have e : (((f j).size : Int) :: sl (f j)).getD (1 + z) 0 = (((f j).data.toList[z]).toNat : Int) := by
      rw [show 1 + z = z + 1 by omega]
      simp only [List.getD_cons_succ]
      unfold sl
      rw [List.getD_eq_getElem?_getD, List.getElem?_map, List.getElem?_eq_getElem hz2]
      rfl
    rw [e]; omega
/-- The keys that are read. -/
theorem rd_of {m : Nat} {F : Nat → Int} {M : Nat} {f : Nat → ByteArray} (hs : ∀ j, j < M → (f j).size ≤ 240) (a : AtF m F 2 (textsL f M)) : Rd F M (fun j => 2 + (textsL f j).length) (fun j => (f j).size) := by
  refine ⟨rfl, fun j hj => ?_⟩
  have hsz := hs j hj
  have ha := key_at a hj
  by_cases hb : (f j).size < 128
  · left
    have ho : oneT (f j) = ((f j).size : Int) :: sl (f j) := by
      unfold oneT
      rw [clampN_in (by omega) (by omega), groups_one (by omega)]
      rfl
    refine ⟨hb, ?_, ?_⟩
    · have := ha.at' 0 (by rw [ho]; simp)
      rw [ho] at this
      simpa using this
    · simp only [textsL, List.length_append]
      rw [ho, List.length_cons, sl_len]; omega
  · right
    have ho : oneT (f j) = (((f j).size : Int) % 128 + 128) :: (((f j).size : Int) / 128) :: sl (f j) := by
      unfold oneT
      rw [clampN_in (by omega) (by omega), groups_step _ (by omega) (by omega), groups_one (by omega)]
      rfl
    refine ⟨?_, ?_, ?_⟩
    · have := ha.at' 0 (by rw [ho]; simp)
      rw [ho] at this
      simp only [Nat.add_zero, List.getD_cons_zero] at this
      rw [this]; omega
    · have := ha.at' 1 (by rw [ho]; simp)
      rw [ho] at this
      simp only [List.getD_cons_succ, List.getD_cons_zero] at this
      rw [this]; omega
    · simp only [textsL, List.length_append]
      rw [ho, List.length_cons, List.length_cons, sl_len]; omega
theorem at_self (L : List Int) : AtF L.length (fun i => L.getD i 0) 0 L := ⟨by omega, fun j _ => by rw [Nat.zero_add]⟩
/-- What is right has few keys. -/
theorem okI_few {E : PNode} (h : OkI E) : E.nk ≤ 120 ∧ (∀ j, j < E.nk → (E.key j).size ≤ 240) ∧ (bytesN E).length ≤ 240 ∧ (E.leaf = false → E.nd = E.nk + 1 ∧ (restL E).length = E.nk + 1 ∧ 2 * E.nk + 3 ≤ 240) := by
  have hsh := h.shape
  obtain ⟨hp, hk, hs⟩ := h
  have hlen : (bytesN E).length ≤ 240 := by unfold sizeN at hs; omega
  have hb := bytesN_shape hsh
  have hl := congrArg List.length hb
  simp only [List.length_append] at hl
  have hg1 := (groups_len (mk E)).1
  have hg2 := (groups_len (E.nk : Int)).1
  have hkl : E.nk ≤ (textsL E.key E.nk).length := by
    rcases Nat.eq_zero_or_pos E.nk with h | h
    · omega
    · exact (textsL_has E.key E.nk 0 h).2
  have hin : E.leaf = false → E.nd = E.nk + 1 ∧ (restL E).length = E.nk + 1 := fun hlf => by
    rcases hk with ⟨h1, -⟩ | ⟨-, h2, -, h4⟩
    · rw [hlf] at h1; cases h1
    · refine ⟨h2, ?_⟩
      unfold restL
      rw [hlf, if_neg (by simp), numL_ones E.kid E.nd (fun i hi => by have := h4 i hi; omega)]
      exact h2
  have hnk : E.nk ≤ 120 := by
    cases hlf : E.leaf with
    | false => have := hin hlf; omega
    | true =>
      rcases hk with ⟨h1, h2, h3, h4, h5, h6⟩ | ⟨h1, -⟩
      · have hr : E.nk ≤ (restL E).length := by
          unfold restL
          rw [hlf, if_pos rfl, h3]
          exact (textsL_has E.val E.nk 0 h2).2
        omega
      · rw [hlf] at h1; cases h1
  exact ⟨hnk, fun j hj => by have := (textsL_has E.key E.nk j hj).1; omega, hlen, fun hlf => by have := hin hlf; omega⟩
/-- A drawn node's bytes, bent, are never those of a node that is right by the program's words and has a long key. -/
theorem bent_short {D E : PNode} (hD : OkS D) (hg : ∀ j, j < D.nk → GoodK (D.key j)) {m : Nat} {F : Nat → Int} (ht : Turn (bytesN D).length (bytesN D) m F) (hE : OkI E) (he : bytesN E = lof m F) : NoneL 48 E.nk E.key := by
  cases hlf : E.leaf with
  | true =>
    rcases hE.2.1 with ⟨-, -, -, -, h5, -⟩ | ⟨h1, -⟩
    · exact h5
    · rw [hlf] at h1; cases h1
  | false =>
  obtain ⟨dk, dsz, dlen, dr⟩ := okI_few hD.i
  obtain ⟨ek, esz, elen, er⟩ := okI_few hE
  obtain ⟨d0, d1, dA, dL⟩ := small_parts hD.i.shape (by omega) (at_self (bytesN D))
  obtain ⟨e0, e1, eA, eL⟩ := small_parts hE.shape (by omega) (at_lof he)
  have hKD := keys_of hg dA
  have hRE := rd_of esz eA
  have hm : (bytesN E).length = m := by rw [he, lof_len]
  obtain ⟨-, er2, er3⟩ := er hlf
  have hmk : mk E = 0 := by unfold mk; rw [hlf]; rfl
  have hSn : ∀ j, j < D.nk → 2 + (textsL D.key j).length < (bytesN D).length := fun j hj => by
    have h1 := hKD.le (i := j) (j := D.nk) (by omega) (Nat.le_refl _)
    omega
  have hTm : 2 + (textsL E.key E.nk).length < m := by omega
  -- where the count and the lengths are as they were
  have plain : F 1 = (bytesN D).getD 1 0 → (∀ j, j < D.nk → 2 + (textsL D.key j).length < m → F (2 + (textsL D.key j).length) = (bytesN D).getD (2 + (textsL D.key j).length) 0) → NoneL 48 E.nk E.key := fun hc hl => by
    have hnk : E.nk = D.nk := by rw [e1, d1] at hc; omega
    obtain ⟨-, hx⟩ := follow hKD hRE D.nk (Nat.le_refl _) (by omega) (fun i hi hlt => by
      rw [hl i hi (by omega)]
      exact hKD.len i hi)
    intro j hj
    have h1 : (E.key j).size = (D.key j).size := hx j (by omega)
    have h2 := (hg j (by omega)).1
    omega
  rcases ht with ht | ⟨hmn, p, z, hp, hz, hFp, ht⟩
  · exact plain (ht 1 (by omega) (by omega)) (fun j hj hlt => ht _ hlt (hSn j hj))
  · have inner : p ≠ 0 → D.leaf = false ∧ (restL D).length = D.nk + 1 := fun h0 => by
      have := ht 0 (by omega)
      rw [e0, d0, hmk] at this
      have hl : D.leaf = false := by
        unfold mk at this
        cases hd : D.leaf with
        | false => rfl
        | true => rw [hd] at this; simp at this
      exact ⟨hl, (dr hl).2.1⟩
    by_cases hp1 : p = 1
    · subst hp1
      obtain ⟨hdl, hdr⟩ := inner (by omega)
      rw [e1] at hFp
      have hM : E.nk ≤ 2 := by omega
      by_cases hle : E.nk ≤ D.nk
      · obtain ⟨-, hx⟩ := follow hKD hRE E.nk hle (Nat.le_refl _) (fun i hi _ => by
          have := ht (2 + (textsL D.key i).length) (by omega)
          rw [this]
          exact hKD.len i (by omega))
        intro j hj
        have h1 : (E.key j).size = (D.key j).size := hx j hj
        have h2 := (hg j (by omega)).1
        omega
      · obtain ⟨hT, -⟩ := follow hKD hRE D.nk (Nat.le_refl _) (by omega) (fun i hi _ => by
          have := ht (2 + (textsL D.key i).length) (by omega)
          rw [this]
          exact hKD.len i hi)
        have h1 := hRE.le (i := D.nk) (j := E.nk) (by omega) (Nat.le_refl _)
        omega
    · by_cases hpl : ∃ i, i < D.nk ∧ p = 2 + (textsL D.key i).length
      · obtain ⟨i, hi, rfl⟩ := hpl
        obtain ⟨hdl, hdr⟩ := inner (by omega)
        have hnk : E.nk = D.nk := by
          have := ht 1 (by omega)
          rw [e1, d1] at this; omega
        rw [hnk] at hRE
        have hall := bent_len hKD hRE hi (fun z hz => ht z hz) (by rw [hnk] at eL; omega)
        intro j hj
        have h1 := hall j (by omega)
        omega
      · exact plain (ht 1 (by omega)) (fun j hj _ => ht _ (fun e => hpl ⟨j, hj, e.symm⟩))
end Go.Proofs.Ytaiinlcdfeboiaa

/-
  bytes.Equal at two slices of bytes that read.
-/
namespace Go.Proofs.Ytaiinlcdfeboiaa
open Go.RowKit
set_option maxRecDepth 4000

set_option maxHeartbeats 400000 in
theorem equal_any (b1 o1 n c1 : Nat) (f : Nat → Int) (b2 o2 m c2 : Nat) (g : Nat → Int) (w : World) (h1 : View w (some ⟨b1, o1, none⟩) n c1 f) (h2 : View w (some ⟨b2, o2, none⟩) m c2 g) :
    Calls Try.prog 39 #[.slice (some ⟨b1, o1, none⟩) n c1, .slice (some ⟨b2, o2, none⟩) m c2] w fun e w' => e = .returned (.bool ((strOfNums (lof n f)).toList == (strOfNums (lof m g)).toList)) ∧ w = w' := by
  have q1 := conv_view h1
  have q2 := conv_view h2
  go_enter Try.func39, Try.ntmps39
  go_wp2
  go_ret
  exact ⟨rfl, rfl⟩
end Go.Proofs.Ytaiinlcdfeboiaa

/-
  The program's readNode and GetNode.
-/
namespace Go.Proofs.Ytaiinlcdfeboiaa
open Go.RowKit
set_option maxRecDepth 4000

/-- An address from B on. -/
def HiA (B : Nat) (a : Option Addr) : Prop := ∀ p, a = some p → B ≤ p.block
theorem OV.setHi {w : World} {a : Option Addr} {n c B k i : Nat} {f : Nat → Value} {u : Value} (h : OV w a n c f) (hh : HiA B a) (hk : k < B) : OV (w.setCell ⟨k, i, none⟩ u) a n c f := by
  refine ⟨h.le, fun hn => ?_⟩
  obtain ⟨b, off, e, hlt, hc⟩ := h.cells hn
  have hb := hh _ e
  refine ⟨b, off, e, by simpa using hlt, fun j hj => ?_⟩
  rw [World.cell?_of_block (w := w) (a := ⟨b, off + j, none⟩) (Below.heap_setCell _ _ _ _ (by show b ≠ k; have : B ≤ b := hb; omega))]
  exact hc j hj
theorem ov_ownHi {W : World} {base T : Nat} {v : Value} {N : Nat} {xs : List Value} {F : Nat → Value} (h : W.ownsRow base T 1 v N xs) (hF : ∀ i, i < N → xs[i]? = some (F i)) : ∃ a c, v = .slice a N c ∧ OV W a N c F ∧ HiA base a := by
  obtain ⟨hl, h⟩ := h
  rcases h with ⟨rfl, h0⟩ | ⟨g, k, cur, rfl, hb, hg, hnc, _, hcs, ht⟩
  · have hN : N = 0 := by omega
    subst hN
    exact ⟨none, 0, rfl, ⟨Nat.le_refl _, fun hn => absurd hn (Nat.lt_irrefl _)⟩, fun p e => by cases e⟩
  · refine ⟨_, k, rfl, ⟨hnc, fun _ => ⟨g, 0, rfl, (Array.getElem?_eq_some_iff.1 hg).1, fun i hi => ?_⟩⟩, fun p e => by cases e; exact hb⟩
    have hx := hF i hi
    rw [← ht, List.getElem?_take, if_pos (by omega)] at hx
    simp only [World.cell?, hg, Nat.zero_add]
    simpa using hx
theorem own_txHi {W : World} {base m : Nat} {v : Value} {l : List ByteArray} (hl : l.length = m) (h : W.ownsRow base 9 1 v m (txc l)) : ∃ a c, v = .slice a m c ∧ TxV W a m c (lfT l) ∧ HiA base a :=
  ov_ownHi h (fun i hi => by simp [txc, lfT, List.getD, hl, hi])
theorem own_nuHi {W : World} {base m : Nat} {v : Value} {l : List Int} (hl : l.length = m) (h : W.ownsRow base 3 1 v m (nuc l)) : ∃ a c, v = .slice a m c ∧ NuV W a m c (lfN l) ∧ HiA base a :=
  ov_ownHi h (fun i hi => by simp [nuc, lfN, List.getD, hl, hi])
/-- A node within that reads, its rows from B on. -/
def KV (W : World) (B : Nat) (kv : Value) (E : PNode) : Prop :=
  (E.leaf = true ∧ ∃ a c b d, kv = leafV (.slice a E.nk c) (.slice b E.nv d) ∧ TxV W a E.nk c E.key ∧ TxV W b E.nv d E.val ∧ HiA B a ∧ HiA B b)
  ∨ (E.leaf = false ∧ ∃ a c b d, kv = innerV (.slice a E.nk c) (.slice b E.nd d) ∧ TxV W a E.nk c E.key ∧ NuV W b E.nd d E.kid ∧ HiA B a ∧ HiA B b)
/-- What readNode answers: a node of these bytes, or there is none. -/
def Reads (w : World) (n : Nat) (F : Nat → Int) (e : Ending) (w' : World) : Prop :=
  Below w.heap.size w w' ∧
  ((∃ (E : PNode) (kv : Value) (m : Int), e = .returned (.tuple #[kv, .bool true]) ∧ KV w' w.heap.size kv E ∧ Shape E ∧ 0 < n ∧ (0 ≤ m ∧ m ≤ 1000000) ∧ (m = 1 ↔ E.leaf = true) ∧ AtF n F 0 (groups m ++ groups E.nk ++ (textsL E.key E.nk ++ restL E)))
  ∨ (∃ kv : Value, e = .returned (.tuple #[kv, .bool false]) ∧ ∀ E, Shape E → ¬ AtF n F 0 (bytesN E)))
theorem getU_zero {n : Nat} {f : Nat → Int} {p a q : Int} (h : getU n f p = (a, q, false)) : a = 0 ∧ q = 0 := by
  unfold getU at h
  repeat (first | (split at h) | (simp only [Prod.mk.injEq] at h; omega) | (simp only [Prod.mk.injEq, Bool.true_eq_false, and_false] at h))
  all_goals (first | (simp only [Prod.mk.injEq] at h; omega) | (simp at h))
/-- What is read of bytes is a small number, and a place within. -/
theorem getU_small {n : Nat} {f : Nat → Int} {p a q : Int} {ok : Bool} (hf : ∀ i, i < n → 0 ≤ f i ∧ f i ≤ 255) (h : getU n f p = (a, q, ok)) : ∃ A Q : Nat, a = A ∧ q = Q ∧ A ≤ 1000000 ∧ Q ≤ n := by
  cases ok with
  | true =>
    obtain ⟨h1, h2, h3, h4⟩ := getU_bd hf h
    exact ⟨a.toNat, q.toNat, by omega, by omega, by omega, by omega⟩
  | false =>
    obtain ⟨rfl, rfl⟩ := getU_zero h
    exact ⟨0, 0, rfl, rfl, Nat.zero_le _, Nat.zero_le _⟩
theorem mk_one {E : PNode} : mk E = 1 ↔ E.leaf = true := by unfold mk; cases E.leaf <;> simp

theorem no_of_get1 {n : Nat} {F : Nat → Int} {m q : Int} (h : getU n F 0 = (m, q, false)) : ∀ E, Shape E → ¬ AtF n F 0 (bytesN E) := fun E hs ha => by
  obtain ⟨p1, p2, d1, -, -, -⟩ := at_parts hs ha
  rw [h] at d1; cases d1
theorem no_of_get2 {n : Nat} {F : Nat → Int} {m c q2 : Int} {Q : Nat} {ok : Bool} (h1 : getU n F 0 = (m, (Q : Int), ok)) (h : getU n F (Q : Int) = (c, q2, false)) : ∀ E, Shape E → ¬ AtF n F 0 (bytesN E) := fun E hs ha => by
  obtain ⟨p1, p2, d1, d2, -, -⟩ := at_parts hs ha
  rw [h1] at d1
  simp only [Prod.mk.injEq] at d1
  rw [← d1.2.1, h] at d2; cases d2
theorem no_of_keys {n : Nat} {F : Nat → Int} {m : Int} {Q C P : Nat} {ok ok2 : Bool} (h1 : getU n F 0 = (m, (Q : Int), ok)) (h2 : getU n F (Q : Int) = ((C : Int), (P : Int), ok2)) (h : ∀ g, NoneL 1000000 C g → ¬ AtF n F P (textsL g C)) : ∀ E, Shape E → ¬ AtF n F 0 (bytesN E) := fun E hs ha => by
  obtain ⟨p1, p2, d1, d2, d3, -⟩ := at_parts hs ha
  rw [h1] at d1
  simp only [Prod.mk.injEq] at d1
  rw [← d1.2.1, h2] at d2
  simp only [Prod.mk.injEq] at d2
  have e1 : E.nk = C := by omega
  have e2 : p2 = P := by omega
  have hk := hs.key
  rw [e1] at hk d3
  rw [e2] at d3
  exact h _ hk d3
theorem rest_at {n : Nat} {F : Nat → Int} {m : Int} {Q C P : Nat} {l : List ByteArray} (h1 : getU n F 0 = (m, (Q : Int), true)) (h2 : getU n F (Q : Int) = ((C : Int), (P : Int), true)) (hl : NoneL 1000000 C (lfT l)) (ht : AtF n F P (textsL (lfT l) C)) (E : PNode) (hs : Shape E) (ha : AtF n F 0 (bytesN E)) :
    mk E = m ∧ E.nk = C ∧ AtF n F (P + (textsL (lfT l) C).length) (restL E) := by
  obtain ⟨p1, p2, d1, d2, d3, d4⟩ := at_parts hs ha
  rw [h1] at d1
  simp only [Prod.mk.injEq] at d1
  rw [← d1.2.1, h2] at d2
  simp only [Prod.mk.injEq] at d2
  have e1 : E.nk = C := by omega
  have e2 : p2 = P := by omega
  have hk := hs.key
  rw [e1] at hk d3 d4
  rw [e2] at d3 d4
  rw [textsL_congr C (textsL_uniq C hk hl d3 ht)] at d4
  exact ⟨d1.1.symm, e1, d4⟩
theorem no_of_vals {n : Nat} {F : Nat → Int} {Q C P : Nat} {l : List ByteArray} (h1 : getU n F 0 = (1, (Q : Int), true)) (h2 : getU n F (Q : Int) = ((C : Int), (P : Int), true)) (hl : NoneL 1000000 C (lfT l)) (ht : AtF n F P (textsL (lfT l) C))
    (h : ∀ g, NoneL 1000000 C g → ¬ AtF n F (P + (textsL (lfT l) C).length) (textsL g C)) : ∀ E, Shape E → ¬ AtF n F 0 (bytesN E) := fun E hs ha => by
  obtain ⟨hm, hk, hr⟩ := rest_at h1 h2 hl ht E hs ha
  have hle := mk_one.1 hm
  rcases hs.cnt with ⟨-, hc⟩ | ⟨hc, -⟩
  · unfold restL at hr
    rw [hle, if_pos rfl] at hr
    have hv := hs.val
    rw [show E.nv = C by omega] at hv hr
    exact h _ hv hr
  · rw [hle] at hc; cases hc
theorem no_of_kids {n : Nat} {F : Nat → Int} {m : Int} {Q C P : Nat} {l : List ByteArray} (h1 : getU n F 0 = (m, (Q : Int), true)) (h2 : getU n F (Q : Int) = ((C : Int), (P : Int), true)) (hl : NoneL 1000000 C (lfT l)) (ht : AtF n F P (textsL (lfT l) C)) (hm1 : m ≠ 1)
    (h : ∀ g, InU (C + 1) g → ¬ AtF n F (P + (textsL (lfT l) C).length) (numL g (C + 1))) : ∀ E, Shape E → ¬ AtF n F 0 (bytesN E) := fun E hs ha => by
  obtain ⟨hm, hk, hr⟩ := rest_at h1 h2 hl ht E hs ha
  have hle : E.leaf = false := by
    cases hle : E.leaf with
    | false => rfl
    | true => have := mk_one.2 hle; exact absurd (by omega) hm1
  rcases hs.cnt with ⟨hc, -⟩ | ⟨-, hc⟩
  · rw [hle] at hc; cases hc
  · unfold restL at hr
    rw [hle, if_neg (by simp)] at hr
    have hv := hs.kid
    rw [show E.nd = C + 1 by omega] at hv hr
    exact h _ hv hr
/-- The front of a node that was read. -/
theorem front_at {n : Nat} {F : Nat → Int} {m : Int} {Q C P : Nat} (hb : ∀ i, i < n → 0 ≤ F i ∧ F i ≤ 255) (h1 : getU n F 0 = (m, (Q : Int), true)) (h2 : getU n F (Q : Int) = ((C : Int), (P : Int), true)) :
    0 < n ∧ AtF n F 0 (groups m ++ groups (C : Int)) ∧ P = (groups m ++ groups (C : Int)).length := by
  obtain ⟨i, hi, a1, q1, hx⟩ := getU_read hb h1
  obtain ⟨j, hj, a2, q2, hx2⟩ := getU_read hb h2
  have hi0 : i = 0 := by omega
  subst hi0
  have hjq : j = 0 + (groups m).length := by omega
  rw [hjq] at a2
  refine ⟨?_, a1.append a2, by rw [List.length_append]; omega⟩
  have := a1.le
  have := (groups_len m).1
  omega

set_option maxHeartbeats 8000000 in
theorem readNode_any (b off n cap : Nat) (F : Nat → Int) (w : World) (hv : View w (some ⟨b, off, none⟩) n cap F) (hn : n ≤ 4194304) :
    Calls Try.prog 37 #[.slice (some ⟨b, off, none⟩) n cap] w (Reads w n F) := by
  obtain ⟨m, q1, ok1, hg1⟩ : ∃ m q ok, Hid (getU n F 0 = (m, q, ok)) := ⟨_, _, _, rfl⟩
  obtain ⟨M, Q, rfl, rfl, hM, hQ⟩ := getU_small hv.byte hg1.out
  obtain ⟨c, q2, ok2, hg2⟩ : ∃ m q ok, Hid (getU n F (Q : Int) = (m, q, ok)) := ⟨_, _, _, rfl⟩
  obtain ⟨C, P, rfl, rfl, hC, hP⟩ := getU_small hv.byte hg2.out
  have hc1 := getU_implN b off n cap F 0 w M Q ok1 hg1 hv (by omega) (by omega)
  have hc2 := getU_implN b off n cap F (Q : Int) w C P ok2 hg2 hv (by omega) (by omega)
  have hk := eachT_any b off n cap F P C w hv hn hP (by omega)
  have HV : Hid (View w (some ⟨b, off, none⟩) n cap F) := hv
  clear hv
  go_enter Try.func37, Try.ntmps37
  go_wp2_with fail
  refine hc1.mono ?_
  rintro e _ ⟨rfl, rfl⟩
  clear hc1
  go_wp2_with fail
  refine hc2.mono ?_
  rintro e _ ⟨rfl, rfl⟩
  clear hc2
  go_wp2_with fail
  refine hk.mono ?_
  rintro e w1 ⟨hb1, hE⟩
  have HB1 : Hid (Below w.heap.size w w1) := hb1
  clear hk hb1
  rcases hE with ⟨l, v, rfl, hl, hown, hin, hat⟩ | ⟨a0, c0, rfl, hno⟩
  case inr =>
    have HNO : Hid (∀ E, Shape E → ¬ AtF n F 0 (bytesN E)) := no_of_keys hg1.out hg2.out hno
    clear hg1 hg2 hno HV
    cases ok1 <;> cases ok2
    all_goals
      go_wp2
      go_ret2
      exact ⟨HB1.out, .inr ⟨_, rfl, HNO.out⟩⟩
  cases ok1 with
  | false =>
    have HNO : Hid (∀ E, Shape E → ¬ AtF n F 0 (bytesN E)) := no_of_get1 hg1.out
    clear hg1 hg2 HV hl hown hin hat
    cases ok2
    all_goals
      go_wp2
      go_ret2
      exact ⟨HB1.out, .inr ⟨_, rfl, HNO.out⟩⟩
  | true =>
  cases ok2 with
  | false =>
    have HNO : Hid (∀ E, Shape E → ¬ AtF n F 0 (bytesN E)) := no_of_get2 hg1.out hg2.out
    clear hg1 hg2 HV hl hown hin hat
    go_wp2
    go_ret2
    exact ⟨HB1.out, .inr ⟨_, rfl, HNO.out⟩⟩
  | true =>
  have HF : Hid (0 < n ∧ AtF n F 0 (groups (M : Int) ++ groups (C : Int)) ∧ P = (groups (M : Int) ++ groups (C : Int)).length) := front_at HV.out.byte hg1.out hg2.out
  have HI : Hid (l.length = C ∧ NoneL 1000000 C (lfT l) ∧ AtF n F P (textsL (lfT l) C)) := ⟨hl, hin, hat⟩
  obtain ⟨a1, c1, rfl, ht1, hh1⟩ := own_txHi hl hown
  have HK : Hid (TxV w1 a1 C c1 (lfT l) ∧ HiA w.heap.size a1) := ⟨ht1, hh1⟩
  have hle := hat.le
  obtain ⟨T, hT⟩ := hidN (P + (textsL (lfT l) C).length)
  rw [hT.out] at hle ⊢
  clear hl hown hin hat ht1 hh1
  by_cases hm : M = 1
  · subst hm
    have hk2 := eachT_any b off n cap F T C w1 (HV.out.below HB1.out) hn hle (by omega)
    go_wp2_with fail
    refine hk2.mono ?_
    rintro e w2 ⟨hb2, hE⟩
    have HB2 : Hid (Below w.heap.size w w2) := HB1.out.trans (hb2.mono HB1.out.size)
    have HK2 : Hid (TxV w2 a1 C c1 (lfT l)) := HK.out.1.below hb2
    have hs1 := HB1.out.size
    clear hk2 hb2
    rcases hE with ⟨l2, v2, rfl, hl2, hown2, hin2, hat2⟩ | ⟨a0, c0, rfl, hno⟩
    · obtain ⟨a2, c2, rfl, ht2, hh2⟩ := own_txHi hl2 hown2
      have HO : Hid (Reads w n F (.returned (.tuple #[leafV (.slice a1 C c1) (.slice a2 C c2), .bool true])) w2) := by
        refine ⟨HB2.out, .inl ⟨⟨true, C, lfT l, C, lfT l2, 0, fun _ => 0⟩, _, 1, rfl, .inl ⟨rfl, a1, c1, a2, c2, rfl, HK2.out, ht2, HK.out.2, fun p e => Nat.le_trans hs1 (hh2 p e)⟩, ⟨.inl ⟨rfl, rfl⟩, .inl ⟨rfl, rfl⟩, hC, HI.out.2.1, hin2, fun i hi => absurd hi (Nat.not_lt_zero _)⟩, HF.out.1, ⟨by decide, by decide⟩, by simp, ?_⟩⟩
        refine HF.out.2.1.append ?_
        rw [Nat.zero_add, show (groups (((1 : Nat) : Int)) ++ groups (C : Int)).length = P from HF.out.2.2.symm]
        show AtF n F P (textsL (lfT l) C ++ textsL (lfT l2) C)
        refine HI.out.2.2.append ?_
        rw [hT.out]; exact hat2
      clear HB2 HK2 HK HI HF HB1 HV hT hl2 hown2 hin2 hat2 ht2 hh2 hg1 hg2
      unfold leafV at HO
      go_wp2
      go_ret2
      exact HO.out
    · have HNO : Hid (∀ E, Shape E → ¬ AtF n F 0 (bytesN E)) := no_of_vals hg1.out hg2.out HI.out.2.1 HI.out.2.2 (by rw [hT.out]; exact hno)
      clear hg1 hg2 HV hno HI HK HK2 HF hT
      go_wp2
      go_ret2
      exact ⟨HB2.out, .inr ⟨_, rfl, HNO.out⟩⟩
  · have hmz : ((M : Int) == 1) = false := by simp; omega
    have hw1 : IntKind.i64.wrap ((C : Int) + 1) = ((C + 1 : Nat) : Int) := by rw [IntKind.wrap_i64]; omega
    have HM : Hid ((M : Int) ≠ 1) := by show _ ≠ _; omega
    have hk2 := eachN_any b off n cap F T (C + 1) w1 (HV.out.below HB1.out) hn hle (by omega)
    obtain ⟨C1, hC1⟩ := hidN (C + 1)
    rw [hC1.out] at hw1 hk2
    clear hm
    go_wp2_with fail
    refine hk2.mono ?_
    rintro e w2 ⟨hb2, hE⟩
    have HB2 : Hid (Below w.heap.size w w2) := HB1.out.trans (hb2.mono HB1.out.size)
    have HK2 : Hid (TxV w2 a1 C c1 (lfT l)) := HK.out.1.below hb2
    have hs1 := HB1.out.size
    clear hk2 hb2
    rcases hE with ⟨l2, v2, rfl, hl2, hown2, hin2, hat2⟩ | ⟨a0, c0, rfl, hno⟩
    · obtain ⟨a2, c2, rfl, ht2, hh2⟩ := own_nuHi hl2 hown2
      have HO : Hid (Reads w n F (.returned (.tuple #[innerV (.slice a1 C c1) (.slice a2 C1 c2), .bool true])) w2) := by
        refine ⟨HB2.out, .inl ⟨⟨false, C, lfT l, 0, fun _ => ⟨#[]⟩, C1, lfN l2⟩, _, M, rfl, .inr ⟨rfl, a1, c1, a2, c2, rfl, HK2.out, ht2, HK.out.2, fun p e => Nat.le_trans hs1 (hh2 p e)⟩, ⟨.inr ⟨rfl, rfl⟩, .inr ⟨rfl, hC1.out.symm⟩, hC, HI.out.2.1, fun i hi => absurd hi (Nat.not_lt_zero _), hin2⟩, HF.out.1, ⟨by omega, by omega⟩, ⟨fun h => absurd h HM.out, fun h => by cases h⟩, ?_⟩⟩
        refine HF.out.2.1.append ?_
        rw [Nat.zero_add, show (groups (M : Int) ++ groups (C : Int)).length = P from HF.out.2.2.symm]
        show AtF n F P (textsL (lfT l) C ++ numL (lfN l2) C1)
        refine HI.out.2.2.append ?_
        rw [hT.out]; exact hat2
      clear HB2 HK2 HK HI HF HB1 HV hT hl2 hown2 hin2 hat2 ht2 hh2 hg1 hg2 HM hC1
      unfold innerV at HO
      go_wp2
      go_ret2
      exact HO.out
    · have HNO : Hid (∀ E, Shape E → ¬ AtF n F 0 (bytesN E)) := no_of_kids hg1.out hg2.out HI.out.2.1 HI.out.2.2 HM.out (by rw [hT.out, hC1.out]; exact hno)
      clear hg1 hg2 HV hno HI HK HK2 HF hT HM hC1
      go_wp2
      go_ret2
      exact ⟨HB2.out, .inr ⟨_, rfl, HNO.out⟩⟩
end Go.Proofs.Ytaiinlcdfeboiaa

/-
  The program's GetNode.
-/
namespace Go.Proofs.Ytaiinlcdfeboiaa
open Go.RowKit
set_option maxRecDepth 4000

theorem KV.node {W : World} {B : Nat} {kv : Value} {E : PNode} (h : KV W B kv E) (hs : Shape E) : ∃ a c b d i k, (∀ W' : World, Calls Try.prog 38 #[kv] W' fun e w' => e = .returned (.agg #[.bool E.leaf, .slice a E.nk c, .slice b E.nv d, .slice i E.nd k]) ∧ Below W'.heap.size W' w') ∧ TxV W a E.nk c E.key ∧ TxV W b E.nv d E.val ∧ NuV W i E.nd k E.kid ∧ HiA B a ∧ HiA B b ∧ HiA B i := by
  rcases h with ⟨hl, a, c, b, d, rfl, h1, h2, h3, h4⟩ | ⟨hl, a, c, b, d, rfl, h1, h2, h3, h4⟩
  · have hd : E.nd = 0 := by rcases hs.pure with ⟨-, z⟩ | ⟨z, -⟩; exact z; rw [hl] at z; cases z
    refine ⟨a, c, b, d, none, 0, fun W' => ?_, h1, h2, ⟨by omega, fun h => absurd h (by omega)⟩, h3, h4, fun p e => by cases e⟩
    rw [hl, hd]; exact nodeOf_leaf _ _ _ _ _ _ W'
  · have hd : E.nv = 0 := by rcases hs.pure with ⟨z, -⟩ | ⟨-, z⟩; rw [hl] at z; cases z; exact z
    refine ⟨a, c, none, 0, b, d, fun W' => ?_, h1, ⟨by omega, fun h => absurd h (by omega)⟩, h2, h3, (fun p e => by cases e), h4⟩
    rw [hl, hd]; exact nodeOf_inner _ _ _ _ _ _ W'
theorem Shape.fine {E : PNode} (h : Shape E) : NFine E :=
  ⟨by have := h.nk; omega, fun i hi => by have := h.key i hi; omega, by rcases h.cnt with ⟨-, c⟩ | ⟨c, -⟩; have := h.nk; omega; rcases h.pure with ⟨z, -⟩ | ⟨-, z⟩; rw [c] at z; cases z; omega, fun i hi => by have := h.val i hi; omega, by rcases h.cnt with ⟨c, -⟩ | ⟨-, c⟩; rcases h.pure with ⟨-, z⟩ | ⟨z, -⟩; omega; rw [c] at z; cases z; have := h.nk; omega, fun i hi => by have := h.kid i hi; omega⟩
/-- A node's value, of whatever cells. -/
def NdForm (v : Value) : Prop := ∃ lf a n c b m d i k l, v = .agg #[.bool lf, .slice a n c, .slice b m d, .slice i k l]
/-- What GetNode answers: the node of these bytes that is right, or there is none. -/
def Got (OK : PNode → Prop) (w : World) (n : Nat) (F : Nat → Int) (e : Ending) (w' : World) : Prop :=
  Below w.heap.size w w' ∧ ∃ (r : Bool) (v : Value), e = .returned (.tuple #[v, .bool r]) ∧ NdForm v ∧ (r = true → ∃ E, NdView w' v E ∧ NFine E ∧ OK E ∧ bytesN E = lof n F) ∧ (r = false → ∀ E, OK E → bytesN E ≠ lof n F)
theorem okI_byte (D : PNode) : ∀ y ∈ bytesN D, 0 ≤ y ∧ y ≤ 255 := by
  unfold bytesN
  refine apps_byte (apps_byte (headL_byte D) (textsL_byte _ _)) ?_
  split
  · exact textsL_byte _ _
  · exact numL_byte _ _
theorem putI_byte (D : PNode) : ∀ y ∈ putI D, 0 ≤ y ∧ y ≤ 255 := by
  unfold putI
  split
  · exact okI_byte D
  · intro y hy; cases hy
theorem lof_byteG {n : Nat} {F : Nat → Int} (h : ∀ i, i < n → 0 ≤ F i ∧ F i ≤ 255) : ∀ y ∈ lof n F, 0 ≤ y ∧ y ≤ 255 := by
  intro y hy
  obtain ⟨j, hj, rfl⟩ := List.mem_map.1 hy
  exact h _ (by have := List.mem_range.1 hj; omega)
theorem equal_lof {L : List Int} {n : Nat} {F : Nat → Int} (hL : ∀ y ∈ L, 0 ≤ y ∧ y ≤ 255) (hF : ∀ i, i < n → 0 ≤ F i ∧ F i ≤ 255) :
    ((strOfNums (lof L.length (fun i => L.getD i 0))).toList == (strOfNums (lof n F)).toList) = true ↔ L = lof n F := by
  rw [lof_self]
  constructor
  · intro h
    exact strOfNums_inj hL (lof_byteG hF) (bytes_inj.1 (eq_of_beq h))
  · intro h
    rw [← h]; exact bytes_eq rfl
/-- If what was read puts these bytes it is right and they are its bytes; if not there is none. -/
theorem got_yes {n : Nat} {F : Nat → Int} {E : PNode} (h0 : 0 < n) (h : putI E = lof n F) : OkI E ∧ bytesN E = lof n F := by
  by_cases hk : OkI E
  · exact ⟨hk, by unfold putI at h; rw [if_pos hk] at h; exact h⟩
  · unfold putI at h
    rw [if_neg hk] at h
    have := congrArg List.length h
    rw [lof_len] at this
    simp at this
    omega
theorem got_no {n : Nat} {F : Nat → Int} {E : PNode} {m : Int} (hs : Shape E) (hm0 : 0 ≤ m ∧ m ≤ 1000000) (hm : m = 1 ↔ E.leaf = true) (ha : AtF n F 0 (groups m ++ groups E.nk ++ (textsL E.key E.nk ++ restL E))) (h : putI E ≠ lof n F) : ∀ D, OkI D → bytesN D ≠ lof n F := by
  intro D hD he
  have hb := at_lof he
  have hDs := hD.shape
  obtain ⟨p1, p2, d1, d2, d3, d4⟩ := at_parts hDs hb
  have g1 := getU_at hm0.1 hm0.2 ha.left.left
  rw [show ((0 : Nat) : Int) = 0 from rfl, d1] at g1
  simp only [Prod.mk.injEq, and_true] at g1
  have hmk : mk E = m := by
    have h1 : mk D = m := g1.1
    unfold mk at h1 ⊢
    cases hl : E.leaf with
    | true => simp; exact (hm.2 hl).symm
    | false =>
      have hm1 : m ≠ 1 := fun e => by have := hm.1 e; rw [hl] at this; cases this
      cases hd : D.leaf with
      | true => rw [hd] at h1; simp at h1; exact absurd h1.symm hm1
      | false => rw [hd] at h1; simp at h1 ⊢; exact h1
  rw [← hmk, ← bytesN_shape hs] at ha
  have hsame := bytesN_uniq hs hDs ha hb
  have hk := hsame.okI hD
  apply h
  unfold putI
  rw [if_pos hk, hsame.bytes, he]

set_option maxHeartbeats 4000000 in
theorem implGetNode_any (b off n cap : Nat) (F : Nat → Int) (w : World) (hv : View w (some ⟨b, off, none⟩) n cap F) (hn : n ≤ 4194304) :
    Calls Try.prog 12 #[.slice (some ⟨b, off, none⟩) n cap] w (Got OkI w n F) := by
  obtain ⟨W0, hW0⟩ : ∃ W0, Hid (w.alloc (.cells #[.bool false, .slice none 0 0, .slice none 0 0, .slice none 0 0] 27) = W0) := ⟨_, rfl⟩
  have hb0 : Below w.heap.size w W0 := by rw [← hW0.out]; exact (Below.refl _ _).alloc (Nat.le_refl _) _
  have hs0 : W0.heap.size = w.heap.size + 1 := by rw [← hW0.out]; simp
  have hV0 : V4 W0 w.heap.size 27 (.bool false) (.slice none 0 0) (.slice none 0 0) (.slice none 0 0) := by rw [← hW0.out]; exact V4.new w _ _ _ _ _
  have hR := readNode_any b off n cap F W0 (hv.below hb0) hn
  have HV : Hid (View w (some ⟨b, off, none⟩) n cap F) := hv
  clear hv
  go_enter Try.func12, Try.ntmps12
  go_wp2_with (first | rw [hW0.out] | fail)
  refine hR.mono ?_
  rintro e w1 ⟨hb1, hE⟩
  have HB1 : Hid (Below W0.heap.size W0 w1) := hb1
  have hV1 := hV0.below hb1
  have hbw1 : Below w.heap.size w w1 := hb0.trans (hb1.mono hb0.size)
  clear hR hb1 hV0
  rcases hE with ⟨E, kv, m, rfl, hkv, hs, h0, hm0, hm, hat⟩ | ⟨kv, rfl, hno⟩
  case inr =>
    have HNO : Hid (∀ E, OkI E → bytesN E ≠ lof n F) := fun E hE he => hno E hE.shape (at_lof he)
    obtain ⟨x0, x1, x2, x3⟩ := hV1.cells
    obtain ⟨z0, z1, z2, z3⟩ := hV1.fz
    have HS : Hid (V4 ((((w1.setCell ⟨w.heap.size, 0, none⟩ (.bool false)).setCell ⟨w.heap.size, 1, none⟩ (.slice none 0 0)).setCell ⟨w.heap.size, 2, none⟩ (.slice none 0 0)).setCell ⟨w.heap.size, 3, none⟩ (.slice none 0 0)) w.heap.size 27 (.bool false) (.slice none 0 0) (.slice none 0 0) (.slice none 0 0)
      ∧ Below w.heap.size w ((((w1.setCell ⟨w.heap.size, 0, none⟩ (.bool false)).setCell ⟨w.heap.size, 1, none⟩ (.slice none 0 0)).setCell ⟨w.heap.size, 2, none⟩ (.slice none 0 0)).setCell ⟨w.heap.size, 3, none⟩ (.slice none 0 0))) := ⟨(((hV1.set0 _).set1 _).set2 _).set3 _, (((hbw1.setCell (Nat.le_refl _) _).setCell (Nat.le_refl _) _).setCell (Nat.le_refl _) _).setCell (Nat.le_refl _) _⟩
    clear hV1 hbw1 hno HB1 hb0 hs0 HV hW0
    go_wp2
    obtain ⟨m0, m1, m2, m3⟩ := HS.out.1.cells
    exact bodyPost_ret (v := .tuple #[.agg #[.bool false, .slice none 0 0, .slice none 0 0, .slice none 0 0], .bool false]) (by simp [results, Try.results12, go_sem, m0, m1, m2, m3]) rfl ⟨HS.out.2, false, _, rfl, ⟨_, _, _, _, _, _, _, _, _, _, rfl⟩, (fun h => by cases h), fun _ => HNO.out⟩
  obtain ⟨a, c, bb, d, i, k, hnode, h1, h2, h3, hi1, hi2, hi3⟩ := hkv.node hs
  have HE : Hid (Shape E ∧ NFine E) := ⟨hs, hs.fine⟩
  have HY : Hid (putI E = lof n F → OkI E ∧ bytesN E = lof n F) := fun h => got_yes h0 h
  have HNO : Hid (putI E ≠ lof n F → ∀ D, OkI D → bytesN D ≠ lof n F) := fun h => got_no hs hm0 hm hat h
  have HVW : Hid (NdView w1 (.agg #[.bool E.leaf, .slice a E.nk c, .slice bb E.nv d, .slice i E.nd k]) E) := ⟨a, c, bb, d, i, k, rfl, h1, h2, h3⟩
  have HKE : Hid (∀ W : World, Below w1.heap.size w1 W → ∀ v0 v1 v2 v3 : Value, NdView ((((W.setCell ⟨w.heap.size, 0, none⟩ v0).setCell ⟨w.heap.size, 1, none⟩ v1).setCell ⟨w.heap.size, 2, none⟩ v2).setCell ⟨w.heap.size, 3, none⟩ v3) (.agg #[.bool E.leaf, .slice a E.nk c, .slice bb E.nv d, .slice i E.nd k]) E) := by
    intro W hb v0 v1 v2 v3
    have hk : w.heap.size < W0.heap.size := by omega
    exact ⟨a, c, bb, d, i, k, rfl, ((((h1.below hb).setHi hi1 hk).setHi hi1 hk).setHi hi1 hk).setHi hi1 hk, ((((h2.below hb).setHi hi2 hk).setHi hi2 hk).setHi hi2 hk).setHi hi2 hk, ((((h3.below hb).setHi hi3 hk).setHi hi3 hk).setHi hi3 hk).setHi hi3 hk⟩
  obtain ⟨lf, hlf⟩ := hidN E.leaf
  obtain ⟨nk, hnk⟩ := hidN E.nk
  obtain ⟨nv, hnv⟩ := hidN E.nv
  obtain ⟨nd, hnd⟩ := hidN E.nd
  simp only [hlf.out, hnk.out, hnv.out, hnd.out] at hnode HVW HKE
  clear hkv hs h0 hm0 hm hat h1 h2 h3 hi1 hi2 hi3 hlf hnk hnv hnd HB1 hs0 hb0 hW0
  go_wp2_with fail
  refine (hnode _).mono ?_
  rintro e w2 ⟨rfl, hb2⟩
  obtain ⟨W3, hW3⟩ : ∃ W3, Hid (w2.alloc (.cells #[.bool lf, .slice a nk c, .slice bb nv d, .slice i nd k] 27) = W3) := ⟨_, rfl⟩
  have hb3 : Below w1.heap.size w1 W3 := by rw [← hW3.out]; exact hb2.alloc hb2.size _
  have hG : V4 W3 w2.heap.size 27 (.bool lf) (.slice a nk c) (.slice bb nv d) (.slice i nd k) := by rw [← hW3.out]; exact V4.new w2 _ _ _ _ _
  have hP := implPutNode_any _ E W3 (HVW.out.below hb3) HE.out.2
  have HV3 : Hid (View W3 (some ⟨b, off, none⟩) n cap F) := HV.out.below (hbw1.trans (hb3.mono hbw1.size))
  have hwg : w.heap.size < w2.heap.size := by have := hV1.lt; have := hb2.size; omega
  clear hnode hb2
  obtain ⟨y0, y1, y2, y3⟩ := hG.cells
  go_wp2_with (first | rw [hW3.out] | fail)
  refine hP.mono ?_
  rintro e w4 ⟨u, rfl, hr4, hb4⟩
  obtain ⟨g6, hg6⟩ := hidN w2.heap.size
  rw [hg6.out] at hG hwg ⊢
  obtain ⟨g, c4, rfl, hvw⟩ := hr4.view (putI_byte E)
  have hEq := equal_any g 0 _ c4 _ b off n cap F w4 hvw (HV3.out.below hb4)
  have hIff := equal_lof (putI_byte E) HV3.out.byte
  have hb14 : Below w1.heap.size w1 w4 := hb3.trans (hb4.mono hb3.size)
  obtain ⟨rr, hrr⟩ := hidN ((strOfNums (lof (putI E).length (fun i => (putI E).getD i 0))).toList == (strOfNums (lof n F)).toList)
  rw [hrr.out] at hEq hIff
  have HIF : Hid (rr = true ↔ putI E = lof n F) := hIff
  obtain ⟨LN, hLN⟩ := hidN (putI E).length
  rw [hLN.out] at hEq ⊢
  have hG4 := hG.below hb4
  have hV4 := hV1.below hb14
  have hbw4 : Below w.heap.size w w4 := hbw1.trans (hb14.mono hbw1.size)
  have HKX : Hid (∀ v0 v1 v2 v3 : Value, NdView ((((w4.setCell ⟨w.heap.size, 0, none⟩ v0).setCell ⟨w.heap.size, 1, none⟩ v1).setCell ⟨w.heap.size, 2, none⟩ v2).setCell ⟨w.heap.size, 3, none⟩ v3) (.agg #[.bool lf, .slice a nk c, .slice bb nv d, .slice i nd k]) E) := HKE.out w4 hb14
  clear hP hr4 hb4 hvw hIff hrr hLN y0 y1 y2 y3 HV3 hb3 hb14 hW3 hG HKE HVW HV hV1 hbw1 hg6
  obtain ⟨y0, y1, y2, y3⟩ := hG4.cells
  obtain ⟨x0, x1, x2, x3⟩ := hV4.cells
  obtain ⟨z0, z1, z2, z3⟩ := hV4.fz
  have HSZ : Hid (V4 ((((w4.setCell ⟨w.heap.size, 0, none⟩ (.bool false)).setCell ⟨w.heap.size, 1, none⟩ (.slice none 0 0)).setCell ⟨w.heap.size, 2, none⟩ (.slice none 0 0)).setCell ⟨w.heap.size, 3, none⟩ (.slice none 0 0)) w.heap.size 27 (.bool false) (.slice none 0 0) (.slice none 0 0) (.slice none 0 0) ∧ Below w.heap.size w ((((w4.setCell ⟨w.heap.size, 0, none⟩ (.bool false)).setCell ⟨w.heap.size, 1, none⟩ (.slice none 0 0)).setCell ⟨w.heap.size, 2, none⟩ (.slice none 0 0)).setCell ⟨w.heap.size, 3, none⟩ (.slice none 0 0))) := ⟨(((hV4.set0 _).set1 _).set2 _).set3 _, (((hbw4.setCell (Nat.le_refl _) _).setCell (Nat.le_refl _) _).setCell (Nat.le_refl _) _).setCell (Nat.le_refl _) _⟩
  have HSX : Hid (V4 ((((w4.setCell ⟨w.heap.size, 0, none⟩ (.bool lf)).setCell ⟨w.heap.size, 1, none⟩ (.slice a nk c)).setCell ⟨w.heap.size, 2, none⟩ (.slice bb nv d)).setCell ⟨w.heap.size, 3, none⟩ (.slice i nd k)) w.heap.size 27 (.bool lf) (.slice a nk c) (.slice bb nv d) (.slice i nd k) ∧ Below w.heap.size w ((((w4.setCell ⟨w.heap.size, 0, none⟩ (.bool lf)).setCell ⟨w.heap.size, 1, none⟩ (.slice a nk c)).setCell ⟨w.heap.size, 2, none⟩ (.slice bb nv d)).setCell ⟨w.heap.size, 3, none⟩ (.slice i nd k))) := ⟨(((hV4.set0 _).set1 _).set2 _).set3 _, (((hbw4.setCell (Nat.le_refl _) _).setCell (Nat.le_refl _) _).setCell (Nat.le_refl _) _).setCell (Nat.le_refl _) _⟩
  clear hG4 hV4 hbw4
  go_wp2_with fail
  refine hEq.mono ?_
  rintro e _ ⟨rfl, rfl⟩
  clear hEq
  cases rr with
  | false =>
    have HN : Hid (∀ D, OkI D → bytesN D ≠ lof n F) := HNO.out (fun h => by have := HIF.out.2 h; cases this)
    clear HNO HY HIF HSX HKX HE
    go_wp2
    obtain ⟨m0, m1, m2, m3⟩ := HSZ.out.1.cells
    exact bodyPost_ret (v := .tuple #[.agg #[.bool false, .slice none 0 0, .slice none 0 0, .slice none 0 0], .bool false]) (by simp [results, Try.results12, go_sem, m0, m1, m2, m3]) rfl ⟨HSZ.out.2, false, _, rfl, ⟨_, _, _, _, _, _, _, _, _, _, rfl⟩, (fun h => by cases h), fun _ => HN.out⟩
  | true =>
    have HN : Hid (OkI E ∧ bytesN E = lof n F) := HY.out (HIF.out.1 rfl)
    clear HNO HY HIF HSZ
    have hne : w.heap.size ≠ g6 := by omega
    go_wp2
    obtain ⟨m0, m1, m2, m3⟩ := HSX.out.1.cells
    exact bodyPost_ret (v := .tuple #[.agg #[.bool lf, .slice a nk c, .slice bb nv d, .slice i nd k], .bool true]) (by simp [results, Try.results12, go_sem, m0, m1, m2, m3]) rfl ⟨HSX.out.2, true, _, rfl, ⟨_, _, _, _, _, _, _, _, _, _, rfl⟩, (fun _ => ⟨E, HKX.out _ _ _ _, HE.out.2, HN.out.1, HN.out.2⟩), (fun h => by cases h)⟩
end Go.Proofs.Ytaiinlcdfeboiaa

/-
  What is drawn for PutNode and GetNode.
-/
namespace Go.Proofs.Ytaiinlcdfeboiaa
open Go.RowKit
set_option maxRecDepth 4000

set_option maxHeartbeats 4000000 in
theorem drawPutNode_any (ao : Option Addr) (n cap : Nat) (f : Nat → Int) (w : World) (hn : n ≤ 1048576) (hv : View w ao n cap f) :
    Calls Try.prog 9 #[.slice ao n cap] w fun e w' => ∃ (L : NL) (v : Value), e = .returned v ∧ DN w' v L ∧ Small 100 L ∧ Below w.heap.size w w' := by
  have hbA : Below w.heap.size w (w.alloc (.cells #[.bool false, .slice none 0 0, .slice none 0 0, .slice none 0 0] 27)) := (Below.refl _ _).alloc (Nat.le_refl _) _
  have hRR := V4.new w 27 (.bool false) (.slice none 0 0) (.slice none 0 0) (.slice none 0 0)
  have hsz : w.heap.size < (w.alloc (.cells #[.bool false, .slice none 0 0, .slice none 0 0, .slice none 0 0] 27)).heap.size := by simp
  have hN := l1New_any ao n cap f _ hn (hv.below hbA)
  clear hv
  go_enter Try.func9, Try.ntmps9
  go_wp2_with fail
  obtain ⟨WA, hWA⟩ : ∃ x, Hid (w.alloc (.cells #[.bool false, .slice none 0 0, .slice none 0 0, .slice none 0 0] 27) = x) := ⟨_, rfl⟩
  rw [hWA.out] at hRR hN hbA hsz ⊢
  refine hN.mono ?_
  rintro e w1 ⟨rfl, hC1, hb1⟩
  obtain ⟨g, hg⟩ : ∃ x, Hid (WA.heap.size = x) := ⟨_, rfl⟩
  rw [hg.out] at hC1 ⊢
  have hgw : w.heap.size < g := by have := hg.out; omega
  replace hRR := hRR.below hb1
  have hB := hbA.trans (hb1.mono hbA.size)
  have hs1 : w.heap.size ≤ w1.heap.size := hB.size
  clear hN hb1 hbA hg hWA
  have hA := l14Any_any g ao n cap f w1 hn hC1
  go_wp2_with fail
  refine hA.mono ?_
  rintro e w2 ⟨L, kv, vv, dv, rfl, hV3, hSm, hCN, hG⟩
  replace hRR := hRR.butN hCN.but (by omega)
  replace hB := but_below hB hCN.but (by omega) hs1
  obtain ⟨⟨ka, kc, ek, -⟩, ⟨va, vc, ev, -⟩, ⟨da, dc, ed, -⟩⟩ := id hV3
  subst ek ev ed
  clear hA
  clear hG hCN hC1
  obtain ⟨r0, r1, r2, r3⟩ := hRR.cells
  obtain ⟨z0, z1, z2, z3⟩ := hRR.fz
  have hRF := (((hRR.set0 (.bool L.leaf)).set1 (.slice ka L.ks.length kc)).set2 (.slice va L.vs.length vc)).set3 (.slice da L.ds.length dc)
  obtain ⟨m0, m1, m2, m3⟩ := hRF.cells
  have hr1 := hV3.setN (i := 0) (u := .bool L.leaf) hRR cell4_no
  have hr2 := hr1.setN (i := 1) (u := .slice ka L.ks.length kc) (hRR.set0 (.bool L.leaf)) cell4_no
  have hr3 := hr2.setN (i := 2) (u := .slice va L.vs.length vc) ((hRR.set0 (.bool L.leaf)).set1 (.slice ka L.ks.length kc)) cell4_no
  have hr4 := hr3.setN (i := 3) (u := .slice da L.ds.length dc) (((hRR.set0 (.bool L.leaf)).set1 (.slice ka L.ks.length kc)).set2 (.slice va L.vs.length vc)) cell4_no
  have hb4 := (((hB.setCell (p := ⟨w.heap.size, 0, none⟩) (Nat.le_refl _) (.bool L.leaf)).setCell (p := ⟨w.heap.size, 1, none⟩) (Nat.le_refl _) (.slice ka L.ks.length kc)).setCell (p := ⟨w.heap.size, 2, none⟩) (Nat.le_refl _) (.slice va L.vs.length vc)).setCell (p := ⟨w.heap.size, 3, none⟩) (Nat.le_refl _) (.slice da L.ds.length dc)
  have HE : Hid (RV3 _ (.slice ka L.ks.length kc) (.slice va L.vs.length vc) (.slice da L.ds.length dc) L ∧ Below w.heap.size w _) := ⟨hr4, hb4⟩
  clear hRR hRF hr1 hr2 hr3 hr4 hb4 hV3 hB
  go_wp2
  refine bodyPost_ret (v := .agg #[.bool L.leaf, .slice ka L.ks.length kc, .slice va L.vs.length vc, .slice da L.ds.length dc]) (by simp [results, Try.results9, go_sem, m0, m1, m2, m3]) rfl ⟨L, _, rfl, ⟨_, _, _, rfl, HE.out.1⟩, hSm, HE.out.2⟩

set_option maxHeartbeats 1000000 in
theorem l1Bend_none (g b c : Nat) (w : World) :
    Calls Try.prog 34 #[.pointer (some ⟨g, 0, none⟩), .slice (some ⟨b, 0, none⟩) 0 c] w fun e w' => e = .returned (.slice (some ⟨b, 0, none⟩) 0 c) ∧ w = w' := by
  go_enter Try.func34, Try.ntmps34
  go_wp2
  go_ret
  exact ⟨rfl, rfl⟩

/-- Bytes of a drawn node that is right, bent; or none. -/
def BentN (m : Nat) (F : Nat → Int) : Prop := m = 0 ∨ ∃ D, OkS D ∧ (∀ j, j < D.nk → GoodK (D.key j)) ∧ Turn (bytesN D).length (bytesN D) m F
theorem good_keys {L : NL} (h : Small 50 L) : ∀ j, j < L.pn.nk → GoodK (L.pn.key j) := fun _ hj => getD_of (P := GoodK) (h.kk rfl).1 hj
theorem putS_len (D : PNode) : (putS D).length ≤ 240 ∧ (0 < (putS D).length → OkS D ∧ putS D = bytesN D) := by
  unfold putS
  by_cases h : OkS D
  · rw [if_pos h]; exact ⟨(okI_few h.i).2.2.1, fun _ => ⟨h, rfl⟩⟩
  · rw [if_neg h]; exact ⟨Nat.zero_le _, fun h => absurd h (Nat.lt_irrefl _)⟩
theorem putS_byte (D : PNode) : ∀ y ∈ putS D, 0 ≤ y ∧ y ≤ 255 := by
  unfold putS
  split
  · exact okI_byte D
  · intro y hy; cases hy

set_option maxHeartbeats 4000000 in
theorem drawGetNode_any (ao : Option Addr) (n cap : Nat) (f : Nat → Int) (w : World) (hn : n ≤ 1048576) (hv : View w ao n cap f) :
    Calls Try.prog 11 #[.slice ao n cap] w fun e w' => ∃ (b c m : Nat) (F : Nat → Int), e = .returned (.slice (some ⟨b, 0, none⟩) m c) ∧ View w' (some ⟨b, 0, none⟩) m c F ∧ m ≤ 1000 ∧ BentN m F ∧ Below w.heap.size w w' := by
  have hN := l1New_any ao n cap f w hn hv
  have HA : Hid (∀ a, ao = some a → 0 < n → a.block < w.heap.size) := fun a ha h0 => by
    obtain ⟨b, off, e, hlt, -⟩ := hv.cells h0
    rw [ha] at e; cases e; exact hlt
  clear hv
  go_enter Try.func11, Try.ntmps11
  go_wp2_with fail
  refine hN.mono ?_
  rintro e w1 ⟨rfl, hC1, hb1⟩
  obtain ⟨g, hg⟩ : ∃ x, Hid (w.heap.size = x) := ⟨_, rfl⟩
  rw [hg.out] at hC1 ⊢
  have hgw : w.heap.size ≤ g := by have := hg.out; omega
  clear hN
  have hA := l14Draw_any g ao n cap f w1 hn hC1
  have HB1 : Hid (Below w.heap.size w w1) := hb1
  clear hb1 hC1
  go_wp2_with fail
  refine hA.mono ?_
  rintro e w2 ⟨L, b2, kv, vv, dv, rfl, hRN, hSm, hCN⟩
  have hs1 : w.heap.size ≤ w1.heap.size := HB1.out.size
  have HB2 : Hid (Below w.heap.size w w2) := but_below HB1.out hCN.but hgw hs1
  have hP := specPutNodeO_any _ L.pn w2 hRN.rv.view hSm.more.fine
  have HC2 : Hid (Cur w2 g ao n cap f) := hCN.cur
  have HG : Hid (∀ j, j < L.pn.nk → GoodK (L.pn.key j)) := good_keys hSm
  obtain ⟨D, hD⟩ := hidN L.pn
  rw [hD.out] at hP HG
  clear hA hRN hSm hCN hD HB1 hs1
  go_wp2_with fail
  refine hP.mono ?_
  rintro e w3 ⟨u, rfl, ⟨hbr, hown⟩, hb3⟩
  have hC3 := HC2.out.below hb3
  have hg2 : g < w2.heap.size := HC2.out.lt
  have HB3 : Hid (Below w.heap.size w w3) := HB2.out.trans (hb3.mono HB2.out.size)
  have hs3 : w2.heap.size ≤ w3.heap.size := hb3.size
  have hs2 : w.heap.size ≤ w2.heap.size := HB2.out.size
  clear hP hb3 HC2
  by_cases h0 : 0 < (putS D).length
  · have hT := l1Bend_turn g ao n cap f w2.heap.size u (putS D).length (putS D) w3 hn h0 (by have := (putS_len D).1; omega) hC3 hown rfl (putS_byte _) hg2 (fun a ha h => by have := HA.out a ha h; omega) hs3
    have HP : Hid (OkS D ∧ putS D = bytesN D) := (putS_len D).2 h0
    have HPL : Hid ((putS D).length ≤ 240) := (putS_len D).1
    clear hbr hown hC3 h0
    go_wp2_with fail
    refine hT.mono ?_
    rintro e w4 ⟨⟨b, c, m, F, hB, hTn⟩, -, hK⟩
    have HO : Hid (View w4 (some ⟨b, 0, none⟩) m c F ∧ m ≤ 1000 ∧ BentN m F ∧ Below w.heap.size w w4) := by
      refine ⟨hB.to.view, by have := hB.few; have := HPL.out; omega, .inr ⟨D, HP.out.1, HG.out, by rw [← HP.out.2]; exact hTn⟩, HB3.out.trans (hK.below hgw hs2)⟩
    obtain rfl := hB.ret
    clear hT hB hTn hK HB3 HB2 HG HP HPL HA
    go_wp2
    go_ret
    exact ⟨b, c, m, F, rfl, HO.out⟩
  · obtain ⟨g9, c, rfl, hg9, hgc, hr⟩ := hbr
    have hz : (putS D).length = 0 := by omega
    rw [hz] at hgc hr ⊢
    have HO : Hid (View w3 (some ⟨g9, 0, none⟩) 0 c (fun i => (putS D).getD i 0) ∧ 0 ≤ 1000 ∧ BentN 0 (fun i => (putS D).getD i 0) ∧ Below w.heap.size w w3) := ⟨hr.view hgc (fun i hi => absurd hi (Nat.not_lt_zero _)), by omega, .inl rfl, HB3.out⟩
    have hT := l1Bend_none g g9 c w3
    clear hown hr hgc hz h0 HB3 HB2 HG HA hC3
    go_wp2_with fail
    refine hT.mono ?_
    rintro e _ ⟨rfl, rfl⟩
    clear hT
    go_wp2
    go_ret
    exact ⟨_, _, _, _, rfl, HO.out⟩
end Go.Proofs.Ytaiinlcdfeboiaa

/-
  The model's GetU comes to the same plain function as the program, at every slice of bytes that reads and at every place.
-/
namespace Go.Proofs.Ytaiinlcdfeboiaa
open Go.RowKit
set_option maxRecDepth 4000

set_option maxHeartbeats 1000000 in
theorem getU_spec (ao : Option Addr) (n cap : Nat) (f : Nat → Int) (p : Int) (w : World) (hv : View w ao n cap f) (hn : n ≤ 281474976710656) (hp1 : p ≤ 9223372036854775807) :
    Calls Try.prog 70 #[.slice ao n cap, .int .i64 p] w fun e w' => e = getRet (getU n f p) ∧ w' = w := by
  by_cases hp : p < 0
  · rw [getU_neg n f p hp]
    go_enter Try.func70, Try.ntmps70
    go_wp2
    refine wp_loop_rounds 1 ?_
    rw [rounds_succ]
    go_wp2
    go_ret3
    exact ⟨rfl, rfl⟩
  obtain ⟨i, rfl⟩ := Int.eq_ofNat_of_zero_le (Int.not_lt.1 hp)
  by_cases h0 : i < n
  case neg =>
    rw [getU_past n f i (by omega)]
    have hge : (n : Int) ≤ (i : Int) := by omega
    go_enter Try.func70, Try.ntmps70
    go_wp2
    refine wp_loop_rounds 1 ?_
    rw [rounds_succ]
    go_wp2
    go_ret3
    exact ⟨rfl, rfl⟩
  obtain ⟨b, off, rfl, hb, hc⟩ := hv.cells (by omega)
  have hb0 := hv.byte i h0
  have hc0 := hc i h0
  have hz0 : (i : Int) < (n : Int) := by omega
  have hA : ∀ x : Int, bits .and .i64 x 127 = x % 128 := i64_and127
  have q0 : bits .or .i64 0 (f i % 128) = f i % 128 := by
    rw [i64_or_add 0 0 (f i % 128) (by omega) (by decide) (by omega) (by simp [Int.emod_one]) (by omega) (by decide)]; omega
  by_cases h1 : f i < 128
  · rw [getU_1 n f i h0 h1]
    clear hc hv
    go_enter Try.func70, Try.ntmps70
    go_wp2
    refine wp_loop_rounds 1 ?_
    rw [rounds_succ]
    go_wp2
    all_goals
      go_ret3
      exact ⟨ret3 (by first | rfl | (dsimp only; omega)) (by first | rfl | (dsimp only; omega)) rfl, rfl⟩
  by_cases h2 : i + 1 < n
  case neg =>
    rw [getU_2end n f i h0 (by omega) (by omega)]
    clear hc hv
    go_enter Try.func70, Try.ntmps70
    go_wp2
    refine wp_loop_rounds 2 ?_
    rw [rounds_succ]
    go_wp2
    all_goals
      rw [rounds_succ]
      go_wp2
    all_goals
      go_ret3
      exact ⟨ret3 (by first | rfl | (dsimp only; omega)) (by first | rfl | (dsimp only; omega)) rfl, rfl⟩
  have hb1 := hv.byte (i + 1) h2
  have hc1 := hc (i + 1) h2
  have hz1 : (i : Int) + 1 < (n : Int) := by omega
  have q1 : bits .or .i64 (f i % 128) (f (i + 1) % 128 * 128) = f i % 128 + f (i + 1) % 128 * 128 :=
    i64_or_add 7 _ _ (by omega) (by show _ < (128 : Int); omega) (by omega) (by show _ % (128 : Int) = 0; omega) (by omega) (by decide)
  by_cases h3 : f (i + 1) < 128
  case pos =>
    by_cases h4 : f (i + 1) = 0
    case pos =>
      rw [getU_2zero n f i h2 (by omega) h4]
      clear hc hv
      go_enter Try.func70, Try.ntmps70
      go_wp2
      refine wp_loop_rounds 2 ?_
      rw [rounds_succ]
      go_wp2
      all_goals
        rw [rounds_succ]
        go_wp2
      all_goals
        go_ret3
        exact ⟨ret3 (by first | rfl | (dsimp only; omega)) (by first | rfl | (dsimp only; omega)) rfl, rfl⟩
    case neg =>
      rw [getU_2 n f i h2 (by omega) h3 h4]
      clear hc hv
      have hq1 : (f (i + 1) == 0) = false := beq_eq_false_iff_ne.2 h4
      go_enter Try.func70, Try.ntmps70
      go_wp2
      refine wp_loop_rounds 2 ?_
      rw [rounds_succ]
      go_wp2
      all_goals
        rw [rounds_succ]
        go_wp2
      all_goals
        go_ret3
        exact ⟨ret3 (by first | rfl | (dsimp only; omega)) (by first | rfl | (dsimp only; omega)) rfl, rfl⟩
  by_cases h5 : i + 2 < n
  case neg =>
    rw [getU_3end n f i h2 (by omega) (by omega) (by omega)]
    clear hc hv
    go_enter Try.func70, Try.ntmps70
    go_wp2
    refine wp_loop_rounds 3 ?_
    rw [rounds_succ]
    go_wp2
    all_goals
      rw [rounds_succ]
      go_wp2
    all_goals
      rw [rounds_succ]
      go_wp2
    all_goals
      go_ret3
      exact ⟨ret3 (by first | rfl | (dsimp only; omega)) (by first | rfl | (dsimp only; omega)) rfl, rfl⟩
  have hb2 := hv.byte (i + 2) h5
  have hc2 := hc (i + 2) h5
  have hz2 : (i : Int) + 2 < (n : Int) := by omega
  have q2 : bits .or .i64 (f i % 128 + f (i + 1) % 128 * 128) (f (i + 2) % 128 * 16384) = f i % 128 + f (i + 1) % 128 * 128 + f (i + 2) % 128 * 16384 :=
    i64_or_add 14 _ _ (by omega) (by show _ < (16384 : Int); omega) (by omega) (by show _ % (16384 : Int) = 0; omega) (by omega) (by decide)
  by_cases h6 : f (i + 2) < 128
  case neg =>
    rw [getU_long n f i h5 (by omega) (by omega) (by omega)]
    clear hc hv
    go_enter Try.func70, Try.ntmps70
    go_wp2
    refine wp_loop_rounds 4 ?_
    rw [rounds_succ]
    go_wp2
    all_goals
      rw [rounds_succ]
      go_wp2
    all_goals
      rw [rounds_succ]
      go_wp2
    all_goals
      rw [rounds_succ]
      go_wp2
    all_goals
      go_ret3
      exact ⟨ret3 (by first | rfl | (dsimp only; omega)) (by first | rfl | (dsimp only; omega)) rfl, rfl⟩
  by_cases h7 : f (i + 2) = 0 ∨ 1000000 < f i - 128 + (f (i + 1) - 128) * 128 + f (i + 2) * 16384
  case pos =>
    rw [getU_3no n f i h5 (by omega) (by omega) h6 h7]
    clear hc hv
    go_enter Try.func70, Try.ntmps70
    go_wp2
    refine wp_loop_rounds 3 ?_
    rw [rounds_succ]
    go_wp2
    all_goals
      rw [rounds_succ]
      go_wp2
    all_goals
      rw [rounds_succ]
      go_wp2
    all_goals
      go_ret3
      exact ⟨ret3 (by first | rfl | (dsimp only; omega)) (by first | rfl | (dsimp only; omega)) rfl, rfl⟩
  case neg =>
    rw [getU_3 n f i h5 (by omega) (by omega) h6 h7]
    clear hc hv
    have hq2 : (f (i + 2) == 0) = false := beq_eq_false_iff_ne.2 (fun e => h7 (Or.inl e))
    go_enter Try.func70, Try.ntmps70
    go_wp2
    refine wp_loop_rounds 3 ?_
    rw [rounds_succ]
    go_wp2
    all_goals
      rw [rounds_succ]
      go_wp2
    all_goals
      rw [rounds_succ]
      go_wp2
    all_goals
      go_ret3
      exact ⟨ret3 (by first | rfl | (dsimp only; omega)) (by first | rfl | (dsimp only; omega)) rfl, rfl⟩
end Go.Proofs.Ytaiinlcdfeboiaa

/-
  The model's GetText: the bytes behind a number that says how many they are, as a text.
-/
namespace Go.Proofs.Ytaiinlcdfeboiaa
open Go.RowKit
set_option maxRecDepth 4000

theorem getU_spec' {a b : Int} {c : Bool} (ao : Option Addr) (n cap : Nat) (f : Nat → Int) (p : Int) (w : World) (hg : Hid (getU n f p = (a, b, c))) (hv : View w ao n cap f) (hn : n ≤ 281474976710656) (hp1 : p ≤ 9223372036854775807) :
    Calls Try.prog 70 #[.slice ao n cap, .int .i64 p] w fun e w' => e = .returned (.tuple #[.int .i64 a, .int .i64 b, .bool c]) ∧ w = w' := by
  refine (getU_spec ao n cap f p w hv hn hp1).mono ?_
  rintro e w' ⟨he, hw⟩
  rw [hg.out] at he
  exact ⟨he, hw.symm⟩
set_option maxHeartbeats 1000000 in
theorem getText_spec (b off n cap : Nat) (f : Nat → Int) (p : Int) (w : World) (s : ByteArray) (q : Int) (ok : Bool) (hg : Hid (getText n f p = (s, q, ok))) (hv : View w (some ⟨b, off, none⟩) n cap f) (hn : n ≤ 281474976710656) (hp1 : p ≤ 9223372036854775807) :
    Calls Try.prog 71 #[.slice (some ⟨b, off, none⟩) n cap, .int .i64 p] w fun e w' => e = .returned (.tuple #[.string s, .int .i64 q, .bool ok]) ∧ w = w' := by
  obtain ⟨a, r, c, hu⟩ : ∃ a r c, Hid (getU n f p = (a, r, c)) := ⟨_, _, _, rfl⟩
  have hbd : c = true → 0 ≤ a ∧ a ≤ 1000000 ∧ 0 ≤ r ∧ r ≤ n := by rintro rfl; exact getU_bd hv.byte hu.out
  have hT : getText n f p = if c = true ∧ a ≤ n - r then (strOfNums (lof a.toNat (fun i => f (r.toNat + i))), r + a, true) else (strOfNums [], 0, false) := by unfold getText; rw [hu.out]
  rw [hg.out] at hT
  cases c with
  | false =>
    rw [if_neg (by simp)] at hT
    cases hT
    clear hbd
    go_enter Try.func71, Try.ntmps71
    go_wp2_with fail
    refine (getU_spec' _ n cap f p w hu hv hn hp1).mono ?_
    rintro e _ ⟨rfl, rfl⟩
    go_wp2
    go_ret3
    exact ⟨rfl, rfl⟩
  | true =>
    obtain ⟨h0, h1, h2, h3⟩ := hbd rfl
    obtain ⟨a, rfl⟩ := Int.eq_ofNat_of_zero_le h0
    obtain ⟨r, rfl⟩ := Int.eq_ofNat_of_zero_le h2
    clear hbd
    by_cases hl : (a : Int) ≤ n - r
    · rw [if_pos ⟨rfl, hl⟩, Int.toNat_natCast, Int.toNat_natCast] at hT
      simp only [Prod.mk.injEq] at hT
      obtain ⟨rfl, rfl, rfl⟩ := hT
      have hle := hv.le
      have hcap : (r : Int) + a ≤ cap := by omega
      by_cases hrc : r < cap
      · have hrz : (r : Int) < cap := by omega
        have q1 : (convert 22 9 (.slice (some ⟨b, off + r, none⟩) a (cap - r))).run Try.prog w = .ok (.string (strOfNums (lof a (fun i => f (r + i))))) w := conv_view (hv.cut (by omega))
        go_enter Try.func71, Try.ntmps71
        go_wp2_with fail
        refine (getU_spec' _ n cap f p w hu hv hn hp1).mono ?_
        rintro e _ ⟨rfl, rfl⟩
        go_wp2
        go_ret3
        exact ⟨rfl, rfl⟩
      · obtain rfl : r = cap := by omega
        obtain rfl : a = 0 := by omega
        have hrz : ¬ (r : Int) < r := by omega
        have q2 : (convert 22 9 (.slice (some ⟨b, off, none⟩) 0 0)).run Try.prog w = .ok (.string (strOfNums (lof 0 f))) w := conv_view ⟨Nat.le_refl _, fun _ h => absurd h (Nat.not_lt_zero _), fun h => absurd h (Nat.lt_irrefl _)⟩
        go_enter Try.func71, Try.ntmps71
        go_wp2_with fail
        refine (getU_spec' _ n r f p w hu hv hn hp1).mono ?_
        rintro e _ ⟨rfl, rfl⟩
        go_wp2
        go_ret3
        exact ⟨retT rfl (by omega) rfl, rfl⟩
    · rw [if_neg (by simp [hl])] at hT
      cases hT
      have hl2 : (n : Int) - r < a := by omega
      go_enter Try.func71, Try.ntmps71
      go_wp2_with fail
      refine (getU_spec' _ n cap f p w hu hv hn hp1).mono ?_
      rintro e _ ⟨rfl, rfl⟩
      go_wp2
      go_ret3
      exact ⟨rfl, rfl⟩
end Go.Proofs.Ytaiinlcdfeboiaa

