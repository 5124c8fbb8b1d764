/-
  Together: NodeReadPlain, GetWalks, GetTextImpl, NodeEachI, OwnLo
-/
import Derived.Test.YtaiinlcdfeboiaaNP6
import Derived.Test.YtaiinlcdfeboiaaNP11
import Derived.Test.YtaiinlcdfeboiaaNP1
import Derived.Test.YtaiinlcdfeboiaaNP3
import Derived.Test.YtaiinlcdfeboiaaProg
/-
  A node's bytes are read as that node, and as no other: plainly.
-/
namespace Go.Proofs.Ytaiinlcdfeboiaa
open Go.RowKit
set_option maxRecDepth 4000

theorem clampN_in {x : Int} (h0 : 0 ≤ x) (h1 : x ≤ 1000000) : clampN x = x := by unfold clampN; split <;> (try split) <;> omega
theorem oneT_txtL {s : ByteArray} (hs : s.size ≤ 1000000) : oneT s = txtL s := by unfold oneT txtL; rw [clampN_in (by omega) (by omega)]
theorem textsL_congr {f g : Nat → ByteArray} : ∀ k, (∀ i, i < k → f i = g i) → textsL f k = textsL g k
  | 0, _ => rfl
  | k + 1, h => by simp only [textsL]; rw [textsL_congr k (fun i hi => h i (by omega)), h k (by omega)]
theorem numL_congr {f g : Nat → Int} : ∀ k, (∀ i, i < k → f i = g i) → numL f k = numL g k
  | 0, _ => rfl
  | k + 1, h => by simp only [numL]; rw [numL_congr k (fun i hi => h i (by omega)), h k (by omega)]
/-- Numbers that can be put. -/
def InU (n : Nat) (f : Nat → Int) : Prop := ∀ i, i < n → 0 ≤ f i ∧ f i ≤ 1000000
theorem textsL_uniq {N : Nat} {F : Nat → Int} {p : Nat} {f g : Nat → ByteArray} : ∀ k, NoneL 1000000 k f → NoneL 1000000 k g → AtF N F p (textsL f k) → AtF N F p (textsL g k) → ∀ i, i < k → f i = g i
  | 0, _, _, _, _ => fun i hi => absurd hi (Nat.not_lt_zero _)
  | k + 1, h1, h2, a1, a2 => by
    simp only [textsL] at a1 a2
    have ih := textsL_uniq k (fun i hi => h1 i (by omega)) (fun i hi => h2 i (by omega)) a1.left a2.left
    have e := textsL_congr k ih
    have b1 := a1.right
    have b2 := a2.right
    rw [e, oneT_txtL (h1 k (by omega))] at b1
    rw [oneT_txtL (h2 k (by omega))] at b2
    have c1 := getText_at (h1 k (by omega)) b1
    have c2 := getText_at (h2 k (by omega)) b2
    rw [c1] at c2
    intro i hi
    by_cases e2 : i < k
    · exact ih i e2
    · obtain rfl : i = k := by omega
      exact (Prod.mk.inj c2).1
theorem numL_uniq {N : Nat} {F : Nat → Int} {p : Nat} {f g : Nat → Int} : ∀ k, InU k f → InU k g → AtF N F p (numL f k) → AtF N F p (numL g k) → ∀ i, i < k → f i = g i
  | 0, _, _, _, _ => fun i hi => absurd hi (Nat.not_lt_zero _)
  | k + 1, h1, h2, a1, a2 => by
    simp only [numL] at a1 a2
    have ih := numL_uniq k (fun i hi => h1 i (by omega)) (fun i hi => h2 i (by omega)) a1.left a2.left
    have e := numL_congr k ih
    have b1 := a1.right
    have b2 := a2.right
    rw [e, clampN_in (h1 k (by omega)).1 (h1 k (by omega)).2] at b1
    rw [clampN_in (h2 k (by omega)).1 (h2 k (by omega)).2] at b2
    have c1 := getU_at (h1 k (by omega)).1 (h1 k (by omega)).2 b1
    have c2 := getU_at (h2 k (by omega)).1 (h2 k (by omega)).2 b2
    rw [c1] at c2
    intro i hi
    by_cases e2 : i < k
    · exact ih i e2
    · obtain rfl : i = k := by omega
      exact (Prod.mk.inj c2).1
/-- The next text, behind those that were read. -/
theorem textsL_more {N : Nat} {F : Nat → Int} {p n k : Nat} {f g : Nat → ByteArray} (hk : k < n) (h1 : NoneL 1000000 k f) (h2 : NoneL 1000000 n g) (a1 : AtF N F p (textsL f k)) (a2 : AtF N F p (textsL g n)) :
    getText N F ((p + (textsL f k).length : Nat) : Int) = (g k, ((p + (textsL f k).length + (txtL (g k)).length : Nat) : Int), true) := by
  have hle : ∀ m, k + 1 + m ≤ n → AtF N F p (textsL g (k + 1 + m)) → AtF N F p (textsL g (k + 1)) := by
    intro m
    induction m with
    | zero => intro _ h; exact h
    | succ m ih => intro hm h; exact ih (by omega) (by rw [← Nat.add_assoc] at h; simp only [textsL] at h; simpa only [textsL] using h.left)
  have a3 := hle (n - (k + 1)) (by omega) (by rw [show k + 1 + (n - (k + 1)) = n by omega]; exact a2)
  simp only [textsL] at a3
  have e := textsL_congr k (textsL_uniq k h1 (fun i hi => h2 i (by omega)) a1 a3.left)
  have b := a3.right
  rw [← e, oneT_txtL (h2 k hk)] at b
  rw [getText_at (h2 k hk) b]
  push_cast; rfl
theorem numL_more {N : Nat} {F : Nat → Int} {p n k : Nat} {f g : Nat → Int} (hk : k < n) (h1 : InU k f) (h2 : InU n g) (a1 : AtF N F p (numL f k)) (a2 : AtF N F p (numL g n)) :
    getU N F ((p + (numL f k).length : Nat) : Int) = (g k, ((p + (numL f k).length + (groups (g k)).length : Nat) : Int), true) := by
  have hle : ∀ m, k + 1 + m ≤ n → AtF N F p (numL g (k + 1 + m)) → AtF N F p (numL g (k + 1)) := by
    intro m
    induction m with
    | zero => intro _ h; exact h
    | succ m ih => intro hm h; exact ih (by omega) (by rw [← Nat.add_assoc] at h; simp only [numL] at h; simpa only [numL] using h.left)
  have a3 := hle (n - (k + 1)) (by omega) (by rw [show k + 1 + (n - (k + 1)) = n by omega]; exact a2)
  simp only [numL] at a3
  have e := numL_congr k (numL_uniq k h1 (fun i hi => h2 i (by omega)) a1 a3.left)
  have b := a3.right
  rw [← e, clampN_in (h2 k hk).1 (h2 k hk).2] at b
  rw [getU_at (h2 k hk).1 (h2 k hk).2 b]
  push_cast; rfl

/-- What is behind the keys. -/
def restL (E : PNode) : List Int := if E.leaf then textsL E.val E.nv else numL E.kid E.nd
/-- As many of each as the kind has, and such as can be put. -/
structure Shape (E : PNode) : Prop where
  pure : Pure E
  cnt : (E.leaf = true ∧ E.nv = E.nk) ∨ (E.leaf = false ∧ E.nd = E.nk + 1)
  nk : E.nk ≤ 1000000
  key : NoneL 1000000 E.nk E.key
  val : NoneL 1000000 E.nv E.val
  kid : InU E.nd E.kid
def mk (E : PNode) : Int := if E.leaf then 1 else 0
theorem bytesN_shape {E : PNode} (h : Shape E) : bytesN E = (groups (mk E) ++ groups E.nk) ++ (textsL E.key E.nk ++ restL E) := by
  have h1 : clampN (mk E) = mk E := by unfold mk; split <;> exact clampN_in (by omega) (by omega)
  have h2 := clampN_in (x := E.nk) (by omega) (by have := h.nk; omega)
  unfold bytesN headL restL
  unfold mk at h1
  rw [h1, h2, List.append_assoc]
  rfl
theorem at_parts {N : Nat} {F : Nat → Int} {E : PNode} (h : Shape E) (a : AtF N F 0 (bytesN E)) :
    ∃ p1 p2 : Nat, getU N F 0 = (mk E, (p1 : Int), true) ∧ getU N F (p1 : Int) = ((E.nk : Int), (p2 : Int), true) ∧ AtF N F p2 (textsL E.key E.nk) ∧ AtF N F (p2 + (textsL E.key E.nk).length) (restL E) := by
  rw [bytesN_shape h] at a
  have a1 := a.left.left
  have a2 := a.left.right
  have a3 := a.right.left
  have a4 := a.right.right
  have hm : 0 ≤ mk E ∧ mk E ≤ 1000000 := by unfold mk; split <;> omega
  have g1 := getU_at hm.1 hm.2 a1
  have g2 := getU_at (x := E.nk) (by omega) (by have := h.nk; omega) a2
  rw [List.length_append, ← Nat.add_assoc] at a3 a4
  refine ⟨0 + (groups (mk E)).length, 0 + (groups (mk E)).length + (groups (E.nk : Int)).length, ?_, ?_, a3, a4⟩
  · rw [show ((0 : Nat) : Int) = 0 from rfl] at g1
    rw [g1]; push_cast; rfl
  · rw [g2]; push_cast; rfl
theorem same_refl (E : PNode) : sameNd E E = true := by simp [sameNd, sameTx, sameNu]
structure SameP (D E : PNode) : Prop where
  leaf : D.leaf = E.leaf
  nk : D.nk = E.nk
  key : ∀ i, i < D.nk → D.key i = E.key i
  nv : D.nv = E.nv
  val : ∀ i, i < D.nv → D.val i = E.val i
  nd : D.nd = E.nd
  kid : ∀ i, i < D.nd → D.kid i = E.kid i
theorem SameP.same {D E : PNode} (h : SameP D E) : sameNd D E = true := by
  simp only [sameNd, sameTx, sameNu, Bool.and_eq_true, decide_eq_true_eq, beq_iff_eq]
  exact ⟨⟨⟨h.leaf, h.nk, h.key⟩, h.nv, h.val⟩, h.nd, h.kid⟩
theorem SameP.bytes {D E : PNode} (h : SameP D E) : bytesN D = bytesN E := by
  unfold bytesN headL
  rw [h.leaf, h.nk, h.nv, h.nd, textsL_congr E.nk (fun i hi => h.key i (by rw [h.nk]; exact hi)), textsL_congr E.nv (fun i hi => h.val i (by rw [h.nv]; exact hi)), numL_congr E.nd (fun i hi => h.kid i (by rw [h.nd]; exact hi))]
theorem SameP.okI {D E : PNode} (h : SameP D E) (k : OkI E) : OkI D := by
  obtain ⟨hp, hk, hs⟩ := k
  have hr : Rises E.key E.nk → Rises D.key D.nk := fun r i hi => by
    rw [h.key i (by omega), h.key (i + 1) hi]; exact r i (by rw [← h.nk]; exact hi)
  have hn : ∀ B, NoneL B E.nk E.key → NoneL B D.nk D.key := fun B r i hi => by rw [h.key i hi]; exact r i (by rw [← h.nk]; exact hi)
  have hv : ∀ B, NoneL B E.nv E.val → NoneL B D.nv D.val := fun B r i hi => by rw [h.val i hi]; exact r i (by rw [← h.nv]; exact hi)
  refine ⟨?_, ?_, by unfold sizeN at hs ⊢; rw [h.bytes]; exact hs⟩
  · unfold Pure at hp ⊢; rw [h.leaf, h.nd, h.nv]; exact hp
  · rcases hk with ⟨k1, k2, k3, k4, k5, k6⟩ | ⟨k1, k2, k3, k4⟩
    · exact .inl ⟨by rw [h.leaf]; exact k1, by rw [h.nk]; exact k2, by rw [h.nv, h.nk]; exact k3, hr k4, hn _ k5, hv _ k6⟩
    · exact .inr ⟨by rw [h.leaf]; exact k1, by rw [h.nd, h.nk]; exact k2, hr k3, fun i hi => by rw [h.kid i hi]; exact k4 i (by rw [← h.nd]; exact hi)⟩
theorem SameP.symm {D E : PNode} (h : SameP D E) : SameP E D :=
  ⟨h.leaf.symm, h.nk.symm, fun i hi => (h.key i (by rw [h.nk]; exact hi)).symm, h.nv.symm, fun i hi => (h.val i (by rw [h.nv]; exact hi)).symm, h.nd.symm, fun i hi => (h.kid i (by rw [h.nd]; exact hi)).symm⟩
/-- Bytes are those of one node alone. -/
theorem bytesN_uniq {N : Nat} {F : Nat → Int} {D E : PNode} (hD : Shape D) (hE : Shape E) (a : AtF N F 0 (bytesN D)) (b : AtF N F 0 (bytesN E)) : SameP D E := by
  obtain ⟨p1, p2, d1, d2, d3, d4⟩ := at_parts hD a
  obtain ⟨q1, q2, e1, e2, e3, e4⟩ := at_parts hE b
  rw [d1] at e1
  simp only [Prod.mk.injEq, and_true] at e1
  obtain ⟨hm, hp⟩ := e1
  obtain rfl : p1 = q1 := by omega
  rw [d2] at e2
  simp only [Prod.mk.injEq, and_true] at e2
  obtain ⟨hn, hp2⟩ := e2
  obtain rfl : p2 = q2 := by omega
  have hnk : D.nk = E.nk := by omega
  have hl : D.leaf = E.leaf := by
    unfold mk at hm
    cases h1 : D.leaf <;> cases h2 : E.leaf <;> rw [h1, h2] at hm <;> first | rfl | (simp at hm)
  rw [← hnk] at e3 e4
  have hk := textsL_uniq D.nk hD.key (by rw [hnk]; exact hE.key) d3 e3
  have ek := textsL_congr D.nk hk
  rw [← ek] at e4
  unfold restL at d4 e4
  rcases hD.cnt with ⟨l1, c1⟩ | ⟨l1, c1⟩
  · have l2 : E.leaf = true := by rw [← hl]; exact l1
    rcases hE.cnt with ⟨-, c2⟩ | ⟨l3, -⟩
    · rw [l1, if_pos rfl] at d4
      rw [l2, if_pos rfl] at e4
      have hv : D.nv = E.nv := by omega
      rw [← hv] at e4
      have hvv := textsL_uniq D.nv hD.val (by rw [hv]; exact hE.val) d4 e4
      have z1 : D.nd = 0 := by rcases hD.pure with ⟨-, z⟩ | ⟨z, -⟩; exact z; rw [l1] at z; cases z
      have z2 : E.nd = 0 := by rcases hE.pure with ⟨-, z⟩ | ⟨z, -⟩; exact z; rw [l2] at z; cases z
      exact ⟨hl, hnk, hk, hv, hvv, by omega, fun i hi => absurd hi (by omega)⟩
    · rw [l2] at l3; cases l3
  · have l2 : E.leaf = false := by rw [← hl]; exact l1
    rcases hE.cnt with ⟨l3, -⟩ | ⟨-, c2⟩
    · rw [l2] at l3; cases l3
    · rw [l1, if_neg (by simp)] at d4
      rw [l2, if_neg (by simp)] at e4
      have hd : D.nd = E.nd := by omega
      rw [← hd] at e4
      have hdd := numL_uniq D.nd hD.kid (by rw [hd]; exact hE.kid) d4 e4
      have z1 : D.nv = 0 := by rcases hD.pure with ⟨z, -⟩ | ⟨-, z⟩; rw [l1] at z; cases z; exact z
      have z2 : E.nv = 0 := by rcases hE.pure with ⟨z, -⟩ | ⟨-, z⟩; rw [l2] at z; cases z; exact z
      exact ⟨hl, hnk, hk, by omega, fun i hi => absurd hi (by omega), hd, hdd⟩
theorem textsL_has (f : Nat → ByteArray) : ∀ k i, i < k → (f i).size ≤ (textsL f k).length ∧ k ≤ (textsL f k).length
  | k + 1, i, hi => by
    have hg := (groups_len (clampN (f k).size)).1
    simp only [textsL, List.length_append, oneT_len]
    have h0 : k ≤ (textsL f k).length := by
      rcases Nat.eq_zero_or_pos k with rfl | h
      · exact Nat.zero_le _
      · exact (textsL_has f k 0 h).2
    by_cases e : i < k
    · have := textsL_has f k i e; omega
    · obtain rfl : i = k := by omega
      omega
/-- What is right can be put. -/
theorem OkI.shape {E : PNode} (h : OkI E) : Shape E := by
  obtain ⟨hp, hk, hs⟩ := h
  unfold sizeN bytesN at hs
  simp only [List.length_append] at hs
  have hkey : NoneL 1000000 E.nk E.key := fun i hi => by have := (textsL_has E.key E.nk i hi).1; omega
  have hnk : E.nk ≤ 1000000 := by
    rcases Nat.eq_zero_or_pos E.nk with h | h
    · omega
    · have := (textsL_has E.key E.nk 0 h).2; omega
  rcases hk with ⟨k1, k2, k3, k4, k5, k6⟩ | ⟨k1, k2, k3, k4⟩
  · have z1 : E.nd = 0 := by rcases hp with ⟨-, z⟩ | ⟨z, -⟩; exact z; rw [k1] at z; cases z
    exact ⟨hp, .inl ⟨k1, k3⟩, hnk, hkey, fun i hi => by have := k6 i hi; omega, fun i hi => by omega⟩
  · have z1 : E.nv = 0 := by rcases hp with ⟨z, -⟩ | ⟨-, z⟩; rw [k1] at z; cases z; exact z
    exact ⟨hp, .inr ⟨k1, k2⟩, hnk, hkey, fun i hi => by omega, fun i hi => by have := k4 i hi; omega⟩
theorem at_lof {N : Nat} {F : Nat → Int} {L : List Int} (h : L = lof N F) : AtF N F 0 L := by
  have hl : L.length = N := by rw [h, lof_len]
  exact ⟨by omega, fun j hj => by rw [Nat.zero_add, h, lof_get _ _ _ (by omega)]⟩
end Go.Proofs.Ytaiinlcdfeboiaa

/-
  The program's GetU and the model's come to the same plain function, at every slice of bytes that reads and at every place.
-/
namespace Go.Proofs.Ytaiinlcdfeboiaa
open Go.RowKit
set_option maxRecDepth 4000

theorem ret3 {a b a' b' : Int} {c c' : Bool} (h1 : a = a') (h2 : b = b') (h3 : c = c') :
    Ending.returned (.tuple #[.int .i64 a, .int .i64 b, .bool c]) = .returned (.tuple #[.int .i64 a', .int .i64 b', .bool c']) := by rw [h1, h2, h3]

def getRet (r : Int × Int × Bool) : Ending := .returned (.tuple #[.int .i64 r.1, .int .i64 r.2.1, .bool r.2.2])

set_option maxHeartbeats 1000000 in
theorem getU_impl (ao : Option Addr) (n cap : Nat) (f : Nat → Int) (p : Int) (w : World) (hv : View w ao n cap f) (hn : n ≤ 281474976710656) (hp1 : p ≤ 9223372036854775807) :
    Calls Try.prog 66 #[.slice ao n cap, .int .i64 p] w fun e w' => e = getRet (getU n f p) ∧ w' = w := by
  by_cases hp : p < 0
  · rw [getU_neg n f p hp]
    go_enter Try.func66, Try.ntmps66
    go_wp2
    go_ret3
    exact ⟨rfl, rfl⟩
  obtain ⟨i, rfl⟩ := Int.eq_ofNat_of_zero_le (Int.not_lt.1 hp)
  by_cases h0 : i < n
  case neg =>
    rw [getU_past n f i (by omega)]
    have hge : (n : Int) ≤ (i : Int) := by omega
    go_enter Try.func66, Try.ntmps66
    go_wp2
    refine wp_loop_rounds 1 ?_
    rw [rounds_succ]
    go_wp2
    go_ret3
    exact ⟨rfl, rfl⟩
  obtain ⟨b, off, rfl, hb, hc⟩ := hv.cells (by omega)
  have hb0 := hv.byte i h0
  have hc0 := hc i h0
  have hz0 : (i : Int) < (n : Int) := by omega
  by_cases h1 : f i < 128
  · rw [getU_1 n f i h0 h1]
    clear hc hv
    go_enter Try.func66, Try.ntmps66
    go_wp2
    refine wp_loop_rounds 1 ?_
    rw [rounds_succ]
    go_wp2
    all_goals
      go_ret3
      exact ⟨ret3 (by first | rfl | (dsimp only; omega)) (by first | rfl | (dsimp only; omega)) rfl, rfl⟩
  by_cases h2 : i + 1 < n
  case neg =>
    rw [getU_2end n f i h0 (by omega) (by omega)]
    clear hc hv
    go_enter Try.func66, Try.ntmps66
    go_wp2
    refine wp_loop_rounds 2 ?_
    rw [rounds_succ]
    go_wp2
    all_goals
      rw [rounds_succ]
      go_wp2
    all_goals
      go_ret3
      exact ⟨ret3 (by first | rfl | (dsimp only; omega)) (by first | rfl | (dsimp only; omega)) rfl, rfl⟩
  have hb1 := hv.byte (i + 1) h2
  have hc1 := hc (i + 1) h2
  have hz1 : (i : Int) + 1 < (n : Int) := by omega
  by_cases h3 : f (i + 1) < 128
  case pos =>
    by_cases h4 : f (i + 1) = 0
    case pos =>
      rw [getU_2zero n f i h2 (by omega) h4]
      clear hc hv
      go_enter Try.func66, Try.ntmps66
      go_wp2
      refine wp_loop_rounds 2 ?_
      rw [rounds_succ]
      go_wp2
      all_goals
        rw [rounds_succ]
        go_wp2
      all_goals
        go_ret3
        exact ⟨ret3 (by first | rfl | (dsimp only; omega)) (by first | rfl | (dsimp only; omega)) rfl, rfl⟩
    case neg =>
      rw [getU_2 n f i h2 (by omega) h3 h4]
      clear hc hv
      go_enter Try.func66, Try.ntmps66
      go_wp2
      refine wp_loop_rounds 2 ?_
      rw [rounds_succ]
      go_wp2
      all_goals
        rw [rounds_succ]
        go_wp2
      all_goals
        go_ret3
        exact ⟨ret3 (by first | rfl | (dsimp only; omega)) (by first | rfl | (dsimp only; omega)) rfl, rfl⟩
  by_cases h5 : i + 2 < n
  case neg =>
    rw [getU_3end n f i h2 (by omega) (by omega) (by omega)]
    clear hc hv
    go_enter Try.func66, Try.ntmps66
    go_wp2
    refine wp_loop_rounds 3 ?_
    rw [rounds_succ]
    go_wp2
    all_goals
      rw [rounds_succ]
      go_wp2
    all_goals
      rw [rounds_succ]
      go_wp2
    all_goals
      go_ret3
      exact ⟨ret3 (by first | rfl | (dsimp only; omega)) (by first | rfl | (dsimp only; omega)) rfl, rfl⟩
  have hb2 := hv.byte (i + 2) h5
  have hc2 := hc (i + 2) h5
  have hz2 : (i : Int) + 2 < (n : Int) := by omega
  by_cases h6 : f (i + 2) < 128
  case neg =>
    rw [getU_long n f i h5 (by omega) (by omega) (by omega)]
    clear hc hv
    go_enter Try.func66, Try.ntmps66
    go_wp2
    refine wp_loop_rounds 4 ?_
    rw [rounds_succ]
    go_wp2
    all_goals
      rw [rounds_succ]
      go_wp2
    all_goals
      rw [rounds_succ]
      go_wp2
    all_goals
      rw [rounds_succ]
      go_wp2
    all_goals
      go_ret3
      exact ⟨ret3 (by first | rfl | (dsimp only; omega)) (by first | rfl | (dsimp only; omega)) rfl, rfl⟩
  by_cases h7 : f (i + 2) = 0 ∨ 1000000 < f i - 128 + (f (i + 1) - 128) * 128 + f (i + 2) * 16384
  case pos =>
    rw [getU_3no n f i h5 (by omega) (by omega) h6 h7]
    clear hc hv
    go_enter Try.func66, Try.ntmps66
    go_wp2
    refine wp_loop_rounds 3 ?_
    rw [rounds_succ]
    go_wp2
    all_goals
      rw [rounds_succ]
      go_wp2
    all_goals
      rw [rounds_succ]
      go_wp2
    all_goals
      go_ret3
      exact ⟨ret3 (by first | rfl | (dsimp only; omega)) (by first | rfl | (dsimp only; omega)) rfl, rfl⟩
  case neg =>
    rw [getU_3 n f i h5 (by omega) (by omega) h6 h7]
    clear hc hv
    go_enter Try.func66, Try.ntmps66
    go_wp2
    refine wp_loop_rounds 3 ?_
    rw [rounds_succ]
    go_wp2
    all_goals
      rw [rounds_succ]
      go_wp2
    all_goals
      rw [rounds_succ]
      go_wp2
    all_goals
      go_ret3
      exact ⟨ret3 (by first | rfl | (dsimp only; omega)) (by first | rfl | (dsimp only; omega)) rfl, rfl⟩
end Go.Proofs.Ytaiinlcdfeboiaa

/-
  The program's GetText: the bytes behind a number that says how many they are, as a text.
-/
namespace Go.Proofs.Ytaiinlcdfeboiaa
open Go.RowKit
set_option maxRecDepth 4000

theorem getU_impl' {a b : Int} {c : Bool} (ao : Option Addr) (n cap : Nat) (f : Nat → Int) (p : Int) (w : World) (hg : Hid (getU n f p = (a, b, c))) (hv : View w ao n cap f) (hn : n ≤ 281474976710656) (hp1 : p ≤ 9223372036854775807) :
    Calls Try.prog 66 #[.slice ao n cap, .int .i64 p] w fun e w' => e = .returned (.tuple #[.int .i64 a, .int .i64 b, .bool c]) ∧ w = w' := by
  refine (getU_impl ao n cap f p w hv hn hp1).mono ?_
  rintro e w' ⟨he, hw⟩
  rw [hg.out] at he
  exact ⟨he, hw.symm⟩

set_option maxHeartbeats 1000000 in
theorem getText_impl (b off n cap : Nat) (f : Nat → Int) (p : Int) (w : World) (s : ByteArray) (q : Int) (ok : Bool) (hg : Hid (getText n f p = (s, q, ok))) (hv : View w (some ⟨b, off, none⟩) n cap f) (hn : n ≤ 281474976710656) (hp1 : p ≤ 9223372036854775807) :
    Calls Try.prog 68 #[.slice (some ⟨b, off, none⟩) n cap, .int .i64 p] w fun e w' => e = .returned (.tuple #[.string s, .int .i64 q, .bool ok]) ∧ w = w' := by
  obtain ⟨a, r, c, hu⟩ : ∃ a r c, Hid (getU n f p = (a, r, c)) := ⟨_, _, _, rfl⟩
  have hbd : c = true → 0 ≤ a ∧ a ≤ 1000000 ∧ 0 ≤ r ∧ r ≤ n := by rintro rfl; exact getU_bd hv.byte hu.out
  have hT : getText n f p = if c = true ∧ a ≤ n - r then (strOfNums (lof a.toNat (fun i => f (r.toNat + i))), r + a, true) else (strOfNums [], 0, false) := by unfold getText; rw [hu.out]
  rw [hg.out] at hT
  cases c with
  | false =>
    rw [if_neg (by simp)] at hT
    cases hT
    clear hbd
    go_enter Try.func68, Try.ntmps68
    go_wp2_with fail
    refine (getU_impl' _ n cap f p w hu hv hn hp1).mono ?_
    rintro e _ ⟨rfl, rfl⟩
    go_wp2
    go_ret3
    exact ⟨rfl, rfl⟩
  | true =>
    obtain ⟨h0, h1, h2, h3⟩ := hbd rfl
    obtain ⟨a, rfl⟩ := Int.eq_ofNat_of_zero_le h0
    obtain ⟨r, rfl⟩ := Int.eq_ofNat_of_zero_le h2
    clear hbd
    by_cases hl : (a : Int) ≤ n - r
    · rw [if_pos ⟨rfl, hl⟩, Int.toNat_natCast, Int.toNat_natCast] at hT
      simp only [Prod.mk.injEq] at hT
      obtain ⟨rfl, rfl, rfl⟩ := hT
      have hle := hv.le
      have hcap : (r : Int) + a ≤ cap := by omega
      by_cases hrc : r < cap
      · have hrz : (r : Int) < cap := by omega
        have q1 : (convert 22 9 (.slice (some ⟨b, off + r, none⟩) a (cap - r))).run Try.prog w = .ok (.string (strOfNums (lof a (fun i => f (r + i))))) w := conv_view (hv.cut (by omega))
        go_enter Try.func68, Try.ntmps68
        go_wp2_with fail
        refine (getU_impl' _ n cap f p w hu hv hn hp1).mono ?_
        rintro e _ ⟨rfl, rfl⟩
        go_wp2
        go_ret3
        exact ⟨rfl, rfl⟩
      · obtain rfl : r = cap := by omega
        obtain rfl : a = 0 := by omega
        have hrz : ¬ (r : Int) < r := by omega
        have q2 : (convert 22 9 (.slice (some ⟨b, off, none⟩) 0 0)).run Try.prog w = .ok (.string (strOfNums (lof 0 f))) w := conv_view ⟨Nat.le_refl _, fun _ h => absurd h (Nat.not_lt_zero _), fun h => absurd h (Nat.lt_irrefl _)⟩
        go_enter Try.func68, Try.ntmps68
        go_wp2_with fail
        refine (getU_impl' _ n r f p w hu hv hn hp1).mono ?_
        rintro e _ ⟨rfl, rfl⟩
        go_wp2
        go_ret3
        exact ⟨retT rfl (by omega) rfl, rfl⟩
    · rw [if_neg (by simp [hl])] at hT
      cases hT
      have hl2 : (n : Int) - r < a := by omega
      go_enter Try.func68, Try.ntmps68
      go_wp2_with fail
      refine (getU_impl' _ n cap f p w hu hv hn hp1).mono ?_
      rintro e _ ⟨rfl, rfl⟩
      go_wp2
      go_ret3
      exact ⟨rfl, rfl⟩

end Go.Proofs.Ytaiinlcdfeboiaa

/-
  The program's getEach, of texts and of numbers.
-/
namespace Go.Proofs.Ytaiinlcdfeboiaa
open Go.RowKit
set_option maxRecDepth 4000

def lfT (l : List ByteArray) (i : Nat) : ByteArray := l.getD i ⟨#[]⟩
def lfN (l : List Int) (i : Nat) : Int := l.getD i 0
theorem getD_leftT {l k : List ByteArray} (i : Nat) (d : ByteArray) (h : i < l.length) : (l ++ k).getD i d = l.getD i d := by simp [List.getD, List.getElem?_append_left h]
theorem lfT_old (l : List ByteArray) (s : ByteArray) : ∀ i, i < l.length → lfT (l ++ [s]) i = lfT l i := fun i hi => by unfold lfT; rw [getD_leftT _ _ hi]
theorem lfT_new (l : List ByteArray) (s : ByteArray) : lfT (l ++ [s]) l.length = s := by simp [lfT]
theorem lfN_old (l : List Int) (s : Int) : ∀ i, i < l.length → lfN (l ++ [s]) i = lfN l i := fun i hi => by unfold lfN; rw [getD_left _ _ _ hi]
theorem lfN_new (l : List Int) (s : Int) : lfN (l ++ [s]) l.length = s := by simp [lfN]
theorem textsL_push (l : List ByteArray) (s : ByteArray) : textsL (lfT (l ++ [s])) (l.length + 1) = textsL (lfT l) l.length ++ oneT s := by
  simp only [textsL]; rw [textsL_congr l.length (lfT_old l s), lfT_new]
theorem numL_push (l : List Int) (s : Int) : numL (lfN (l ++ [s])) (l.length + 1) = numL (lfN l) l.length ++ groups (clampN s) := by
  simp only [numL]; rw [numL_congr l.length (lfN_old l s), lfN_new]
theorem noneT_push {B : Nat} {l : List ByteArray} {s : ByteArray} (h : NoneL B l.length (lfT l)) (hs : s.size ≤ B) : NoneL B (l.length + 1) (lfT (l ++ [s])) := fun i hi => by
  by_cases e : i < l.length
  · rw [lfT_old l s i e]; exact h i e
  · obtain rfl : i = l.length := by omega
    rw [lfT_new]; exact hs
theorem inU_push {l : List Int} {s : Int} (h : InU l.length (lfN l)) (hs : 0 ≤ s ∧ s ≤ 1000000) : InU (l.length + 1) (lfN (l ++ [s])) := fun i hi => by
  by_cases e : i < l.length
  · rw [lfN_old l s i e]; exact h i e
  · obtain rfl : i = l.length := by omega
    rw [lfN_new]; exact hs
theorem own_empty (w : World) (T : TypeId) : (w.alloc (.cells #[] T)).ownsRow w.heap.size T 1 (.slice (some ⟨w.heap.size, 0, none⟩) 0 0) 0 [] :=
  ⟨rfl, .inr ⟨w.heap.size, 0, #[], rfl, Nat.le_refl _, heap_alloc_new w _, Nat.zero_le _, Nat.zero_le _, rfl, by simp⟩⟩
theorem getU_implN (b off n cap : Nat) (f : Nat → Int) (p : Int) (w : World) (a q : Int) (ok : Bool) (hg : Hid (getU n f p = (a, q, ok))) (hv : View w (some ⟨b, off, none⟩) n cap f) (hn : n ≤ 281474976710656) (hp1 : p ≤ 9223372036854775807) :
    Calls Try.prog 66 #[.slice (some ⟨b, off, none⟩) n cap, .int .i64 p] w fun e w' => e = .returned (.tuple #[.int .i64 a, .int .i64 q, .bool ok]) ∧ w = w' := getU_impl' _ n cap f p w hg hv hn hp1

/-- As many were read as were asked for, or there are not so many. -/
def EachT (w : World) (n : Nat) (F : Nat → Int) (p m : Nat) (e : Ending) (w' : World) : Prop :=
  Below w.heap.size w w' ∧
  ((∃ (l : List ByteArray) (v : Value), e = .returned (.tuple #[v, .int .i64 ((p + (textsL (lfT l) m).length : Nat) : Int), .bool true]) ∧ l.length = m ∧ w'.ownsRow w.heap.size 9 1 v m (txc l) ∧ NoneL 1000000 m (lfT l) ∧ AtF n F p (textsL (lfT l) m))
  ∨ (∃ (a : Option Addr) (c : Nat), e = .returned (.tuple #[.slice a 0 c, .int .i64 0, .bool false]) ∧ ∀ g, NoneL 1000000 m g → ¬ AtF n F p (textsL g m)))

set_option maxHeartbeats 4000000 in
theorem eachT_any (b off n cap : Nat) (F : Nat → Int) (p m : Nat) (w : World) (hv : View w (some ⟨b, off, none⟩) n cap F) (hn : n ≤ 4194304) (hp : p ≤ n) (hm : m ≤ 1000001) :
    Calls Try.prog 67 #[.slice (some ⟨b, off, none⟩) n cap, .int .i64 p, .int .i64 m, .func (.func 68) #[] #[]] w (EachT w n F p m) := by
  obtain ⟨i0, hi, hz0, hz1, hz2⟩ := infoTxt
  have HV : Hid (View w (some ⟨b, off, none⟩) n cap F) := hv
  have HO0 : Hid ((w.alloc (.cells #[] 9)).ownsRow w.heap.size 9 1 (.slice (some ⟨w.heap.size, 0, none⟩) 0 0) 0 (txc [])) := own_empty w _
  have HB0 : Hid (Below w.heap.size w (w.alloc (.cells #[] 9))) := (Below.refl _ _).alloc (Nat.le_refl _) _
  have hFb : Hid (∀ i, i < n → 0 ≤ F i ∧ F i ≤ 255) := hv.byte
  clear hv
  go_enter Try.func67, Try.ntmps67
  go_wp2
  go_loopg [1, 11, 17] m (fun q at_ v i wr => ∃ l : List ByteArray, l.length ≤ m ∧ q = m - l.length ∧ i = .int .i64 l.length ∧ at_ = .int .i64 ((p + (textsL (lfT l) l.length).length : Nat) : Int) ∧ wr.ownsRow w.heap.size 9 1 v l.length (txc l) ∧ Below w.heap.size w wr ∧ Hid (NoneL 1000000 l.length (lfT l) ∧ AtF n F p (textsL (lfT l) l.length)))
  case atStart => exact ⟨[], Nat.zero_le _, rfl, rfl, rfl, HO0.out, HB0.out, (fun i hi => absurd hi (Nat.not_lt_zero _)), AtF.nil hp⟩
  case round =>
    clear HO0 HB0
    obtain ⟨l, hk, rfl, rfl, rfl, hown, hB, HA⟩ := hrel
    obtain ⟨P, hP⟩ : ∃ P : Nat, Hid (p + (textsL (lfT l) l.length).length = P) := ⟨_, rfl⟩
    have hPn : P ≤ n := by rw [← hP.out]; exact HA.out.2.le
    rw [hP.out]
    by_cases hlt : l.length < m
    · have hkz : (l.length : Int) < (m : Int) := by omega
      obtain ⟨s, q, ok, hg⟩ : ∃ s q ok, Hid (getText n F (P : Int) = (s, q, ok)) := ⟨_, _, _, rfl⟩
      have hC := getText_impl b off n cap F (P : Int) wr s q ok hg (HV.out.below hB) (by omega) (by omega)
      cases ok with
      | false =>
        have HNO : Hid (∀ g, NoneL 1000000 m g → ¬ AtF n F p (textsL g m)) := fun g h1 h2 => by
          have := textsL_more hlt HA.out.1 h1 HA.out.2 h2
          rw [hP.out, hg.out] at this
          cases this
        have HB : Hid (Below w.heap.size w (wr.alloc (.cells #[] 9))) := hB.alloc hB.size _
        have HB1 : Hid (Below w.heap.size w wr) := hB
        clear hown hB HA hg hP
        go_wp2_with fail
        refine hC.mono ?_
        rintro e w2 ⟨rfl, rfl⟩
        clear hC
        go_wp2
        go_ret3
        exact ⟨HB.out, .inr ⟨_, _, rfl, HNO.out⟩⟩
      | true =>
        obtain ⟨P', hPe, hAt, hq, hin⟩ := getText_read hFb.out hg.out
        have HQ : Hid (q = ((p + (textsL (lfT (l ++ [s])) (l.length + 1)).length : Nat) : Int)) := by
          show _ = _
          rw [textsL_push, List.length_append, oneT_txtL hin]
          have e0 : P' = P := by omega
          rw [hq, e0, ← hP.out]; push_cast; omega
        have HA2 : Hid (NoneL 1000000 (l.length + 1) (lfT (l ++ [s])) ∧ AtF n F p (textsL (lfT (l ++ [s])) (l.length + 1))) := by
          refine ⟨noneT_push HA.out.1 hin, ?_⟩
          rw [textsL_push, oneT_txtL hin]
          have e0 : P' = P := by omega
          refine HA.out.2.append ?_
          rw [hP.out, ← e0]; exact hAt
        have HB : Hid (Below w.heap.size w wr) := hB
        have HL : Hid (l.length < m) := hlt
        clear hB HA hg hP hPe hAt hq hin
        go_wp2_with fail
        refine hC.mono ?_
        rintro e w2 ⟨rfl, rfl⟩
        clear hC
        go_wp2_with (at_builtin; go_must (refine wpList_append_own _ rfl (.tmp 30) (.tmp 32) 24 rfl w.heap.size 9 i0 (.string ⟨#[]⟩) 1 16 Try.underlying24 hi hz0 hz1 hz2 rfl (by decide) _ _ _ rfl (hown.alloc _) ⟨wr.heap.size, 0, none⟩ 1 1 [.string s] rfl rfl (cellNew _ _ _) (oneS _) (by unfold maxLen; omega) (by omega) (by have := HB.out.size; simp; omega) ?_); intro v2 w3 hown2 hgr2 _)
        have hB2 : Below w.heap.size w w3 := (HB.out.alloc HB.out.size _).grown hgr2 (by have := HB.out.size; simp; omega) (fun k hk => (hown.lt k hk).1)
        have hO2 : w3.ownsRow w.heap.size 9 1 v2 (l ++ [s]).length (txc (l ++ [s])) := by
          rw [List.length_append, txc_app]
          exact hown2
        clear hgr2 hown hown2 HB
        go_wp2
        go_roundg (m - (l.length + 1))
        case measure => have := HL.out; omega
        case rel => exact ⟨l ++ [s], by have := HL.out; simp; omega, by simp, by simp; try go_num, by rw [HQ.out, List.length_append]; rfl, hO2, hB2, by rw [List.length_append]; exact HA2.out⟩
    · have hlm : l.length = m := by omega
      have hkz : ¬ (l.length : Int) < (m : Int) := by omega
      have HR : Hid (EachT w n F p m (.returned (.tuple #[u11, .int .i64 (P : Int), .bool true])) wr) := by
        refine ⟨hB, .inl ⟨l, _, by rw [← hP.out, ← hlm], hlm, by rw [← hlm]; exact hown, by rw [← hlm]; exact HA.out.1, by rw [← hlm]; exact HA.out.2⟩⟩
      clear hown hB HA hP
      go_wp2
      go_ret3
      exact HR.out

/-- As many were read as were asked for, or there are not so many. -/
def EachN (w : World) (n : Nat) (F : Nat → Int) (p m : Nat) (e : Ending) (w' : World) : Prop :=
  Below w.heap.size w w' ∧
  ((∃ (l : List Int) (v : Value), e = .returned (.tuple #[v, .int .i64 ((p + (numL (lfN l) m).length : Nat) : Int), .bool true]) ∧ l.length = m ∧ w'.ownsRow w.heap.size 3 1 v m (nuc l) ∧ InU m (lfN l) ∧ AtF n F p (numL (lfN l) m))
  ∨ (∃ (a : Option Addr) (c : Nat), e = .returned (.tuple #[.slice a 0 c, .int .i64 0, .bool false]) ∧ ∀ g, InU m g → ¬ AtF n F p (numL g m)))

set_option maxHeartbeats 4000000 in
theorem eachN_any (b off n cap : Nat) (F : Nat → Int) (p m : Nat) (w : World) (hv : View w (some ⟨b, off, none⟩) n cap F) (hn : n ≤ 4194304) (hp : p ≤ n) (hm : m ≤ 1000001) :
    Calls Try.prog 69 #[.slice (some ⟨b, off, none⟩) n cap, .int .i64 p, .int .i64 m, .func (.func 66) #[] #[]] w (EachN w n F p m) := by
  obtain ⟨i0, hi, hz0, hz1, hz2⟩ := infoNum
  have HV : Hid (View w (some ⟨b, off, none⟩) n cap F) := hv
  have HO0 : Hid ((w.alloc (.cells #[] 3)).ownsRow w.heap.size 3 1 (.slice (some ⟨w.heap.size, 0, none⟩) 0 0) 0 (nuc [])) := own_empty w _
  have HB0 : Hid (Below w.heap.size w (w.alloc (.cells #[] 3))) := (Below.refl _ _).alloc (Nat.le_refl _) _
  have hFb : Hid (∀ i, i < n → 0 ≤ F i ∧ F i ≤ 255) := hv.byte
  clear hv
  go_enter Try.func69, Try.ntmps69
  go_wp2
  go_loopg [1, 11, 17] m (fun q at_ v i wr => ∃ l : List Int, l.length ≤ m ∧ q = m - l.length ∧ i = .int .i64 l.length ∧ at_ = .int .i64 ((p + (numL (lfN l) l.length).length : Nat) : Int) ∧ wr.ownsRow w.heap.size 3 1 v l.length (nuc l) ∧ Below w.heap.size w wr ∧ Hid (InU l.length (lfN l) ∧ AtF n F p (numL (lfN l) l.length)))
  case atStart => exact ⟨[], Nat.zero_le _, rfl, rfl, rfl, HO0.out, HB0.out, (fun i hi => absurd hi (Nat.not_lt_zero _)), AtF.nil hp⟩
  case round =>
    clear HO0 HB0
    obtain ⟨l, hk, rfl, rfl, rfl, hown, hB, HA⟩ := hrel
    obtain ⟨P, hP⟩ : ∃ P : Nat, Hid (p + (numL (lfN l) l.length).length = P) := ⟨_, rfl⟩
    have hPn : P ≤ n := by rw [← hP.out]; exact HA.out.2.le
    rw [hP.out]
    by_cases hlt : l.length < m
    · have hkz : (l.length : Int) < (m : Int) := by omega
      obtain ⟨s, q, ok, hg⟩ : ∃ s q ok, Hid (getU n F (P : Int) = (s, q, ok)) := ⟨_, _, _, rfl⟩
      have hC := getU_implN b off n cap F (P : Int) wr s q ok hg (HV.out.below hB) (by omega) (by omega)
      cases ok with
      | false =>
        have HNO : Hid (∀ g, InU m g → ¬ AtF n F p (numL g m)) := fun g h1 h2 => by
          have := numL_more hlt HA.out.1 h1 HA.out.2 h2
          rw [hP.out, hg.out] at this
          cases this
        have HB : Hid (Below w.heap.size w (wr.alloc (.cells #[] 3))) := hB.alloc hB.size _
        have HB1 : Hid (Below w.heap.size w wr) := hB
        clear hown hB HA hg hP
        go_wp2_with fail
        refine hC.mono ?_
        rintro e w2 ⟨rfl, rfl⟩
        clear hC
        go_wp2
        go_ret3
        exact ⟨HB.out, .inr ⟨_, _, rfl, HNO.out⟩⟩
      | true =>
        obtain ⟨P', hPe, hAt, hq, hin⟩ := getU_read hFb.out hg.out
        have HQ : Hid (q = ((p + (numL (lfN (l ++ [s])) (l.length + 1)).length : Nat) : Int)) := by
          show _ = _
          rw [numL_push, List.length_append, clampN_in hin.1 hin.2]
          have e0 : P' = P := by omega
          rw [hq, e0, ← hP.out]; push_cast; omega
        have HA2 : Hid (InU (l.length + 1) (lfN (l ++ [s])) ∧ AtF n F p (numL (lfN (l ++ [s])) (l.length + 1))) := by
          refine ⟨inU_push HA.out.1 hin, ?_⟩
          rw [numL_push, clampN_in hin.1 hin.2]
          have e0 : P' = P := by omega
          refine HA.out.2.append ?_
          rw [hP.out, ← e0]; exact hAt
        have HB : Hid (Below w.heap.size w wr) := hB
        have HL : Hid (l.length < m) := hlt
        clear hB HA hg hP hPe hAt hq hin
        go_wp2_with fail
        refine hC.mono ?_
        rintro e w2 ⟨rfl, rfl⟩
        clear hC
        go_wp2_with (at_builtin; go_must (refine wpList_append_own _ rfl (.tmp 30) (.tmp 32) 25 rfl w.heap.size 3 i0 (.int .i64 0) 1 8 Try.underlying25 hi hz0 hz1 hz2 rfl (by decide) _ _ _ rfl (hown.alloc _) ⟨wr.heap.size, 0, none⟩ 1 1 [.int .i64 s] rfl rfl (cellNew _ _ _) (oneI _) (by unfold maxLen; omega) (by omega) (by have := HB.out.size; simp; omega) ?_); intro v2 w3 hown2 hgr2 _)
        have hB2 : Below w.heap.size w w3 := (HB.out.alloc HB.out.size _).grown hgr2 (by have := HB.out.size; simp; omega) (fun k hk => (hown.lt k hk).1)
        have hO2 : w3.ownsRow w.heap.size 3 1 v2 (l ++ [s]).length (nuc (l ++ [s])) := by
          rw [List.length_append, nuc_app]
          exact hown2
        clear hgr2 hown hown2 HB
        go_wp2
        go_roundg (m - (l.length + 1))
        case measure => have := HL.out; omega
        case rel => exact ⟨l ++ [s], by have := HL.out; simp; omega, by simp, by simp; try go_num, by rw [HQ.out, List.length_append]; rfl, hO2, hB2, by rw [List.length_append]; exact HA2.out⟩
    · have hlm : l.length = m := by omega
      have hkz : ¬ (l.length : Int) < (m : Int) := by omega
      have HR : Hid (EachN w n F p m (.returned (.tuple #[u11, .int .i64 (P : Int), .bool true])) wr) := by
        refine ⟨hB, .inl ⟨l, _, by rw [← hP.out, ← hlm], hlm, by rw [← hlm]; exact hown, by rw [← hlm]; exact HA.out.1, by rw [← hlm]; exact HA.out.2⟩⟩
      clear hown hB HA hP
      go_wp2
      go_ret3
      exact HR.out
end Go.Proofs.Ytaiinlcdfeboiaa

/-
  A row of the call's own is one above every lower bound.
-/
namespace Go.Proofs.Ytaiinlcdfeboiaa
open Go.RowKit
set_option maxRecDepth 4000

theorem own_loK {W : World} {base base' T c N : Nat} {v : Value} {xs : List Value} (h : W.ownsRow base T c v N xs) (hB : base' ≤ base) : W.ownsRow base' T c v N xs := by
  refine ⟨h.1, ?_⟩
  rcases h.2 with h0 | ⟨g, cap, cur, e, hb, hr⟩
  · exact .inl h0
  · exact .inr ⟨g, cap, cur, e, Nat.le_trans hB hb, hr⟩
end Go.Proofs.Ytaiinlcdfeboiaa

