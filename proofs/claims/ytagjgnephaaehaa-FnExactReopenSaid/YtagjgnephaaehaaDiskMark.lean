/-
  Marks that are written into a disk of the call's own: what they come to, and what they turn.
-/
import Derived.Test.YtagjgnephaaehaaDiskOwn
import Derived.Test.YtagjgnephaaehaaUpto
import Derived.Test.YtagjgnephaaehaaMark
namespace Go.Proofs.Ytagjgnephaaehaa
open Go.RowKit
set_option maxRecDepth 4000

def mkB (k : Int) (n : Nat) : List Int := (List.range n).map (fun i : Nat => (k + (i : Int)) % 256)
theorem mkB_len (k : Int) (n : Nat) : (mkB k n).length = n := by simp [mkB]
theorem mkB_get (k : Int) (n i : Nat) (h : i < n) : bf (mkB k n) i = (k + i) % 256 := by simp [bf, mkB, h]
def szS (l : List (List Int)) : Nat := (l.map List.length).sum
def szC (l : List (Int × List Int)) : Nat := (l.map (fun x => 1 + x.2.length)).sum
theorem szS_app (a b : List (List Int)) : szS (a ++ b) = szS a + szS b := by simp only [szS, List.map_append, List.sum_append]
theorem szC_app (a b : List (Int × List Int)) : szC (a ++ b) = szC a + szC b := by simp only [szC, List.map_append, List.sum_append]
theorem szS_take {l : List (List Int)} {j : Nat} (h : j < l.length) : szS (l.take (j + 1)) = szS (l.take j) + (l[j]).length := by
  have e : l.take (j + 1) = l.take j ++ [l[j]] := by rw [List.take_add_one, List.getElem?_eq_getElem h]; rfl
  rw [e, szS_app]; simp [szS]
theorem szC_take {l : List (Int × List Int)} {j : Nat} (h : j < l.length) : szC (l.take (j + 1)) = szC (l.take j) + (1 + (l[j]).2.length) := by
  have e : l.take (j + 1) = l.take j ++ [l[j]] := by rw [List.take_add_one, List.getElem?_eq_getElem h]; rfl
  rw [e, szC_app]; simp [szC]
theorem szS_le (l : List (List Int)) (j : Nat) : szS (l.take j) ≤ szS l := by
  have e : l = l.take j ++ l.drop j := (List.take_append_drop j l).symm
  have : szS l = szS (l.take j) + szS (l.drop j) := by
    conv => lhs; rw [e]
    exact szS_app _ _
  omega
theorem szC_le (l : List (Int × List Int)) (j : Nat) : szC (l.take j) ≤ szC l := by
  have e : l = l.take j ++ l.drop j := (List.take_append_drop j l).symm
  have : szC l = szC (l.take j) + szC (l.drop j) := by
    conv => lhs; rw [e]
    exact szC_app _ _
  omega
theorem szS_bound {l : List (List Int)} (hn : l.length ≤ 1048576) (h : ∀ x, x ∈ l → x.length ≤ 1048576) : szS l ≤ 1099511627776 := by
  have : ∀ m : List (List Int), (∀ x, x ∈ m → x.length ≤ 1048576) → szS m ≤ m.length * 1048576 := by
    intro m
    induction m with
    | nil => intro _; simp [szS]
    | cons a m ih =>
      intro hm
      have h1 := ih (fun x hx => hm x (List.mem_cons_of_mem _ hx))
      have h2 := hm a List.mem_cons_self
      simp only [szS, List.map_cons, List.sum_cons, List.length_cons] at h1 ⊢
      omega
  have h3 := this l h
  have : l.length * 1048576 ≤ 1048576 * 1048576 := Nat.mul_le_mul_right _ hn
  omega
theorem szC_bound {l : List (Int × List Int)} (hn : l.length ≤ 1048576) (h : ∀ x, x ∈ l → x.2.length ≤ 1048576) : szC l ≤ 1099512676352 := by
  have : ∀ m : List (Int × List Int), (∀ x, x ∈ m → x.2.length ≤ 1048576) → szC m ≤ m.length * 1048577 := by
    intro m
    induction m with
    | nil => intro _; simp [szC]
    | cons a m ih =>
      intro hm
      have h1 := ih (fun x hx => hm x (List.mem_cons_of_mem _ hx))
      have h2 := hm a List.mem_cons_self
      simp only [szC, List.map_cons, List.sum_cons, List.length_cons] at h1 ⊢
      omega
  have h3 := this l h
  have : l.length * 1048577 ≤ 1048576 * 1048577 := Nat.mul_le_mul_right _ hn
  omega
def fS (k : Int) (l : List (List Int)) (i : Nat) (x : List Int) : List Int := mkB (k + szS (l.take i)) x.length
def fC (k : Int) (l : List (Int × List Int)) (i : Nat) (x : Int × List Int) : Int × List Int := (k + szC (l.take i), mkB (k + szC (l.take i) + 1) x.2.length)
def fF (k : Int) (i : Nat) (_ : PFault) : PFault := ⟨k + 3 * i, k + 3 * i + 1, k + 3 * i + 2⟩
/-- How much is marked, and the disk with its marks. -/
def szD (D : PDisk) : Nat := szS D.secs + szC D.cache + 3 * D.faults.length
def mkD (k : Int) (D : PDisk) : PDisk := ⟨D.secs.mapIdx (fS k D.secs), D.cache.mapIdx (fC (k + szS D.secs) D.cache), D.ops, D.faults.mapIdx (fF (k + szS D.secs + szC D.cache)), D.down⟩

/-- Nothing but the row of this slice has turned. -/
structure OnlyV (v : Value) (w w' : World) : Prop where
  os : w'.os = w.os
  tape : w'.tape = w.tape
  output : w'.output = w.output
  size : w'.heap.size = w.heap.size
  block : ∀ b, v.ownBlock ≠ some b → w'.heap[b]? = w.heap[b]?
  other : ∀ (b : Nat) (c : Array Value) (t : TypeId) (z : Nat × Nat), w.heap[b]? = some (Obj.cells c t z) → t ≠ 5 → w'.heap[b]? = w.heap[b]?
/-- Rows of other things than bytes are as they were. -/
def Keep8 (w w' : World) : Prop := ∀ (b : Nat) (c : Array Value) (t : TypeId) (z : Nat × Nat), w.heap[b]? = some (Obj.cells c t z) → t ≠ 5 → w'.heap[b]? = w.heap[b]?
theorem Keep8.trans {a b c : World} (h : Keep8 a b) (k : Keep8 b c) : Keep8 a c := fun i x t z h1 h2 => (k i x t z ((h i x t z h1 h2).trans h1) h2).trans (h i x t z h1 h2)
theorem OnlyV.keep {v : Value} {w w' : World} (h : OnlyV v w w') : Keep8 w w' := h.other
set_option maxHeartbeats 400000 in
theorem mark_none (a : Option Addr) (cap : Nat) (k : Int) (w : World) :
    Calls Try.prog 50 #[.slice a 0 cap, .int .i64 k] w fun e w' => e = .returned (.int .i64 k) ∧ w' = w := by
  go_enter Try.func50, Try.ntmps50
  go_wp2
  go_loopg [1, 5] 0 (fun g s i wr => s = .int .i64 k ∧ i = .int .i64 0 ∧ wr = w)
  case atStart => exact ⟨rfl, rfl, rfl⟩
  case round =>
    obtain ⟨rfl, rfl, rfl⟩ := hrel
    go_wp2
    go_ret
    exact ⟨rfl, rfl⟩
theorem markOB {w : World} {B : Nat} {v : Value} {l : List Int} (h : OB w B v l) (k : Int) (hk : 0 ≤ k) (hk1 : k + l.length ≤ 4611686018427387904) :
    Calls Try.prog 50 #[v, .int .i64 k] w fun e w' => e = .returned (.int .i64 (k + l.length)) ∧ OB w' B v (mkB k l.length) ∧ OnlyV v w w' := by
  obtain ⟨a, c, rfl, h1, h2, h3, h4⟩ := h.is
  rcases h4 with h4 | ⟨g, rfl, hb, hr⟩
  · subst h4
    refine (mark_none a c k w).mono ?_
    rintro e w' ⟨rfl, rfl⟩
    refine ⟨by simp, ⟨a, c, rfl, h1, h2, by simp [mkB], .inl rfl⟩, ⟨rfl, rfl, rfl, rfl, fun _ _ => rfl, fun _ _ _ _ _ _ => rfl⟩⟩
  · refine (mark_any g l.length c (bf l) k w hr hk hk1).mono ?_
    rintro e w' ⟨rfl, hr', ho⟩
    refine ⟨rfl, ⟨_, c, by rw [mkB_len], by rw [mkB_len]; exact h1, h2, fun x hx => ?_, .inr ⟨g, rfl, hb, ?_⟩⟩, ⟨ho.os, ho.tape, ho.output, ho.size, fun b hne => ho.block b (fun e => hne (by rw [e]; rfl)), fun b c' t z hc ht => ho.block b (fun e => ?_)⟩⟩
    · simp only [mkB, List.mem_map] at hx
      obtain ⟨i, -, rfl⟩ := hx
      omega
    · rw [mkB_len]
      exact hr'.congr (fun i hi => (mkB_get k _ i hi).symm)
    · obtain ⟨c0, hb0, -, -⟩ := hr
      rw [e, hb0] at hc
      cases hc
      exact ht rfl
theorem RL.onlyV {T : TypeId} {w w' : World} {B : Nat} {v : Value} {a : Option Addr} {xs : List Value} (h : RL T w B a xs) (ho : OnlyV v w w') (hT : T ≠ 5) : RL T w' B a xs := by
  rcases h with h | ⟨g, cur, ea, hb, hg, hc⟩
  · exact .inl h
  · exact .inr ⟨g, cur, ea, hb, (ho.other g _ _ _ hg hT).trans hg, hc⟩
theorem RL.keep {T : TypeId} {w w' : World} {B : Nat} {a : Option Addr} {xs : List Value} (h : RL T w B a xs) (ho : Keep8 w w') (hT : T ≠ 5) : RL T w' B a xs := by
  rcases h with h | ⟨g, cur, ea, hb, hg, hc⟩
  · exact .inl h
  · exact .inr ⟨g, cur, ea, hb, (ho g _ _ _ hg hT).trans hg, hc⟩
theorem Bs.mark {w w' : World} {B j : Nat} {vs : List Value} {ls : List (List Int)} {v : Value} {m : List Int} (h : Bs w B vs ls) (hj : vs[j]? = some v) (hm : OB w' B v m) (ho : OnlyV v w w') : Bs w' B vs (ls.set j m) := by
  refine ⟨by simp [h.len], fun i u x h1 h2 => ?_, fun u hu g hg => ?_, h.apt⟩
  · rw [List.getElem?_set] at h2
    by_cases e : j = i
    · subst e
      rw [if_pos rfl] at h2
      split at h2
      · cases h2
        rw [hj] at h1; cases h1
        exact hm
      · cases h2
    · rw [if_neg e] at h2
      have hO := h.ob i u x h1 h2
      obtain ⟨a, c, rfl, k1, k2, k3, k4⟩ := hO.is
      refine ⟨a, c, rfl, k1, k2, k3, ?_⟩
      rcases k4 with k4 | ⟨g, rfl, hb, hr⟩
      · exact .inl k4
      · refine .inr ⟨g, rfl, hb, hr.of_block (ho.block g (fun e2 => ?_))⟩
        have hij : ∀ (p q : Nat) a b, p < q → vs[p]? = some a → vs[q]? = some b → Apt a b := by
          intro p q a b hpq hp hq
          obtain ⟨hp1, rfl⟩ := List.getElem?_eq_some_iff.1 hp
          obtain ⟨hq1, rfl⟩ := List.getElem?_eq_some_iff.1 hq
          exact (List.pairwise_iff_getElem.1 h.apt) p q hp1 hq1 hpq
        rcases Nat.lt_or_gt_of_ne e with hlt | hlt
        · exact hij j i v _ hlt hj h1 g e2 rfl
        · exact hij i j _ v hlt h1 hj g rfl e2
  · have := h.lt u hu g hg
    exact ⟨this.1, by rw [ho.size]; exact this.2⟩
/-- What lies outside is as it was. -/
structure Out (B H : Nat) (w w' : World) : Prop where
  os : w'.os = w.os
  tape : w'.tape = w.tape
  output : w'.output = w.output
  size : w.heap.size ≤ w'.heap.size
  block : ∀ k, k < w.heap.size → (k < B ∨ H ≤ k) → w'.heap[k]? = w.heap[k]?
theorem Out.refl (B H : Nat) (w : World) : Out B H w w := ⟨rfl, rfl, rfl, Nat.le_refl _, fun _ _ _ => rfl⟩
theorem Out.trans {B H : Nat} {a b c : World} (h : Out B H a b) (k : Out B H b c) : Out B H a c := ⟨k.os.trans h.os, k.tape.trans h.tape, k.output.trans h.output, Nat.le_trans h.size k.size, fun i hi ho => (k.block i (Nat.lt_of_lt_of_le hi h.size) ho).trans (h.block i hi ho)⟩
theorem Out.ofBelow {B H : Nat} {w w' : World} (h : Below w.heap.size w w') : Out B H w w' := ⟨h.os, h.tape, h.output, h.size, fun k hk _ => h.block k hk⟩
theorem Out.below {B H : Nat} {w w' : World} (h : Out B H w w') (hB : B ≤ w.heap.size) : Below B w w' := ⟨h.os, h.tape, h.output, h.size, fun k hk => h.block k (Nat.lt_of_lt_of_le hk hB) (.inl hk)⟩
theorem Out.up {B H : Nat} {w w' : World} (h : Out B H w w') : Up H w w' := ⟨h.size, fun k hk hl => h.block k hl (.inr hk)⟩
theorem Out.ofOnlyV {B H : Nat} {v : Value} {w w' : World} (h : OnlyV v w w') (hv : ∀ g, v.ownBlock = some g → B ≤ g ∧ g < H) : Out B H w w' :=
  ⟨h.os, h.tape, h.output, by rw [h.size]; exact Nat.le_refl _, fun k _ ho => h.block k (fun e => by have := hv k e; omega)⟩
theorem Out.set {B H C i : Nat} {w : World} {u : Value} (h : B ≤ C ∧ C < H) : Out B H w (w.setCell ⟨C, i, none⟩ u) := ⟨rfl, rfl, rfl, by simp, fun k _ ho => Below.heap_setCell _ _ _ _ (show k ≠ C by omega)⟩
theorem RL.set {T : TypeId} {w : World} {B : Nat} {g : Nat} {xs : List Value} (h : RL T w B (some ⟨g, 0, none⟩) xs) (i : Nat) (u : Value) (hi : i < xs.length) : RL T (w.setCell ⟨g, i, none⟩ u) B (some ⟨g, 0, none⟩) (xs.set i u) := by
  rcases h with h | ⟨g', cur, ea, hb, hg, hc⟩
  · subst h; simp at hi
  · cases ea
    have hlt : i < cur.size := by
      have := hc i xs[i] (List.getElem?_eq_getElem hi)
      exact (Array.getElem?_eq_some_iff.1 this).1
    refine .inr ⟨g, cur.setIfInBounds i u, rfl, hb, by simp [World.setCell, Array.getElem?_modify, hg], fun q x hq => ?_⟩
    rw [List.getElem?_set] at hq
    rw [Array.getElem?_setIfInBounds]
    by_cases e : i = q
    · subst e
      rw [if_pos rfl, if_pos hi] at hq
      cases hq
      rw [if_pos rfl, if_pos hlt]
    · rw [if_neg e] at hq
      rw [if_neg e]
      exact hc q x hq
theorem RL.cellFz {T : TypeId} {w : World} {B g : Nat} {xs : List Value} (h : RL T w B (some ⟨g, 0, none⟩) xs) (hn : 0 < xs.length) (i : Nat) : w.frozen? ⟨g, i, none⟩ = false := by
  rcases h with h | ⟨g', cur, ea, hb, hg, hc⟩
  · subst h; simp at hn
  · cases ea
    simp [World.frozen?, hg]
theorem RL.other {T T' : TypeId} {w : World} {B g g' i : Nat} {a : Option Addr} {xs ys : List Value} {u : Value} (h : RL T w B a xs) (k : RL T' w B (some ⟨g, 0, none⟩) ys) (hy : 0 < ys.length) (hT : T ≠ T') (_ : g' = g) : RL T (w.setCell ⟨g, i, none⟩ u) B a xs := by
  rcases h with h | ⟨g1, cur, ea, hb, hg, hc⟩
  · exact .inl h
  · rcases k with k | ⟨g2, cur2, ea2, hb2, hg2, hc2⟩
    · subst k; simp at hy
    · cases ea2
      refine .inr ⟨g1, cur, ea, hb, ?_, hc⟩
      rw [Below.heap_setCell _ _ _ _ (show g1 ≠ g from fun e => by rw [e, hg2] at hg; cases hg; exact hT rfl)]
      exact hg
theorem Bs.other {T' : TypeId} {w : World} {B g i : Nat} {vs : List Value} {ls : List (List Int)} {ys : List Value} {u : Value} (h : Bs w B vs ls) (k : RL T' w B (some ⟨g, 0, none⟩) ys) (hy : 0 < ys.length) (hT : 5 ≠ T') : Bs (w.setCell ⟨g, i, none⟩ u) B vs ls := by
  refine ⟨h.len, fun q v l h1 h2 => ?_, fun v hv q hq => ?_, h.apt⟩
  · obtain ⟨a, c, rfl, k1, k2, k3, k4⟩ := (h.ob q v l h1 h2).is
    refine ⟨a, c, rfl, k1, k2, k3, ?_⟩
    rcases k4 with k4 | ⟨g1, rfl, hb, hr⟩
    · exact .inl k4
    · refine .inr ⟨g1, rfl, hb, hr.of_block (Below.heap_setCell _ _ _ _ (fun e => ?_))⟩
      rcases k with k | ⟨g2, cur2, ea2, hb2, hg2, hc2⟩
      · subst k; simp at hy
      · cases ea2
        obtain ⟨c0, hb0, -, -⟩ := hr
        have e' : g1 = g := e
        rw [e', hg2] at hb0
        cases hb0
        exact hT rfl
  · have := h.lt v hv q hq
    exact ⟨this.1, by simpa using this.2⟩
end Go.Proofs.Ytagjgnephaaehaa
