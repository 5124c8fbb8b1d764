/-
  Together: LosePlain, LosePlainS, DiskMark, Slices, DiskCopy, DiskCopy2, DiskSize, DiskCopy3, DiskMark3, DiskMark4, PutBytes, PutBOpt, DiskGrow, DiskApp
-/
import Derived.Test.YtdhfbblameiloaaUP1
import Derived.Deep.LoopGhost
import Derived.WalkSpells
import Derived.Laws.OwnMore
/-
  What a fault keeps of the cache, plainly.
-/
namespace Go.Proofs.Ytdhfbblameiloaa
open Go.RowKit
set_option maxRecDepth 4000

/-- Whether the bit of the i-th write is set. -/
def bitOf (keep : Int) (i : Nat) : Bool := decide (keep / 2 ^ i % 2 = 1)
theorem bitOf_far {keep : Int} (h0 : 0 ≤ keep) (h1 : keep ≤ 1048575) {i : Nat} (hi : 20 ≤ i) : bitOf keep i = false := by
  unfold bitOf
  have h2 : (1048576 : Int) ≤ 2 ^ i := by
    have h9 : 2 ^ 20 ≤ 2 ^ i := Nat.pow_le_pow_right (by decide) hi
    have e : ((2 ^ i : Nat) : Int) = 2 ^ i := by simp
    rw [← e]
    omega
  have h3 : keep / 2 ^ i = 0 := Int.ediv_eq_zero_of_lt h0 (by omega)
  rw [h3]
  rfl
/-- Those of the first k that are kept. -/
def keptG {α : Type} (keep : Int) (l : List α) : Nat → List α
  | 0 => []
  | k + 1 => keptG keep l k ++ (if bitOf keep k then (l[k]?).toList else [])
theorem keptG_yes {α : Type} {keep : Int} {l : List α} {k : Nat} (hb : bitOf keep k = true) (hk : k < l.length) : keptG keep l (k + 1) = keptG keep l k ++ [l[k]] := by
  rw [keptG, if_pos hb, List.getElem?_eq_getElem hk]
  rfl
theorem keptG_no {α : Type} {keep : Int} {l : List α} {k : Nat} (hb : bitOf keep k = false) : keptG keep l (k + 1) = keptG keep l k := by
  rw [keptG, if_neg (by simp [hb])]
  simp
theorem keptG_map {α β : Type} (g : α → β) (keep : Int) (l : List α) : ∀ k, (keptG keep l k).map g = keptG keep (l.map g) k
  | 0 => rfl
  | k + 1 => by
    rw [keptG, keptG, List.map_append, keptG_map g keep l k]
    congr 1
    split
    · cases h : l[k]? <;> simp [h]
    · rfl
theorem keptG_mem {α : Type} {keep : Int} {l : List α} : ∀ {k : Nat} {x : α}, x ∈ keptG keep l k → x ∈ l
  | 0, _, h => by simp [keptG] at h
  | k + 1, x, h => by
    rw [keptG, List.mem_append] at h
    rcases h with h | h
    · exact keptG_mem h
    · split at h
      · exact List.mem_of_getElem? (Option.mem_toList.1 h)
      · simp at h
theorem keptG_len {α : Type} (keep : Int) (l : List α) : ∀ k, (keptG keep l k).length ≤ k
  | 0 => Nat.le_refl _
  | k + 1 => by
    rw [keptG, List.length_append]
    have := keptG_len keep l k
    split
    · cases h : l[k]? <;> simp <;> omega
    · simp; omega
/-- The last is cut. -/
def cutLast {α : Type} (g : α → α) (l : List α) : List α := match l.getLast? with
  | none => l
  | some x => l.dropLast ++ [g x]
theorem cutLast_nil {α : Type} (g : α → α) : cutLast g [] = [] := rfl
theorem cutLast_app {α : Type} (g : α → α) (l : List α) (x : α) : cutLast g (l ++ [x]) = l ++ [g x] := by simp [cutLast]
theorem keptG_len_eq {α β : Type} {keep : Int} {l : List α} {m : List β} (h : l.length = m.length) : ∀ k, (keptG keep l k).length = (keptG keep m k).length
  | 0 => rfl
  | k + 1 => by
    rw [keptG, keptG, List.length_append, List.length_append, keptG_len_eq h k]
    congr 1
    split
    · by_cases hk : k < l.length
      · rw [List.getElem?_eq_getElem hk, List.getElem?_eq_getElem (by omega)]; rfl
      · rw [List.getElem?_eq_none (by omega), List.getElem?_eq_none (by omega)]; rfl
    · rfl
theorem bit_and {q : Int} (h0 : 0 ≤ q) (h1 : q ≤ 1048575) (k : Nat) : bits .and .i64 (q / 2 ^ k) 1 = q / 2 ^ k % 2 := by
  obtain ⟨x, rfl⟩ := Int.eq_ofNat_of_zero_le h0
  have e : ((x : Int) / 2 ^ k) = ((x / 2 ^ k : Nat) : Int) := by simp
  rw [e, i64_and1 _ (by have : x / 2 ^ k ≤ x := Nat.div_le_self _ _; omega)]
  omega
end Go.Proofs.Ytdhfbblameiloaa

/-
  What the model keeps of the cache, plainly: it comes to what is kept with its last one cut.
-/
namespace Go.Proofs.Ytdhfbblameiloaa
open Go.RowKit
set_option maxRecDepth 4000

def cutW (c : Nat) (x : Int × List Int) : Int × List Int := (x.1, x.2.take c)
/-- What comes into its sectors of the first k writes. -/
def lostL (keep : Int) (cut last : Nat) (l : List (Int × List Int)) : Nat → List (Int × List Int)
  | 0 => []
  | k + 1 => lostL keep cut last l k ++ (if bitOf keep k then (l[k]?).toList.map (fun x => if k = last then cutW cut x else x) else [])
theorem lostL_yes {keep : Int} {cut last : Nat} {l : List (Int × List Int)} {k : Nat} (hb : bitOf keep k = true) (hk : k < l.length) : lostL keep cut last l (k + 1) = lostL keep cut last l k ++ [if k = last then cutW cut l[k] else l[k]] := by
  rw [lostL, if_pos hb, List.getElem?_eq_getElem hk]
  rfl
theorem lostL_no {keep : Int} {cut last : Nat} {l : List (Int × List Int)} {k : Nat} (hb : bitOf keep k = false) : lostL keep cut last l (k + 1) = lostL keep cut last l k := by
  rw [lostL, if_neg (by simp [hb])]
  simp
theorem lostL_kept {keep : Int} {cut last : Nat} {l : List (Int × List Int)} : ∀ {k : Nat}, k ≤ last → lostL keep cut last l k = keptG keep l k
  | 0, _ => rfl
  | k + 1, h => by
    rw [lostL, keptG, lostL_kept (by omega)]
    congr 1
    split
    · cases hx : l[k]? with
      | none => rfl
      | some x => simp [show k ≠ last by omega]
    · rfl
/-- The last bit that is set of the first k. -/
def LastIs (keep : Int) (k : Nat) (last : Int) : Prop := (last = -1 ∧ ∀ j, j < k → bitOf keep j = false) ∨ ∃ m : Nat, last = m ∧ m < k ∧ bitOf keep m = true ∧ ∀ j, m < j → j < k → bitOf keep j = false
theorem LastIs.zero (keep : Int) : LastIs keep 0 (-1) := .inl ⟨rfl, fun _ h => absurd h (Nat.not_lt_zero _)⟩
theorem LastIs.yes {keep : Int} {k : Nat} (hb : bitOf keep k = true) : LastIs keep (k + 1) (k : Int) := .inr ⟨k, rfl, Nat.lt_succ_self _, hb, fun j h1 h2 => by omega⟩
theorem LastIs.no {keep : Int} {k : Nat} {last : Int} (h : LastIs keep k last) (hb : bitOf keep k = false) : LastIs keep (k + 1) last := by
  have key : ∀ j, j < k + 1 → ¬ j < k → bitOf keep j = false := fun j h1 h2 => by rw [show j = k by omega]; exact hb
  rcases h with ⟨rfl, h⟩ | ⟨m, rfl, h1, h2, h3⟩
  · exact .inl ⟨rfl, fun j hj => if e : j < k then h j e else key j hj e⟩
  · exact .inr ⟨m, rfl, by omega, h2, fun j g1 g2 => if e : j < k then h3 j g1 e else key j g2 e⟩
theorem keptG_stop {α : Type} {keep : Int} {l : List α} {i : Nat} : ∀ {k : Nat}, i ≤ k → (∀ j, i ≤ j → j < k → bitOf keep j = false) → keptG keep l k = keptG keep l i
  | 0, h, _ => by rw [show i = 0 by omega]
  | k + 1, h, hb => by
    by_cases e : i = k + 1
    · rw [e]
    · rw [keptG_no (hb k (by omega) (by omega))]
      exact keptG_stop (by omega) (fun j h1 h2 => hb j h1 (by omega))
theorem lost_all {keep : Int} {cut : Nat} {l : List (Int × List Int)} {n : Nat} {last : Int} (h0 : 0 ≤ keep) (h1 : keep ≤ 1048575) (hn : n = min l.length 20) (h : LastIs keep n last) :
    (last = -1 ∧ cutLast (cutW cut) (keptG keep l l.length) = []) ∨ ∃ m : Nat, last = m ∧ m < n ∧ cutLast (cutW cut) (keptG keep l l.length) = lostL keep cut m l (m + 1) := by
  have hfar : ∀ j, n ≤ j → j < l.length → bitOf keep j = false := fun j g1 g2 => bitOf_far h0 h1 (by omega)
  rcases h with ⟨rfl, h⟩ | ⟨m, rfl, g1, g2, g3⟩
  · left
    refine ⟨rfl, ?_⟩
    rw [keptG_stop (i := 0) (Nat.zero_le _) (fun j _ hj => if e : j < n then h j e else hfar j (by omega) hj)]
    rfl
  · right
    have hm : m < l.length := by omega
    refine ⟨m, rfl, g1, ?_⟩
    rw [keptG_stop (i := m + 1) (by omega) (fun j g4 hj => if e : j < n then g3 j (by omega) e else hfar j (by omega) hj), keptG_yes g2 hm, cutLast_app, lostL_yes g2 hm, lostL_kept (Nat.le_refl _), if_pos rfl]
/-- The disk behind a fault; behind a flush. -/
def loseD (D : PDisk) (f : PFault) : PDisk := { D with secs := settleL D.secs (cutLast (cutW f.cut.toNat) (keptG f.keep D.cache D.cache.length)), cache := [], down := true }
def calmD (D : PDisk) : PDisk := { D with secs := settleL D.secs D.cache, cache := [] }
theorem settle_snoc {α : Type} (s : List α) (l : List (Int × α)) (x : Int × α) : settleL s (l ++ [x]) = (settleL s l).set x.1.toNat x.2 := by rw [settleL_app]; rfl
end Go.Proofs.Ytdhfbblameiloaa

/-
  Marks that are written into a disk of the call's own: what they come to, and what they turn.
-/
namespace Go.Proofs.Ytdhfbblameiloaa
open Go.RowKit
set_option maxRecDepth 4000

/-- Nothing but the row of this slice has turned. -/
structure OnlyV (v : Value) (w w' : World) : Prop where
  os : w'.os = w.os
  tape : w'.tape = w.tape
  output : w'.output = w.output
  size : w'.heap.size = w.heap.size
  block : ∀ b, v.ownBlock ≠ some b → w'.heap[b]? = w.heap[b]?
  other : ∀ (b : Nat) (c : Array Value) (t : TypeId) (z : Nat × Nat), w.heap[b]? = some (Obj.cells c t z) → t ≠ 5 → w'.heap[b]? = w.heap[b]?
/-- Rows of other things than bytes are as they were. -/
def Keep8 (w w' : World) : Prop := ∀ (b : Nat) (c : Array Value) (t : TypeId) (z : Nat × Nat), w.heap[b]? = some (Obj.cells c t z) → t ≠ 5 → w'.heap[b]? = w.heap[b]?
theorem Keep8.trans {a b c : World} (h : Keep8 a b) (k : Keep8 b c) : Keep8 a c := fun i x t z h1 h2 => (k i x t z ((h i x t z h1 h2).trans h1) h2).trans (h i x t z h1 h2)
theorem OnlyV.keep {v : Value} {w w' : World} (h : OnlyV v w w') : Keep8 w w' := h.other
theorem RL.keep {T : TypeId} {w w' : World} {B : Nat} {a : Option Addr} {xs : List Value} (h : RL T w B a xs) (ho : Keep8 w w') (hT : T ≠ 5) : RL T w' B a xs := by
  rcases h with h | ⟨g, cur, ea, hb, hg, hc⟩
  · exact .inl h
  · exact .inr ⟨g, cur, ea, hb, (ho g _ _ _ hg hT).trans hg, hc⟩
/-- What lies outside is as it was. -/
structure Out (B H : Nat) (w w' : World) : Prop where
  os : w'.os = w.os
  tape : w'.tape = w.tape
  output : w'.output = w.output
  size : w.heap.size ≤ w'.heap.size
  block : ∀ k, k < w.heap.size → (k < B ∨ H ≤ k) → w'.heap[k]? = w.heap[k]?
theorem Out.refl (B H : Nat) (w : World) : Out B H w w := ⟨rfl, rfl, rfl, Nat.le_refl _, fun _ _ _ => rfl⟩
theorem Out.trans {B H : Nat} {a b c : World} (h : Out B H a b) (k : Out B H b c) : Out B H a c := ⟨k.os.trans h.os, k.tape.trans h.tape, k.output.trans h.output, Nat.le_trans h.size k.size, fun i hi ho => (k.block i (Nat.lt_of_lt_of_le hi h.size) ho).trans (h.block i hi ho)⟩
theorem Out.ofBelow {B H : Nat} {w w' : World} (h : Below w.heap.size w w') : Out B H w w' := ⟨h.os, h.tape, h.output, h.size, fun k hk _ => h.block k hk⟩
theorem Out.below {B H : Nat} {w w' : World} (h : Out B H w w') (hB : B ≤ w.heap.size) : Below B w w' := ⟨h.os, h.tape, h.output, h.size, fun k hk => h.block k (Nat.lt_of_lt_of_le hk hB) (.inl hk)⟩
theorem Out.up {B H : Nat} {w w' : World} (h : Out B H w w') : Up H w w' := ⟨h.size, fun k hk hl => h.block k hl (.inr hk)⟩
theorem Out.set {B H C i : Nat} {w : World} {u : Value} (h : B ≤ C ∧ C < H) : Out B H w (w.setCell ⟨C, i, none⟩ u) := ⟨rfl, rfl, rfl, by simp, fun k _ ho => Below.heap_setCell _ _ _ _ (show k ≠ C by omega)⟩
theorem RL.set {T : TypeId} {w : World} {B : Nat} {g : Nat} {xs : List Value} (h : RL T w B (some ⟨g, 0, none⟩) xs) (i : Nat) (u : Value) (hi : i < xs.length) : RL T (w.setCell ⟨g, i, none⟩ u) B (some ⟨g, 0, none⟩) (xs.set i u) := by
  rcases h with h | ⟨g', cur, ea, hb, hg, hc⟩
  · subst h; simp at hi
  · cases ea
    have hlt : i < cur.size := by
      have := hc i xs[i] (List.getElem?_eq_getElem hi)
      exact (Array.getElem?_eq_some_iff.1 this).1
    refine .inr ⟨g, cur.setIfInBounds i u, rfl, hb, by simp [World.setCell, Array.getElem?_modify, hg], fun q x hq => ?_⟩
    rw [List.getElem?_set] at hq
    rw [Array.getElem?_setIfInBounds]
    by_cases e : i = q
    · subst e
      rw [if_pos rfl, if_pos hi] at hq
      cases hq
      rw [if_pos rfl, if_pos hlt]
    · rw [if_neg e] at hq
      rw [if_neg e]
      exact hc q x hq
theorem RL.cellFz {T : TypeId} {w : World} {B g : Nat} {xs : List Value} (h : RL T w B (some ⟨g, 0, none⟩) xs) (hn : 0 < xs.length) (i : Nat) : w.frozen? ⟨g, i, none⟩ = false := by
  rcases h with h | ⟨g', cur, ea, hb, hg, hc⟩
  · subst h; simp at hn
  · cases ea
    simp [World.frozen?, hg]
theorem RL.other {T T' : TypeId} {w : World} {B g g' i : Nat} {a : Option Addr} {xs ys : List Value} {u : Value} (h : RL T w B a xs) (k : RL T' w B (some ⟨g, 0, none⟩) ys) (hy : 0 < ys.length) (hT : T ≠ T') (_ : g' = g) : RL T (w.setCell ⟨g, i, none⟩ u) B a xs := by
  rcases h with h | ⟨g1, cur, ea, hb, hg, hc⟩
  · exact .inl h
  · rcases k with k | ⟨g2, cur2, ea2, hb2, hg2, hc2⟩
    · subst k; simp at hy
    · cases ea2
      refine .inr ⟨g1, cur, ea, hb, ?_, hc⟩
      rw [Below.heap_setCell _ _ _ _ (show g1 ≠ g from fun e => by rw [e, hg2] at hg; cases hg; exact hT rfl)]
      exact hg
theorem Bs.other {T' : TypeId} {w : World} {B g i : Nat} {vs : List Value} {ls : List (List Int)} {ys : List Value} {u : Value} (h : Bs w B vs ls) (k : RL T' w B (some ⟨g, 0, none⟩) ys) (hy : 0 < ys.length) (hT : 5 ≠ T') : Bs (w.setCell ⟨g, i, none⟩ u) B vs ls := by
  refine ⟨h.len, fun q v l h1 h2 => ?_, fun v hv q hq => ?_, h.apt⟩
  · obtain ⟨a, c, rfl, k1, k2, k3, k4⟩ := (h.ob q v l h1 h2).is
    refine ⟨a, c, rfl, k1, k2, k3, ?_⟩
    rcases k4 with k4 | ⟨g1, rfl, hb, hr⟩
    · exact .inl k4
    · refine .inr ⟨g1, rfl, hb, hr.of_block (Below.heap_setCell _ _ _ _ (fun e => ?_))⟩
      rcases k with k | ⟨g2, cur2, ea2, hb2, hg2, hc2⟩
      · subst k; simp at hy
      · cases ea2
        obtain ⟨c0, hb0, -, -⟩ := hr
        have e' : g1 = g := e
        rw [e', hg2] at hb0
        cases hb0
        exact hT rfl
  · have := h.lt v hv q hq
    exact ⟨this.1, by simpa using this.2⟩
end Go.Proofs.Ytdhfbblameiloaa

/-
  What the law's own helpers over bytes come to: toByteS copies into a new row, eqByteS answers true where both read alike. For every slice of bytes that reads.
-/
namespace Go.Proofs.Ytdhfbblameiloaa
open Go.RowKit
set_option maxRecDepth 4000

/-- k of the n bytes are copied into the new row. -/
structure Copied (w wr : World) (n : Nat) (f : Nat → Int) (k : Nat) : Prop where
  below : Below w.heap.size w wr
  size : wr.heap.size = w.heap.size + 1
  row : wr.rowIs w.heap.size 5 n (fun i => .int .u8 (if i < k then f i else 0))

theorem Copied.drew {w wr : World} {n : Nat} {f : Nat → Int} {k : Nat} (h : Copied w wr n f k) : Copied w wr.drew n f k := ⟨h.below.drew, h.size, h.row.drew⟩

end Go.Proofs.Ytdhfbblameiloaa

/-
  Rows of a disk copied into new ones, as the law does it.
-/
namespace Go.Proofs.Ytdhfbblameiloaa
open Go.RowKit
set_option maxRecDepth 4000

theorem RL.ofIs {T : TypeId} {w : World} {B g n : Nat} {f : Nat → Value} {xs : List Value} (h : w.rowIs g T n f) (hB : B ≤ g) (hx : ∀ i u, xs[i]? = some u → i < n ∧ f i = u) : RL T w B (some ⟨g, 0, none⟩) xs := by
  obtain ⟨c, hb, hn, hc⟩ := h
  exact .inr ⟨g, c, rfl, hB, hb, fun i u hi => by rw [hc i (hx i u hi).1, (hx i u hi).2]⟩
theorem rowIsBelow {w w' : World} {b : Nat} {t : TypeId} {m : Nat} {f : Nat → Value} (h : w.rowIs b t m f) (hb : Below w.heap.size w w') : w'.rowIs b t m f := h.of_block (hb.block b h.lt)
theorem take_one {α : Type} {l : List α} {k : Nat} (h : k < l.length) : l.take (k + 1) = l.take k ++ [l[k]] := by
  rw [List.take_add_one, List.getElem?_eq_getElem h]; rfl

theorem infoSec : ∃ i, Try.prog.info? 27 = some i ∧ i.zero = some (.slice none 0 0) ∧ i.size = 1 ∧ i.bytes = 24 := by
  have h : (Try.prog.info? 27).map (fun i => (i.zero, i.size, i.bytes)) = some (some (.slice none 0 0), 1, 24) := by kernel_rfl
  obtain ⟨i, hi, hz⟩ := Option.map_eq_some_iff.1 h
  simp only [Prod.mk.injEq] at hz
  exact ⟨i, hi, hz.1, hz.2.1, hz.2.2⟩
/-- k of the sectors are copied into the new row. -/
structure CopS (w wr : World) (l : List (List Int)) (ss : List Value) (k : Nat) : Prop where
  below : Below w.heap.size w wr
  size : w.heap.size < wr.heap.size
  len : ss.length = k
  row : wr.rowIs w.heap.size 27 l.length (fun j => ss.getD j (.slice none 0 0))
  bytes : Bs wr (w.heap.size + 1) ss (l.take k)
theorem CopS.put {w wr w2 : World} {l : List (List Int)} {ss : List Value} {k : Nat} (h : CopS w wr l ss k) (hk : k < l.length) (hb : Below wr.heap.size wr w2) {u : Value} (hu : OB w2 wr.heap.size u l[k]) (hg : u.ownBlock = some wr.heap.size) (hs : wr.heap.size < w2.heap.size) :
    CopS w (w2.setCell ⟨w.heap.size, k, none⟩ u) l (ss ++ [u]) (k + 1) := by
  have hsz := h.size
  have hlen := h.len
  refine ⟨(h.below.trans (hb.mono h.below.size)).setCell (Nat.le_refl _) _, by simp; omega, by simp [h.len], ((rowIsBelow h.row hb).set k u).congr (fun i hi => ?_), ?_⟩
  · by_cases e : i = k
    · subst e; simp [List.getD, hlen]
    · rw [if_neg e]
      by_cases e2 : i < k
      · simp [List.getD, List.getElem?_append_left (show i < ss.length by omega)]
      · simp [List.getD, List.getElem?_eq_none (show ss.length ≤ i by omega), List.getElem?_eq_none (show (ss ++ [u]).length ≤ i by simp; omega)]
  · have hu' : Up (w.heap.size + 1) w2 (w2.setCell ⟨w.heap.size, k, none⟩ u) := Up.set (by omega)
    rw [take_one hk]
    refine ((h.bytes.up (Up.ofBelow hb)).up hu').push ((hu.mono (by omega)).up hu') (fun g e => ?_)
    rw [hg] at e; cases e
    exact ⟨⟨by omega, by simpa using hs⟩, h.bytes.newer (Nat.le_refl _)⟩

end Go.Proofs.Ytdhfbblameiloaa

/-
  Writes and faults of a disk copied into new rows, as the law does it.
-/
namespace Go.Proofs.Ytdhfbblameiloaa
open Go.RowKit
set_option maxRecDepth 4000

theorem alloc_sizeK (W : World) (o : Obj) : (W.alloc o).heap.size = W.heap.size + 1 := by simp
theorem infoWrite : ∃ i, Try.prog.info? 51 = some i ∧ i.zero = some (.agg #[.int .i64 0, .slice none 0 0]) ∧ i.size = 2 ∧ i.bytes = 32 := by
  have h : (Try.prog.info? 51).map (fun i => (i.zero, i.size, i.bytes)) = some (some (.agg #[.int .i64 0, .slice none 0 0]), 2, 32) := by kernel_rfl
  obtain ⟨i, hi, hz⟩ := Option.map_eq_some_iff.1 h
  simp only [Prod.mk.injEq] at hz
  exact ⟨i, hi, hz.1, hz.2.1, hz.2.2⟩
def zeroW (j : Nat) : Value := if j % 2 = 0 then .int .i64 0 else .slice none 0 0
theorem wcells_len {l : List (Int × List Int)} {cs : List Value} (h : cs.length = l.length) : (wcells l cs).length = l.length * 2 := by
  unfold wcells
  rw [flat_len wEl 2 (fun _ => rfl), List.length_zip, List.length_map, h, Nat.min_self]
theorem wcells_push {l : List (Int × List Int)} {cs : List Value} (h : cs.length = l.length) (x : Int × List Int) (v : Value) : wcells (l ++ [x]) (cs ++ [v]) = wcells l cs ++ [.int .i64 x.1, v] := by
  unfold wcells
  rw [List.map_append, List.zip_append (by simp [h]), List.flatMap_append]
  simp [wEl]
/-- k of the writes are copied into the new row. -/
structure CopW (w wr : World) (l : List (Int × List Int)) (cs : List Value) (k : Nat) : Prop where
  below : Below w.heap.size w wr
  size : w.heap.size < wr.heap.size
  len : cs.length = k
  row : wr.rowIs w.heap.size 51 (l.length * 2) (fun j => ((wcells (l.take k) cs)[j]?).getD (zeroW j))
  bytes : Bs wr (w.heap.size + 1) cs ((l.take k).map (·.2))
theorem CopW.put {w wr w2 : World} {l : List (Int × List Int)} {cs : List Value} {k : Nat} (h : CopW w wr l cs k) (hk : k < l.length) (hb : Below wr.heap.size wr w2) {u : Value} {g : Nat} (hu : OB w2 wr.heap.size u (l[k]).2) (hg : u.ownBlock = some g) (hg0 : wr.heap.size ≤ g) (hs : g < w2.heap.size) :
    CopW w ((w2.setCell ⟨w.heap.size, k * 2, none⟩ (.int .i64 (l[k]).1)).setCell ⟨w.heap.size, k * 2 + 1, none⟩ u) l (cs ++ [u]) (k + 1) := by
  have hsz := h.size
  have hlen := h.len
  have htl : (l.take k).length = k := by simp; omega
  have hwl := wcells_len (l := l.take k) (cs := cs) (by omega)
  refine ⟨((h.below.trans (hb.mono h.below.size)).setCell (Nat.le_refl _) _).setCell (Nat.le_refl _) _, by simp; omega, by simp [h.len], (((rowIsBelow h.row hb).set _ _).set _ _).congr (fun i hi => ?_), ?_⟩
  · rw [take_one hk, wcells_push (by omega)]
    by_cases e : i < k * 2
    · rw [if_neg (by omega), if_neg (by omega), List.getElem?_append_left (by omega)]
    · by_cases e0 : i = k * 2
      · subst e0
        rw [if_neg (by omega), if_pos rfl, List.getElem?_append_right (by omega), hwl, htl]
        simp
      · by_cases e1 : i = k * 2 + 1
        · subst e1
          rw [if_pos rfl, List.getElem?_append_right (by omega), hwl, htl]
          simp
        · rw [if_neg e1, if_neg e0, List.getElem?_eq_none (by omega), List.getElem?_eq_none (by simp; omega)]
  · have hu' : Up (w.heap.size + 1) w2 ((w2.setCell ⟨w.heap.size, k * 2, none⟩ (.int .i64 (l[k]).1)).setCell ⟨w.heap.size, k * 2 + 1, none⟩ u) := (Up.set (by omega)).trans (Up.set (by omega))
    rw [take_one hk, List.map_append]
    refine ((h.bytes.up (Up.ofBelow hb)).up hu').push ((hu.mono (by omega)).up hu') (fun g' e => ?_)
    rw [hg] at e; cases e
    exact ⟨⟨by omega, by simpa using hs⟩, h.bytes.newer hg0⟩

end Go.Proofs.Ytdhfbblameiloaa

/-
  How much a disk holds, as the law counts it; where that is not too much, nothing of it is long.
-/
namespace Go.Proofs.Ytdhfbblameiloaa
open Go.RowKit
set_option maxRecDepth 4000

/-- What was put into a variable of five cells is there while nothing of it is written. -/
theorem box5 {w wr : World} {T : TypeId} {x0 x1 x2 x3 x4 : Value} (h : Below (w.heap.size + 1) (w.alloc (.cells #[x0, x1, x2, x3, x4] T)) wr) :
    wr.cell? ⟨w.heap.size, 0, none⟩ = some x0 ∧ wr.cell? ⟨w.heap.size, 1, none⟩ = some x1 ∧ wr.cell? ⟨w.heap.size, 2, none⟩ = some x2 ∧ wr.cell? ⟨w.heap.size, 3, none⟩ = some x3 ∧ wr.cell? ⟨w.heap.size, 4, none⟩ = some x4 := by
  refine ⟨?_, ?_, ?_, ?_, ?_⟩
  all_goals (rw [h.cell (by simp)]; simp [go_sem])
theorem box5_below {w wr : World} {o : Obj} (h : Below (w.heap.size + 1) (w.alloc o) wr) : Below w.heap.size w wr ∧ w.heap.size + 1 ≤ wr.heap.size := by
  refine ⟨((Below.refl _ _).alloc (Nat.le_refl _) _).trans (h.mono (by simp)), ?_⟩
  have := h.size
  simpa using this
theorem box5_start (w : World) (o : Obj) : Below (w.heap.size + 1) (w.alloc o) (w.alloc o) := Below.refl _ _
theorem box5_on {w wr w' : World} {o : Obj} (h : Below (w.heap.size + 1) (w.alloc o) wr) (h' : Below wr.heap.size wr w') : Below (w.heap.size + 1) (w.alloc o) w' := h.trans (h'.mono (box5_below h).2)

end Go.Proofs.Ytdhfbblameiloaa

/-
  Faults of a disk, and the disk, copied, as the law does it.
-/
namespace Go.Proofs.Ytdhfbblameiloaa
open Go.RowKit
set_option maxRecDepth 4000

theorem infoFault : ∃ i, Try.prog.info? 79 = some i ∧ i.zero = some (.agg #[.int .i64 0, .int .i64 0, .int .i64 0]) ∧ i.size = 3 ∧ i.bytes = 24 := by
  have h : (Try.prog.info? 79).map (fun i => (i.zero, i.size, i.bytes)) = some (some (.agg #[.int .i64 0, .int .i64 0, .int .i64 0]), 3, 24) := by kernel_rfl
  obtain ⟨i, hi, hz⟩ := Option.map_eq_some_iff.1 h
  simp only [Prod.mk.injEq] at hz
  exact ⟨i, hi, hz.1, hz.2.1, hz.2.2⟩
theorem fcells_len (l : List PFault) : (fcells l).length = l.length * 3 := flat_len fEl 3 (fun _ => rfl) _
theorem fcells_push (l : List PFault) (x : PFault) : fcells (l ++ [x]) = fcells l ++ [.int .i64 x.pos, .int .i64 x.keep, .int .i64 x.cut] := by
  unfold fcells
  rw [List.flatMap_append]
  simp [fEl]
/-- k of the faults are copied into the new row. -/
structure CopF (w wr : World) (l : List PFault) (k : Nat) : Prop where
  below : Below w.heap.size w wr
  size : w.heap.size < wr.heap.size
  row : wr.rowIs w.heap.size 79 (l.length * 3) (fun j => ((fcells (l.take k))[j]?).getD (.int .i64 0))
theorem CopF.put {w wr w2 : World} {l : List PFault} {k : Nat} (h : CopF w wr l k) (hk : k < l.length) (hb : Below wr.heap.size wr w2) :
    CopF w (((w2.setCell ⟨w.heap.size, k * 3, none⟩ (.int .i64 (l[k]).pos)).setCell ⟨w.heap.size, k * 3 + 1, none⟩ (.int .i64 (l[k]).keep)).setCell ⟨w.heap.size, k * 3 + 2, none⟩ (.int .i64 (l[k]).cut)) l (k + 1) := by
  have hsz := h.size
  have htl : (l.take k).length = k := by simp; omega
  have hwl := fcells_len (l.take k)
  have hs2 := hb.size
  refine ⟨(((h.below.trans (hb.mono h.below.size)).setCell (Nat.le_refl _) _).setCell (Nat.le_refl _) _).setCell (Nat.le_refl _) _, by simp; omega, ((((rowIsBelow h.row hb).set _ _).set _ _).set _ _).congr (fun i hi => ?_)⟩
  rw [take_one hk, fcells_push]
  by_cases e : i < k * 3
  · rw [if_neg (by omega), if_neg (by omega), if_neg (by omega), List.getElem?_append_left (by omega)]
  by_cases e0 : i = k * 3
  · subst e0
    rw [if_neg (by omega), if_neg (by omega), if_pos rfl, List.getElem?_append_right (by omega), hwl, htl]
    simp
  by_cases e1 : i = k * 3 + 1
  · subst e1
    rw [if_neg (by omega), if_pos rfl, List.getElem?_append_right (by omega), hwl, htl]
    simp
  by_cases e2 : i = k * 3 + 2
  · subst e2
    rw [if_pos rfl, List.getElem?_append_right (by omega), hwl, htl]
    simp
  rw [if_neg e2, if_neg e1, if_neg e0, List.getElem?_eq_none (by omega), List.getElem?_eq_none (by simp; omega)]

/-- The three variables of toDisk: what came in, the answer, the new one. -/
structure TD (w W : World) (xs zs ys : List Value) : Prop where
  below : Below w.heap.size w W
  size : w.heap.size + 3 ≤ W.heap.size
  a : VN W w.heap.size 26 xs
  r : VN W (w.heap.size + 1) 32 zs
  o : VN W (w.heap.size + 1 + 1) 32 ys
theorem TD.on {w W W' : World} {xs zs ys : List Value} (h : TD w W xs zs ys) (hb : Below W.heap.size W W') : TD w W' xs zs ys :=
  ⟨h.below.trans (hb.mono h.below.size), Nat.le_trans h.size hb.size, h.a.below hb, h.r.below hb, h.o.below hb⟩
theorem TD.set {w W : World} {xs zs ys : List Value} (h : TD w W xs zs ys) (i : Nat) (u : Value) : TD w (W.setCell ⟨w.heap.size + 1 + 1, i, none⟩ u) xs zs (ys.set i u) :=
  ⟨h.below.setCell (p := ⟨w.heap.size + 1 + 1, i, none⟩) (by simp; omega) _, by simpa using h.size, h.a.other (by omega), h.r.other (by omega), h.o.set i u⟩
theorem TD.ret {w W : World} {xs zs ys : List Value} (h : TD w W xs zs ys) (i : Nat) (u : Value) : TD w (W.setCell ⟨w.heap.size + 1, i, none⟩ u) xs (zs.set i u) ys :=
  ⟨h.below.setCell (p := ⟨w.heap.size + 1, i, none⟩) (by simp) _, by simpa using h.size, h.a.other (by omega), h.r.set i u, h.o.other (by omega)⟩
theorem TD.cells {w W : World} {x0 x1 x2 x3 x4 : Value} {zs : List Value} {y0 y1 y2 y3 y4 : Value} (h : TD w W [x0, x1, x2, x3, x4] zs [y0, y1, y2, y3, y4]) :
    (W.cell? ⟨w.heap.size, 0, none⟩ = some x0 ∧ W.cell? ⟨w.heap.size, 1, none⟩ = some x1 ∧ W.cell? ⟨w.heap.size, 2, none⟩ = some x2 ∧ W.cell? ⟨w.heap.size, 3, none⟩ = some x3 ∧ W.cell? ⟨w.heap.size, 4, none⟩ = some x4)
    ∧ (W.cell? ⟨w.heap.size + 1 + 1, 0, none⟩ = some y0 ∧ W.cell? ⟨w.heap.size + 1 + 1, 1, none⟩ = some y1 ∧ W.cell? ⟨w.heap.size + 1 + 1, 2, none⟩ = some y2 ∧ W.cell? ⟨w.heap.size + 1 + 1, 3, none⟩ = some y3 ∧ W.cell? ⟨w.heap.size + 1 + 1, 4, none⟩ = some y4)
    ∧ ∀ i, W.frozen? ⟨w.heap.size + 1 + 1, i, none⟩ = false :=
  ⟨⟨h.a.cell 0, h.a.cell 1, h.a.cell 2, h.a.cell 3, h.a.cell 4⟩, ⟨h.o.cell 0, h.o.cell 1, h.o.cell 2, h.o.cell 3, h.o.cell 4⟩, fun i => h.o.fz i⟩
theorem TD.rcells {w W : World} {xs : List Value} {y0 y1 y2 y3 y4 : Value} {ys : List Value} (h : TD w W xs [y0, y1, y2, y3, y4] ys) :
    (W.cell? ⟨w.heap.size + 1, 0, none⟩ = some y0 ∧ W.cell? ⟨w.heap.size + 1, 1, none⟩ = some y1 ∧ W.cell? ⟨w.heap.size + 1, 2, none⟩ = some y2 ∧ W.cell? ⟨w.heap.size + 1, 3, none⟩ = some y3 ∧ W.cell? ⟨w.heap.size + 1, 4, none⟩ = some y4)
    ∧ ∀ i, W.frozen? ⟨w.heap.size + 1, i, none⟩ = false :=
  ⟨⟨h.r.cell 0, h.r.cell 1, h.r.cell 2, h.r.cell 3, h.r.cell 4⟩, fun i => h.r.fz i⟩

end Go.Proofs.Ytdhfbblameiloaa

/-
  The laws' markWriteS, markFaultS, markDisk and what finds the marks, walked.
-/
namespace Go.Proofs.Ytdhfbblameiloaa
open Go.RowKit
set_option maxRecDepth 4000

/-- Rows of types without P are as they were. -/
def KeepT (P : TypeId → Prop) (w w' : World) : Prop := ∀ (b : Nat) (c : Array Value) (t : TypeId) (z : Nat × Nat), w.heap[b]? = some (Obj.cells c t z) → ¬ P t → w'.heap[b]? = w.heap[b]?
theorem KeepT.refl (P : TypeId → Prop) (w : World) : KeepT P w w := fun _ _ _ _ _ _ => rfl
theorem KeepT.trans {P : TypeId → Prop} {a b c : World} (h : KeepT P a b) (k : KeepT P b c) : KeepT P a c := fun i x t z h1 h2 => (k i x t z ((h i x t z h1 h2).trans h1) h2).trans (h i x t z h1 h2)
theorem KeepT.set {P : TypeId → Prop} {T : TypeId} {w : World} {B g i : Nat} {xs : List Value} {u : Value} (h : RL T w B (some ⟨g, 0, none⟩) xs) (hx : 0 < xs.length) (hP : P T) : KeepT P w (w.setCell ⟨g, i, none⟩ u) := by
  intro b c t z hb ht
  refine Below.heap_setCell _ _ _ _ (fun e => ?_)
  rcases h with h | ⟨g', cur, ea, hb', hg, hc⟩
  · subst h; simp at hx
  · cases ea
    have e' : b = g := e
    rw [e', hg] at hb
    cases hb
    exact ht hP
theorem RL.keepT {P : TypeId → Prop} {T : TypeId} {w w' : World} {B : Nat} {a : Option Addr} {xs : List Value} (h : RL T w B a xs) (ho : KeepT P w w') (hT : ¬ P T) : RL T w' B a xs := by
  rcases h with h | ⟨g, cur, ea, hb, hg, hc⟩
  · exact .inl h
  · exact .inr ⟨g, cur, ea, hb, (ho g _ _ _ hg hT).trans hg, hc⟩
theorem Bs.keepT {P : TypeId → Prop} {w w' : World} {B : Nat} {vs : List Value} {ls : List (List Int)} (h : Bs w B vs ls) (ho : KeepT P w w') (hs : w.heap.size ≤ w'.heap.size) (hT : ¬ P 5) : Bs w' B vs ls := by
  refine ⟨h.len, fun q v l h1 h2 => ?_, fun v hv q hq => ?_, h.apt⟩
  · obtain ⟨a, c, rfl, k1, k2, k3, k4⟩ := (h.ob q v l h1 h2).is
    refine ⟨a, c, rfl, k1, k2, k3, ?_⟩
    rcases k4 with k4 | ⟨g1, rfl, hb, hr⟩
    · exact .inl k4
    · obtain ⟨c0, hb0, hn0, hc0⟩ := hr
      exact .inr ⟨g1, rfl, hb, c0, (ho g1 _ _ _ hb0 hT).trans hb0, hn0, hc0⟩
  · have := h.lt v hv q hq
    exact ⟨this.1, by omega⟩
end Go.Proofs.Ytdhfbblameiloaa

/-
  Marks in faults and in a whole disk, and what finds them.
-/
namespace Go.Proofs.Ytdhfbblameiloaa
open Go.RowKit
set_option maxRecDepth 4000

theorem fcells_at {l : List PFault} (i j : Nat) (hj : j < 3) : (fcells l)[i * 3 + j]? = (l[i]?).bind (fun x => (fEl x)[j]?) := flat_get fEl 3 (fun _ => rfl) _ i j hj
/-- A disk of the call's own whose rows lie from B on, below H. -/
def KIn (w : World) (B H : Nat) (v : Value) (D : PDisk) : Prop := ∃ sa sc ca cc fa fc ss cs, v = dval D sa sc ca cc fa fc ∧ KO w B sa sc ca cc fa fc ss cs D ∧ (∀ u, u ∈ ss ++ cs → ∀ g, u.ownBlock = some g → g < H) ∧ (0 < D.cache.length → ∀ g, ca = some ⟨g, 0, none⟩ → g < H) ∧ (0 < D.faults.length → ∀ g, fa = some ⟨g, 0, none⟩ → g < H)
theorem KIn.up {w w' : World} {B H : Nat} {v : Value} {D : PDisk} (h : KIn w B H v D) (hu : Up B w w') : KIn w' B H v D := by
  obtain ⟨sa, sc, ca, cc, fa, fc, ss, cs, e, hk, h1⟩ := h
  exact ⟨sa, sc, ca, cc, fa, fc, ss, cs, e, hk.up hu, h1⟩
theorem KIn.own {w : World} {B H : Nat} {v : Value} {D : PDisk} (h : KIn w B H v D) : KOwn w B v D := by
  obtain ⟨sa, sc, ca, cc, fa, fc, ss, cs, e, hk, h1⟩ := h
  exact ⟨sa, sc, ca, cc, fa, fc, ss, cs, e, hk⟩
end Go.Proofs.Ytdhfbblameiloaa

/-
  The program's putBytes: both slices of bytes, one behind the other, in one new row that holds just them.
-/
namespace Go.Proofs.Ytdhfbblameiloaa
open Go.RowKit
set_option maxRecDepth 4000

theorem cells_of_any {w : World} {ao : Option Addr} {n cap : Nat} {f : Nat → Int} (h : View w ao n cap f) : ∀ ad, ao = some ad → ∀ j u, (bl (lof n f))[j]? = some u → w.cell? (ad.add j) = some u := by
  rintro ad rfl j u hu
  have hj : j < n := by
    by_cases hj : j < n
    · exact hj
    · rw [List.getElem?_eq_none (by rw [bl_len, lof_len]; omega)] at hu; cases hu
  obtain ⟨b', off', e, _, _⟩ := h.cells (by omega)
  simp only [Option.some.injEq] at e
  subst e
  exact cells_of_view h j u hu

theorem below_new {w w1 : World} (h : w.grownBy w1 none) : Below w.heap.size w w1 := (Below.refl _ _).grown h (Nat.le_refl _) (by intro k hk; cases hk)
theorem below_app {w w1 w2 : World} (h : w.grownBy w1 none) (h2 : w1.grownBy w2 (some w.heap.size)) : Below w.heap.size w w2 :=
  (below_new h).grown h2 h.size (by intro k hk; cases hk; exact Nat.le_refl _)

end Go.Proofs.Ytdhfbblameiloaa

/-
  The program's putBytes behind bytes that may be nil.
-/
namespace Go.Proofs.Ytdhfbblameiloaa
open Go.RowKit
set_option maxRecDepth 4000

set_option maxHeartbeats 1000000 in
theorem putBytes_opt (ai : Option Addr) (n cap : Nat) (f : Nat → Int) (ao : Option Addr) (m c : Nat) (g : Nat → Int) (w : World) (hv : View w ai n cap f) (hni : ai = none → n = 0 ∧ cap = 0) (hg : View w ao m c g) (hno : ao = none → m = 0 ∧ c = 0) (hn : n + m ≤ 70368744177664) :
    Calls Try.prog 66 #[.slice ai n cap, .slice ao m c] w fun e w' => e = .returned (.slice (some ⟨w.heap.size, 0, none⟩) (n + m) (n + m)) ∧ w'.ownsRow w.heap.size 5 1 (.slice (some ⟨w.heap.size, 0, none⟩) (n + m) (n + m)) (n + m) (bl (lof n f ++ lof m g)) ∧ Below w.heap.size w w' := by
  obtain ⟨i0, hi, hz0, hz1, hz2⟩ := info_parts Try.info5
  go_enter Try.func66, Try.ntmps66
  go_wp2_with (first | (at_make; go_must (refine wpList_make_own _ rfl (.const (.int .i64 0)) (.tmp 10) 27 rfl w.heap.size 5 i0 (.int .u8 0) 1 Try.underlying27 hi hz0 hz1 .i64 .i64 ((n : Int) + (m : Int)) (n + m) rfl rfl (by omega) (by rw [hz2]; omega) (by unfold maxLen; omega) (Nat.le_refl _) ?_); intro w1 hown1 hgr1) | (at_builtin; refine wpList_append_fits_any _ rfl (.tmp 12) (.tmp 13) 27 rfl w.heap.size 5 i0 1 Try.underlying27 hi hz1 w.heap.size 0 (n + m) [] rfl hown1 ai n cap (bl (lof n f)) rfl (by rw [bl_len, lof_len]; omega) hni (cells_of_any (hv.below (below_new hgr1))) (bl_one _) (by omega) ?_; intro w2 hown2 hgr2; simp only [Nat.zero_add, List.nil_append] at hown2) | (at_builtin; refine wpList_append_fits_any _ rfl (.tmp 15) (.tmp 16) 27 rfl w.heap.size 5 i0 1 Try.underlying27 hi hz1 w.heap.size n (n + m) (bl (lof n f)) rfl hown2 ao m c (bl (lof m g)) rfl (by rw [bl_len, lof_len]; omega) hno (cells_of_any (hg.below (below_app hgr1 hgr2))) (bl_one _) (by omega) ?_; intro w3 hown3 hgr3))
  go_ret
  exact ⟨rfl, by rw [bl_append]; exact hown3, (below_app hgr1 hgr2).grown hgr3 (Nat.le_trans hgr1.size hgr2.size) (by intro k hk; cases hk; exact Nat.le_refl _)⟩
end Go.Proofs.Ytdhfbblameiloaa

/-
  Rows of a disk that grow: what an append turns, and what it leaves.
-/
namespace Go.Proofs.Ytdhfbblameiloaa
open Go.RowKit
set_option maxRecDepth 4000

theorem keep_grown {w w' : World} {base T c n : Nat} {v : Value} {xs : List Value} (h : w.ownsRow base T c v n xs) (hg : w.grownBy w' v.ownBlock) : KeepT (fun t => t = T) w w' := by
  intro b cur t z hb ht
  refine hg.block b (Array.getElem?_eq_some_iff.1 hb).1 (fun e => ?_)
  rcases h.2 with ⟨rfl, _⟩ | ⟨g, cap, cur', rfl, _, hg', _⟩
  · cases e
  · cases e
    rw [hg'] at hb
    cases hb
    exact ht rfl
theorem own_geK {W : World} {base T c N : Nat} {v : Value} {xs : List Value} (h : W.ownsRow base T c v N xs) : ∀ j, v.ownBlock = some j → base ≤ j := by
  intro j hj
  rcases h.2 with ⟨rfl, _⟩ | ⟨g, cap, cur, rfl, hb, _⟩
  · cases hj
  · cases hj; exact hb
theorem own_succK {W : World} {base T c k : Nat} {v : Value} {xs : List Value} (h : W.ownsRow base T c v (k + 1) xs) : ∃ g cap, v = .slice (some ⟨g, 0, none⟩) (k + 1) cap := by
  rcases h.2 with ⟨_, h0⟩ | ⟨g, cap, cur, e, _⟩
  · omega
  · exact ⟨g, cap, e⟩
theorem own_upK {W W' : World} {base T c N : Nat} {v : Value} {xs : List Value} (h : W.ownsRow base T c v N xs) (hu : Up base W W') : W'.ownsRow base T c v N xs := by
  refine ⟨h.1, ?_⟩
  rcases h.2 with h0 | ⟨g, cap, cur, e, hb, hg, hr⟩
  · exact .inl h0
  · exact .inr ⟨g, cap, cur, e, hb, (hu.2 g hb (Array.getElem?_eq_some_iff.1 hg).1).trans hg, hr⟩
theorem own_keepT {P : TypeId → Prop} {W W' : World} {base T c N : Nat} {v : Value} {xs : List Value} (h : W.ownsRow base T c v N xs) (hu : KeepT P W W') (hT : ¬ P T) : W'.ownsRow base T c v N xs := by
  refine ⟨h.1, ?_⟩
  rcases h.2 with h0 | ⟨g, cap, cur, e, hb, hg, hr⟩
  · exact .inl h0
  · exact .inr ⟨g, cap, cur, e, hb, (hu g _ _ _ hg hT).trans hg, hr⟩
theorem own_monoK {W : World} {base base' T c N : Nat} {v : Value} {xs : List Value} (h : W.ownsRow base T c v N xs) (hB : base' ≤ base) : W.ownsRow base' T c v N xs := by
  refine ⟨h.1, ?_⟩
  rcases h.2 with h0 | ⟨g, cap, cur, e, hb, hr⟩
  · exact .inl h0
  · exact .inr ⟨g, cap, cur, e, Nat.le_trans hB hb, hr⟩
theorem own_rl {W : World} {base T c N : Nat} {v : Value} {xs : List Value} (h : W.ownsRow base T c v N xs) : ∃ a cap, v = .slice a N cap ∧ N ≤ cap ∧ (a = none → cap = 0) ∧ RL T W base a xs := by
  rcases h.2 with ⟨rfl, rfl⟩ | ⟨g, cap, cur, rfl, hb, hg, hnc, _, _, ht⟩
  · refine ⟨none, 0, rfl, Nat.le_refl _, fun _ => rfl, .inl ?_⟩
    have := h.1
    rw [Nat.zero_mul] at this
    exact List.eq_nil_of_length_eq_zero this
  · refine ⟨_, cap, rfl, hnc, (fun e => by cases e), .inr ⟨g, cur, rfl, hb, hg, fun i u hi => ?_⟩⟩
    rw [← ht, List.getElem?_take] at hi
    split at hi
    · simpa using hi
    · cases hi
theorem own_nilK (W : World) (base T c : Nat) : W.ownsRow base T c (.slice none 0 0) 0 [] := ⟨by simp, .inl ⟨rfl, rfl⟩⟩
theorem own_emptyK (w : World) (T c : Nat) : (w.alloc (.cells #[] T)).ownsRow w.heap.size T c (.slice (some ⟨w.heap.size, 0, none⟩) 0 0) 0 [] := World.ownsRow_lit (base := w.heap.size) (e := T) (size := c) w #[] 0 (Nat.le_refl _) (Nat.zero_le _) (by simp)
/-- Bytes that were put into a new row. -/
theorem ob_of_own {w : World} {B g n c : Nat} {l : List Int} (h : w.ownsRow B 5 1 (.slice (some ⟨g, 0, none⟩) n c) n (bl l)) (hn : n = l.length) (hb : ∀ x ∈ l, 0 ≤ x ∧ x ≤ 255) : OB w B (.slice (some ⟨g, 0, none⟩) n c) l := by
  subst hn
  rcases h.2 with ⟨e, _⟩ | ⟨g', cap, cur, e, hB, hg, hnc, _, hcs, ht⟩
  · cases e
  · cases e
    refine ⟨_, c, rfl, hnc, (fun e => by cases e), hb, .inr ⟨g, rfl, hB, cur, hg, by omega, fun i hi => ?_⟩⟩
    have h1 : (bl l)[i]? = some (.int .u8 (bf l i)) := by simp [bl, bf, hi]
    rw [← ht, List.getElem?_take, if_pos (by omega)] at h1
    simpa using h1
theorem lv_bytes {w : World} {a : Option Addr} {c : Nat} {l : List Int} (h : View w a l.length c (bf l)) : ∀ x ∈ l, 0 ≤ x ∧ x ≤ 255 := by
  intro x hx
  obtain ⟨i, hi, rfl⟩ := List.getElem_of_mem hx
  have := h.byte i hi
  have e : bf l i = l[i] := by simp [bf, hi]
  rw [e] at this
  exact this

/-- The program's putBytes with nothing behind. -/
theorem putSec_any (a : Option Addr) (c : Nat) (l : List Int) (w : World) (hv : View w a l.length c (bf l)) (hn : a = none → c = 0) (hl : l.length ≤ 1048576) :
    Calls Try.prog 66 #[.slice a l.length c, .slice none 0 0] w fun e w' => e = .returned (.slice (some ⟨w.heap.size, 0, none⟩) l.length l.length) ∧ OB w' w.heap.size (.slice (some ⟨w.heap.size, 0, none⟩) l.length l.length) l ∧ Below w.heap.size w w' ∧ w.heap.size < w'.heap.size := by
  have h0 : View w none 0 0 (fun _ => 0) := ⟨Nat.le_refl _, fun i hi => absurd hi (Nat.not_lt_zero _), fun h => absurd h (Nat.lt_irrefl _)⟩
  refine (putBytes_opt a l.length c (bf l) none 0 0 (fun _ => 0) w hv (fun e => by have := hn e; have := hv.le; omega) h0 (fun _ => ⟨rfl, rfl⟩) (by omega)).mono ?_
  rintro e w' ⟨rfl, hO, hb⟩
  simp only [Nat.add_zero, lof_bf] at hO
  have e0 : lof 0 (fun _ => 0) = [] := rfl
  rw [e0, List.append_nil] at hO
  refine ⟨rfl, ob_of_own hO rfl (lv_bytes hv), hb, ?_⟩
  rcases hO.2 with ⟨e, _⟩ | ⟨g', cap, cur, e, hB, hg, _⟩
  · cases e
  · cases e; exact (Array.getElem?_eq_some_iff.1 hg).1

set_option maxHeartbeats 2000000 in
/-- slices.Clone of faults. -/
theorem cloneFaults_any (a : Option Addr) (cap : Nat) (l : List PFault) (w : World) (h : FView w a cap l) (hn : l.length ≤ 1048576) :
    Calls Try.prog 94 #[.slice a l.length cap] w fun e w' => ∃ fa fc, e = .returned (.slice fa l.length fc) ∧ l.length ≤ fc ∧ (fa = none → fc = 0) ∧ RL 79 w' w.heap.size fa (fcells l) ∧ Below w.heap.size w w' := by
  obtain ⟨i0, hi, hz0, hz1, hz2⟩ := infoFault
  cases a with
  | none =>
    have hc := h.nil rfl
    have hl0 : l.length = 0 := by have := h.le; omega
    have hl : l = [] := List.eq_nil_of_length_eq_zero hl0
    subst hl
    subst hc
    have he : ∀ W : World, (binOp .eql 30 (.slice none 0 0) (.slice none 0 0)).run Try.prog W = .ok (.bool true) W := by intro W; kernel_rfl
    go_enter Try.func94, Try.ntmps94
    go_wp2
    go_ret
    exact ⟨none, 0, rfl, Nat.le_refl _, fun _ => rfl, .inl rfl, Below.refl _ _⟩
  | some ad =>
    have hbE : Below w.heap.size w (w.alloc (.cells #[] 79)) := (Below.refl _ _).alloc (Nat.le_refl _) _
    have hO0 := own_emptyK w 79 3
    have hcl : ∀ j u, (fcells l)[j]? = some u → (w.alloc (.cells #[] 79)).cell? (ad.add j) = some u := by
      intro j u hj
      have hlen : j < l.length * 3 := by rw [← fcells_len]; exact (List.getElem?_eq_some_iff.1 hj).1
      obtain ⟨b, off, e, hlt, hc⟩ := h.cells (by omega)
      cases e
      have ea : (⟨b, off, none⟩ : Addr).add j = ⟨b, off + j, none⟩ := by unfold Addr.add; split <;> simp_all
      rw [ea, hbE.cell (p := ⟨b, off + j, none⟩) hlt]
      have hq : j = j / 3 * 3 + j % 3 := by omega
      have hi3 : j / 3 < l.length := by omega
      obtain ⟨us, rfl, hus⟩ := hc (j / 3) l[j / 3] (List.getElem?_eq_getElem hi3)
      have h1 := fcells_at (l := l) (j / 3) (j % 3) (by omega)
      rw [← hq, hj, List.getElem?_eq_getElem hi3] at h1
      have h2 := hus (j % 3) u h1.symm
      have e3 : off + j / 3 * 3 + j % 3 = off + j := by omega
      rw [e3] at h2
      exact h2
    have hone : ∀ u ∈ fcells l, u.oneCell' = true := by
      intro u hu
      simp only [fcells, List.mem_flatMap] at hu
      obtain ⟨x, -, hx⟩ := hu
      simp [fEl] at hx
      rcases hx with rfl | rfl | rfl <;> rfl
    clear h
    have he : ∀ W : World, (binOp .eql 30 (.slice (some ad) l.length cap) (.slice none 0 0)).run Try.prog W = .ok (.bool false) W := by intro W; kernel_rfl
    go_enter Try.func94, Try.ntmps94
    go_wp2_with (at_builtin; refine wpList_append_own _ rfl (.tmp 5) (.tmp 6) 30 rfl w.heap.size 79 i0 (.agg #[.int .i64 0, .int .i64 0, .int .i64 0]) 3 24 Try.underlying30 hi hz0 hz1 hz2 rfl (by decide) _ _ _ rfl hO0 ad l.length cap (fcells l) rfl (fcells_len l) hcl hone (by unfold maxLen; omega) (by omega) (by simp) ?_)
    intro v5 w2 hown5 hgr hnil
    obtain ⟨fa, fc, rfl, h1, h2, h3⟩ := own_rl hown5
    have HR : Hid (RL 79 w2 w.heap.size fa (fcells l) ∧ Below w.heap.size w w2) := ⟨h3, hbE.grown hgr (by simp) (own_geK hO0)⟩
    clear hown5 hgr hnil hO0 hcl hone hbE h3
    go_wp2
    go_ret
    exact ⟨fa, fc, rfl, h1, h2, HR.out.1, HR.out.2⟩
/-- Three variables of disks: what came in, the answer, the new one. -/
structure TC (w W : World) (xs zs ys : List Value) : Prop where
  below : Below w.heap.size w W
  size : w.heap.size + 3 ≤ W.heap.size
  a : VN W w.heap.size 32 xs
  r : VN W (w.heap.size + 1) 32 zs
  o : VN W (w.heap.size + 1 + 1) 32 ys
theorem tc_new (w : World) (xs zs ys : List Value) : TC w (((w.alloc (.cells ⟨xs⟩ 32)).alloc (.cells ⟨zs⟩ 32)).alloc (.cells ⟨ys⟩ 32)) xs zs ys := by
  have V0 := VN.new w 32 xs
  have V1 := VN.new (w.alloc (.cells ⟨xs⟩ 32)) 32 zs
  have V2 := VN.new ((w.alloc (.cells ⟨xs⟩ 32)).alloc (.cells ⟨zs⟩ 32)) 32 ys
  simp only [alloc_sizeK] at V1 V2
  refine ⟨(((Below.refl _ _).alloc (Nat.le_refl _) _).alloc (by simp) _).alloc (by simp; omega) _, by simp, (V0.below ((Below.refl _ _).alloc (Nat.le_refl _) _)).below ((Below.refl _ _).alloc (Nat.le_refl _) _), V1.below ((Below.refl _ _).alloc (Nat.le_refl _) _), V2⟩
theorem TC.under {w W W' : World} {xs zs ys : List Value} (h : TC w W xs zs ys) (hb : Below (w.heap.size + 3) W W') : TC w W' xs zs ys :=
  ⟨h.below.trans (hb.mono (by omega)), Nat.le_trans h.size hb.size, h.a.block (hb.block _ (by omega)), h.r.block (hb.block _ (by omega)), h.o.block (hb.block _ (by omega))⟩
theorem TC.on {w W W' : World} {xs zs ys : List Value} (h : TC w W xs zs ys) (hb : Below W.heap.size W W') : TC w W' xs zs ys := h.under (hb.mono h.size)
theorem TC.grow {w W W' : World} {xs zs ys : List Value} {row : Option Nat} (h : TC w W xs zs ys) (hg : W.grownBy W' row) (hr : ∀ k, row = some k → w.heap.size + 1 + 1 + 1 ≤ k) : TC w W' xs zs ys := h.under ((Below.refl _ _).grown hg h.size (fun k e => by have := hr k e; omega))
theorem TC.drew {w W : World} {xs zs ys : List Value} (h : TC w W xs zs ys) : TC w W.drew xs zs ys := h.on (Below.refl _ _).drew
theorem TC.set {w W : World} {xs zs ys : List Value} (h : TC w W xs zs ys) (i : Nat) (u : Value) : TC w (W.setCell ⟨w.heap.size + 1 + 1, i, none⟩ u) xs zs (ys.set i u) :=
  ⟨h.below.setCell (p := ⟨w.heap.size + 1 + 1, i, none⟩) (by simp; omega) _, by simpa using h.size, h.a.other (by omega), h.r.other (by omega), h.o.set i u⟩
theorem TC.ret {w W : World} {xs zs ys : List Value} (h : TC w W xs zs ys) (i : Nat) (u : Value) : TC w (W.setCell ⟨w.heap.size + 1, i, none⟩ u) xs (zs.set i u) ys :=
  ⟨h.below.setCell (p := ⟨w.heap.size + 1, i, none⟩) (by simp) _, by simpa using h.size, h.a.other (by omega), h.r.set i u, h.o.other (by omega)⟩
theorem TC.cells {w W : World} {x0 x1 x2 x3 x4 : Value} {zs : List Value} {y0 y1 y2 y3 y4 : Value} (h : TC w W [x0, x1, x2, x3, x4] zs [y0, y1, y2, y3, y4]) :
    (W.cell? ⟨w.heap.size, 0, none⟩ = some x0 ∧ W.cell? ⟨w.heap.size, 1, none⟩ = some x1 ∧ W.cell? ⟨w.heap.size, 2, none⟩ = some x2 ∧ W.cell? ⟨w.heap.size, 3, none⟩ = some x3 ∧ W.cell? ⟨w.heap.size, 4, none⟩ = some x4)
    ∧ (W.cell? ⟨w.heap.size + 1 + 1, 0, none⟩ = some y0 ∧ W.cell? ⟨w.heap.size + 1 + 1, 1, none⟩ = some y1 ∧ W.cell? ⟨w.heap.size + 1 + 1, 2, none⟩ = some y2 ∧ W.cell? ⟨w.heap.size + 1 + 1, 3, none⟩ = some y3 ∧ W.cell? ⟨w.heap.size + 1 + 1, 4, none⟩ = some y4)
    ∧ ∀ i, W.frozen? ⟨w.heap.size + 1 + 1, i, none⟩ = false :=
  ⟨⟨h.a.cell 0, h.a.cell 1, h.a.cell 2, h.a.cell 3, h.a.cell 4⟩, ⟨h.o.cell 0, h.o.cell 1, h.o.cell 2, h.o.cell 3, h.o.cell 4⟩, fun i => h.o.fz i⟩
theorem TC.rcells {w W : World} {xs : List Value} {y0 y1 y2 y3 y4 : Value} {ys : List Value} (h : TC w W xs [y0, y1, y2, y3, y4] ys) :
    (W.cell? ⟨w.heap.size + 1, 0, none⟩ = some y0 ∧ W.cell? ⟨w.heap.size + 1, 1, none⟩ = some y1 ∧ W.cell? ⟨w.heap.size + 1, 2, none⟩ = some y2 ∧ W.cell? ⟨w.heap.size + 1, 3, none⟩ = some y3 ∧ W.cell? ⟨w.heap.size + 1, 4, none⟩ = some y4)
    ∧ ∀ i, W.frozen? ⟨w.heap.size + 1, i, none⟩ = false :=
  ⟨⟨h.r.cell 0, h.r.cell 1, h.r.cell 2, h.r.cell 3, h.r.cell 4⟩, fun i => h.r.fz i⟩
end Go.Proofs.Ytdhfbblameiloaa

/-
  An append to a row of the call's own, of a slice that may be nil; variables of the model's copy.
-/
namespace Go.Proofs.Ytdhfbblameiloaa
open Go.RowKit
set_option maxRecDepth 4000

theorem wp_append_opt {w : World} {o : Oper} {a : Act} {K : Act → World → Prop} {Q : Exit → Act → World → Prop} (s x : Operand) (t : TypeId)
    (ho : o.op = .call { callee := .builtin .append, args := #[s, x], argTypes := #[t, t] })
    (base : Nat) (e : TypeId) (i : TypeInfo) (z : Value) (size bytes : Nat) (ht : Try.prog.underlying t = some (.slice e)) (hi : Try.prog.info? e = some i) (hz : i.zero = some z)
    (hsize : i.size = size) (hby : i.bytes = bytes) (hzs : z.cells.size = size) (hsz : 0 < size)
    (v : Value) (n : Nat) (xs : List Value) (hs : a.eval s = v) (hown : w.ownsRow base e size v n xs)
    (ao : Option Addr) (m c : Nat) (news : List Value) (hx : a.eval x = .slice ao m c) (hno : ao = none → m = 0 ∧ c = 0) (hl : news.length = m * size) (hnews : ∀ ad, ao = some ad → ∀ j u, news[j]? = some u → w.cell? (ad.add j) = some u) (h1 : ∀ u ∈ news, u.oneCell' = true)
    (h63 : n + m ≤ maxLen) (hbytes : (n + m) * bytes ≤ 140737488355328) (hbase : base ≤ w.heap.size)
    (h : ∀ v' w', w'.ownsRow base e size v' (n + m) (xs ++ news) → w.grownBy w' v.ownBlock → K (a.put o.dst v') w') : o.wp Try.prog a w K Q := by
  cases ao with
  | some ad => exact wp_append_own w s x t ho base e i z size bytes ht hi hz hsize hby hzs hsz v n xs hs hown ad m c news hx hl (hnews ad rfl) h1 h63 hbytes hbase (fun v' w' h2 h3 _ => h v' w' h2 h3)
  | none =>
    obtain ⟨rfl, rfl⟩ := hno rfl
    have hn : news = [] := List.eq_nil_of_length_eq_zero (by simpa using hl)
    subst hn
    have hrun := run_append_owned_none (P := Try.prog) (w := w) base t o.type e i size ht hi v n xs hown
    have hk := h v w (by simpa using hown) ⟨rfl, rfl, rfl, Nat.le_refl _, fun _ _ _ => rfl⟩
    unfold Oper.wp
    simp [execOp, ho, resolve, invoke, builtin, hs, hx, hrun, Result.andThen]
    exact hk

theorem wpList_append_opt {w : World} {ops : Array Oper} {rest : List Oper} {o : Oper} {a : Act} {Q : Exit → Act → World → Prop} (hgd : o.guard = none) (s x : Operand) (t : TypeId)
    (ho : o.op = .call { callee := .builtin .append, args := #[s, x], argTypes := #[t, t] })
    (base : Nat) (e : TypeId) (i : TypeInfo) (z : Value) (size bytes : Nat) (ht : Try.prog.underlying t = some (.slice e)) (hi : Try.prog.info? e = some i) (hz : i.zero = some z)
    (hsize : i.size = size) (hby : i.bytes = bytes) (hzs : z.cells.size = size) (hsz : 0 < size)
    (v : Value) (n : Nat) (xs : List Value) (hs : a.eval s = v) (hown : w.ownsRow base e size v n xs)
    (ao : Option Addr) (m c : Nat) (news : List Value) (hx : a.eval x = .slice ao m c) (hno : ao = none → m = 0 ∧ c = 0) (hl : news.length = m * size) (hnews : ∀ ad, ao = some ad → ∀ j u, news[j]? = some u → w.cell? (ad.add j) = some u) (h1 : ∀ u ∈ news, u.oneCell' = true)
    (h63 : n + m ≤ maxLen) (hbytes : (n + m) * bytes ≤ 140737488355328) (hbase : base ≤ w.heap.size)
    (h : ∀ v' w', w'.ownsRow base e size v' (n + m) (xs ++ news) → w.grownBy w' v.ownBlock → wpList Try.prog ops Q rest (a.put o.dst v') w') : wpList Try.prog ops Q (o :: rest) a w :=
  wpList_plain hgd fun _ hK => wp_append_opt s x t ho base e i z size bytes ht hi hz hsize hby hzs hsz v n xs hs hown ao m c news hx hno hl hnews h1 h63 hbytes hbase fun v' w' h2 h3 => hK _ _ (h v' w' h2 h3)

/-- Variables of disks: what came in, the answer, the new one, which lies somewhere. -/
structure TS (w W : World) (X : Nat) (xs zs ys : List Value) : Prop where
  below : Below w.heap.size w W
  a : VN W w.heap.size 32 xs
  r : VN W (w.heap.size + 1) 32 zs
  o : VN W X 32 ys
  ge : w.heap.size + 1 < X
theorem TS.on {w W W' : World} {X : Nat} {xs zs ys : List Value} (h : TS w W X xs zs ys) (hb : Below W.heap.size W W') : TS w W' X xs zs ys :=
  ⟨h.below.trans (hb.mono h.below.size), h.a.below hb, h.r.below hb, h.o.below hb, h.ge⟩
theorem TS.grow {w W W' : World} {X T : Nat} {xs zs ys : List Value} {row : Option Nat} (h : TS w W X xs zs ys) (hg : W.grownBy W' row) (hr : ∀ k, row = some k → w.heap.size ≤ k) (hk : KeepT (fun t => t = T) W W') (hT : 32 ≠ T) : TS w W' X xs zs ys :=
  ⟨h.below.grown hg h.below.size hr, h.a.block (hk _ _ _ _ h.a hT), h.r.block (hk _ _ _ _ h.r hT), h.o.block (hk _ _ _ _ h.o hT), h.ge⟩
theorem TS.set {w W : World} {X : Nat} {xs zs ys : List Value} (h : TS w W X xs zs ys) (i : Nat) (u : Value) : TS w (W.setCell ⟨X, i, none⟩ u) X xs zs (ys.set i u) :=
  have hge := h.ge
  ⟨h.below.setCell (p := ⟨X, i, none⟩) (by simp; omega) _, h.a.other (by omega), h.r.other (by omega), h.o.set i u, h.ge⟩
theorem TS.ret {w W : World} {X : Nat} {xs zs ys : List Value} (h : TS w W X xs zs ys) (i : Nat) (u : Value) : TS w (W.setCell ⟨w.heap.size + 1, i, none⟩ u) X xs (zs.set i u) ys :=
  have hge := h.ge
  ⟨h.below.setCell (p := ⟨w.heap.size + 1, i, none⟩) (by simp) _, h.a.other (by omega), h.r.set i u, h.o.other (by omega), h.ge⟩
theorem keep_vn {P : TypeId → Prop} {W : World} {X T i : Nat} {ys : List Value} {u : Value} (h : VN W X T ys) (hP : P T) : KeepT P W (W.setCell ⟨X, i, none⟩ u) := by
  intro b c t z hb ht
  refine Below.heap_setCell _ _ _ _ (fun e => ?_)
  have e' : b = X := e
  unfold VN at h
  rw [e', h] at hb
  cases hb
  exact ht hP
theorem TS.cells {w W : World} {X : Nat} {x0 x1 x2 x3 x4 : Value} {zs : List Value} {y0 y1 y2 y3 y4 : Value} (h : TS w W X [x0, x1, x2, x3, x4] zs [y0, y1, y2, y3, y4]) :
    (W.cell? ⟨w.heap.size, 0, none⟩ = some x0 ∧ W.cell? ⟨w.heap.size, 1, none⟩ = some x1 ∧ W.cell? ⟨w.heap.size, 2, none⟩ = some x2 ∧ W.cell? ⟨w.heap.size, 3, none⟩ = some x3 ∧ W.cell? ⟨w.heap.size, 4, none⟩ = some x4)
    ∧ (W.cell? ⟨X, 0, none⟩ = some y0 ∧ W.cell? ⟨X, 1, none⟩ = some y1 ∧ W.cell? ⟨X, 2, none⟩ = some y2 ∧ W.cell? ⟨X, 3, none⟩ = some y3 ∧ W.cell? ⟨X, 4, none⟩ = some y4)
    ∧ ∀ i, W.frozen? ⟨X, i, none⟩ = false :=
  ⟨⟨h.a.cell 0, h.a.cell 1, h.a.cell 2, h.a.cell 3, h.a.cell 4⟩, ⟨h.o.cell 0, h.o.cell 1, h.o.cell 2, h.o.cell 3, h.o.cell 4⟩, fun i => h.o.fz i⟩
theorem TS.rcells {w W : World} {X : Nat} {xs : List Value} {y0 y1 y2 y3 y4 : Value} {ys : List Value} (h : TS w W X xs [y0, y1, y2, y3, y4] ys) :
    (W.cell? ⟨w.heap.size + 1, 0, none⟩ = some y0 ∧ W.cell? ⟨w.heap.size + 1, 1, none⟩ = some y1 ∧ W.cell? ⟨w.heap.size + 1, 2, none⟩ = some y2 ∧ W.cell? ⟨w.heap.size + 1, 3, none⟩ = some y3 ∧ W.cell? ⟨w.heap.size + 1, 4, none⟩ = some y4)
    ∧ ∀ i, W.frozen? ⟨w.heap.size + 1, i, none⟩ = false :=
  ⟨⟨h.r.cell 0, h.r.cell 1, h.r.cell 2, h.r.cell 3, h.r.cell 4⟩, fun i => h.r.fz i⟩
/-- The cells of faults, and of bytes, that read. -/
theorem fview_news {W : World} {a : Option Addr} {cap : Nat} {l : List PFault} (h : FView W a cap l) : ∀ ad, a = some ad → ∀ j u, (fcells l)[j]? = some u → W.cell? (ad.add j) = some u := by
  intro ad ea j u hj
  subst ea
  have hlen : j < l.length * 3 := by rw [← fcells_len]; exact (List.getElem?_eq_some_iff.1 hj).1
  obtain ⟨b, off, e, hlt, hc⟩ := h.cells (by omega)
  cases e
  have ea : (⟨b, off, none⟩ : Addr).add j = ⟨b, off + j, none⟩ := by unfold Addr.add; split <;> simp_all
  rw [ea]
  have hq : j = j / 3 * 3 + j % 3 := by omega
  have hi3 : j / 3 < l.length := by omega
  obtain ⟨us, rfl, hus⟩ := hc (j / 3) l[j / 3] (List.getElem?_eq_getElem hi3)
  have h1 := fcells_at (l := l) (j / 3) (j % 3) (by omega)
  rw [← hq, hj, List.getElem?_eq_getElem hi3] at h1
  have h2 := hus (j % 3) u h1.symm
  have e3 : off + j / 3 * 3 + j % 3 = off + j := by omega
  rw [e3] at h2
  exact h2
theorem fcells_one (l : List PFault) : ∀ u ∈ fcells l, u.oneCell' = true := by
  intro u hu
  simp only [fcells, List.mem_flatMap] at hu
  obtain ⟨x, -, hx⟩ := hu
  simp [fEl] at hx
  rcases hx with rfl | rfl | rfl <;> rfl
theorem view_news {W : World} {a : Option Addr} {c : Nat} {l : List Int} (h : View W a l.length c (bf l)) : ∀ ad, a = some ad → ∀ j u, (bl l)[j]? = some u → W.cell? (ad.add j) = some u := by
  intro ad ea j u hj
  have := cells_of_any h ad ea j u
  rw [lof_bf] at this
  exact this hj
/-- Bytes put into a new row by an append: the row, by itself. -/
theorem ob_own_any {w : World} {B n : Nat} {v : Value} {l : List Int} (h : w.ownsRow B 5 1 v n (bl l)) (hn : n = l.length) (hb : ∀ x ∈ l, 0 ≤ x ∧ x ≤ 255) : OB w B v l := by
  subst hn
  obtain ⟨a, cap, rfl, h1, h2, h3⟩ := own_rl h
  refine ⟨a, cap, rfl, h1, h2, hb, ?_⟩
  rcases h3 with h3 | ⟨g, cur, rfl, hB, hg, hc⟩
  · left
    simpa [bl] using h3
  · refine .inr ⟨g, rfl, hB, cur, hg, ?_, fun i hi => hc i _ (by simp [bl, bf, hi])⟩
    rcases h.2 with ⟨e, _⟩ | ⟨g', cap', cur', e, _, hg', hnc, _, hcs, _⟩
    · cases e
    · cases e
      rw [hg] at hg'; cases hg'
      omega
end Go.Proofs.Ytdhfbblameiloaa

