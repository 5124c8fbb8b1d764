/-
  Together: SettlePlain, LosePlain, LosePlainS, DiskMS
-/
import Derived.Test.YtphipmhibegbnaaPkR2
import Derived.Test.YtphipmhibegbnaaPkR1
import Derived.Test.YtphipmhibegbnaaPkR7
/-
  Writes that come into their sectors, plainly: what the sectors have, and whose rows they are.
-/
namespace Go.Proofs.Ytphipmhibegbnaa
open Go.RowKit
set_option maxRecDepth 4000

/-- Each write comes into its sector, in order. -/
def settleL {α : Type} (s : List α) : List (Int × α) → List α
  | [] => s
  | x :: l => settleL (s.set x.1.toNat x.2) l
theorem settleL_len {α : Type} : ∀ (l : List (Int × α)) (s : List α), (settleL s l).length = s.length
  | [], _ => rfl
  | x :: l, s => by rw [settleL, settleL_len l]; simp
theorem settleL_app {α : Type} : ∀ (l m : List (Int × α)) (s : List α), settleL s (l ++ m) = settleL (settleL s l) m
  | [], _, _ => rfl
  | x :: l, m, s => by rw [List.cons_append, settleL, settleL, settleL_app l m]
theorem settleL_one {α : Type} {l : List (Int × α)} {s : List α} {k : Nat} (h : k < l.length) : settleL s (l.take (k + 1)) = (settleL s (l.take k)).set (l[k]).1.toNat (l[k]).2 := by
  rw [List.take_add_one, List.getElem?_eq_getElem h]
  exact settleL_app _ _ _
/-- The sectors' slices are those of before, or of the writes: each of them once. -/
theorem settle_pairs {ss cs : List Value} {s c : List (List Int)} {ns : List Int} (hs : ss.length = s.length) (hc : cs.length = c.length) (hn : ns.length = cs.length) :
    ∀ (i : Nat) v l, (settleL ss (ns.zip cs))[i]? = some v → (settleL s (ns.zip c))[i]? = some l → ∃ j : Nat, (ss ++ cs)[j]? = some v ∧ (s ++ c)[j]? = some l := by
  suffices H : ∀ (m : List Int) (cs' : List Value) (c' : List (List Int)) (off : Nat) (ss' : List Value) (s' : List (List Int)), cs'.length = c'.length → m.length = cs'.length → ss'.length = s'.length →
      (∀ (j : Nat) v l, cs'[j]? = some v → c'[j]? = some l → (ss ++ cs)[off + j]? = some v ∧ (s ++ c)[off + j]? = some l) →
      (∀ (i : Nat) v l, ss'[i]? = some v → s'[i]? = some l → ∃ j : Nat, (ss ++ cs)[j]? = some v ∧ (s ++ c)[j]? = some l) →
      ∀ (i : Nat) v l, (settleL ss' (m.zip cs'))[i]? = some v → (settleL s' (m.zip c'))[i]? = some l → ∃ j : Nat, (ss ++ cs)[j]? = some v ∧ (s ++ c)[j]? = some l by
    refine H ns cs c ss.length ss s hc hn hs (fun j v l h1 h2 => ⟨?_, ?_⟩) (fun i v l h1 h2 => ⟨i, ?_, ?_⟩)
    · rw [List.getElem?_append_right (by omega), Nat.add_sub_cancel_left]; exact h1
    · rw [hs, List.getElem?_append_right (by omega), Nat.add_sub_cancel_left]; exact h2
    · rw [List.getElem?_append_left (List.getElem?_eq_some_iff.1 h1).1]; exact h1
    · rw [List.getElem?_append_left (List.getElem?_eq_some_iff.1 h2).1]; exact h2
  intro m
  induction m with
  | nil => intro cs' c' off ss' s' _ _ _ _ hp i v l h1 h2; exact hp i v l h1 h2
  | cons x m ih =>
    intro cs' c' off ss' s' hcc hm hss hq hp i v l h1 h2
    match cs', c', hcc, hm, hq, h1, h2 with
    | u :: cs', b :: c', hcc, hm, hq, h1, h2 =>
      refine ih cs' c' (off + 1) (ss'.set x.toNat u) (s'.set x.toNat b) (by simpa using hcc) (by simpa using hm) (by simpa using hss) (fun j v l g1 g2 => ?_) (fun i v l g1 g2 => ?_) i v l h1 h2
      · have := hq (j + 1) v l (by simpa using g1) (by simpa using g2)
        rw [show off + 1 + j = off + (j + 1) by omega]
        exact this
      · rw [List.getElem?_set] at g1 g2
        by_cases e : x.toNat = i
        · rw [if_pos e] at g1 g2
          by_cases hlt : x.toNat < ss'.length
          · rw [if_pos hlt] at g1
            rw [if_pos (by rw [← hss]; exact hlt)] at g2
            cases g1; cases g2
            exact ⟨off, by simpa using (hq 0 _ _ rfl rfl).1, by simpa using (hq 0 _ _ rfl rfl).2⟩
          · rw [if_neg hlt] at g1; cases g1
        · rw [if_neg e] at g1 g2
          exact hp i v l g1 g2
theorem Apt.symm {u v : Value} (h : Apt u v) : Apt v u := fun g h1 h2 => h g h2 h1
theorem apt_set {ss cs : List Value} {u : Value} (i : Nat) (h : (ss ++ u :: cs).Pairwise Apt) : (ss.set i u ++ cs).Pairwise Apt := by
  rw [List.pairwise_append] at h ⊢
  obtain ⟨h1, h2, h3⟩ := h
  rw [List.pairwise_cons] at h2
  refine ⟨?_, h2.2, fun a ha b hb => ?_⟩
  · rw [List.pairwise_iff_getElem] at h1 ⊢
    intro p q hp hq hpq
    rw [List.length_set] at hp hq
    rw [List.getElem_set, List.getElem_set]
    by_cases e1 : i = p
    · rw [if_pos e1, if_neg (by omega)]
      exact (h3 _ (List.getElem_mem hq) u List.mem_cons_self).symm
    · rw [if_neg e1]
      by_cases e2 : i = q
      · rw [if_pos e2]
        exact h3 _ (List.getElem_mem hp) u List.mem_cons_self
      · rw [if_neg e2]
        exact h1 p q hp hq hpq
  · rcases List.mem_or_eq_of_mem_set ha with ha | rfl
    · exact h3 a ha b (List.mem_cons_of_mem _ hb)
    · exact h2.1 b hb
theorem settle_apt : ∀ (ns : List Int) (cs ss : List Value), (ss ++ cs).Pairwise Apt → (settleL ss (ns.zip cs)).Pairwise Apt
  | [], _, ss, h => (List.pairwise_append.1 h).1
  | _ :: _, [], ss, h => (List.pairwise_append.1 h).1
  | x :: ns, u :: cs, ss, h => by
    rw [List.zip_cons_cons, settleL]
    exact settle_apt ns cs _ (apt_set _ h)
/-- The rows of the sectors behind it. -/
theorem Bs.settle {w : World} {B : Nat} {ss cs : List Value} {s c : List (List Int)} {ns : List Int} (h : Bs w B (ss ++ cs) (s ++ c)) (hs : ss.length = s.length) (hn : ns.length = cs.length) : Bs w B (settleL ss (ns.zip cs)) (settleL s (ns.zip c)) := by
  have hc : cs.length = c.length := by have := h.len; simp at this; omega
  refine ⟨by rw [settleL_len, settleL_len]; exact hs, fun i v l h1 h2 => ?_, fun v hv g hg => ?_, settle_apt ns cs ss h.apt⟩
  · obtain ⟨j, g1, g2⟩ := settle_pairs hs hc hn i v l h1 h2
    exact h.ob j v l g1 g2
  · obtain ⟨i, hi, rfl⟩ := List.getElem_of_mem hv
    have hi2 : i < (settleL s (ns.zip c)).length := by rw [settleL_len, ← hs, ← settleL_len (ns.zip cs) ss]; exact hi
    obtain ⟨j, g1, -⟩ := settle_pairs hs hc hn i _ _ (List.getElem?_eq_getElem hi) (List.getElem?_eq_getElem hi2)
    exact h.lt _ (List.mem_of_getElem? g1) g hg
end Go.Proofs.Ytphipmhibegbnaa

/-
  What a fault keeps of the cache, plainly.
-/
namespace Go.Proofs.Ytphipmhibegbnaa
open Go.RowKit
set_option maxRecDepth 4000

/-- Whether the bit of the i-th write is set. -/
def bitOf (keep : Int) (i : Nat) : Bool := decide (keep / 2 ^ i % 2 = 1)
theorem bitOf_far {keep : Int} (h0 : 0 ≤ keep) (h1 : keep ≤ 1048575) {i : Nat} (hi : 20 ≤ i) : bitOf keep i = false := by
  unfold bitOf
  have h2 : (1048576 : Int) ≤ 2 ^ i := by
    have h9 : 2 ^ 20 ≤ 2 ^ i := Nat.pow_le_pow_right (by decide) hi
    have e : ((2 ^ i : Nat) : Int) = 2 ^ i := by simp
    rw [← e]
    omega
  have h3 : keep / 2 ^ i = 0 := Int.ediv_eq_zero_of_lt h0 (by omega)
  rw [h3]
  rfl
/-- Those of the first k that are kept. -/
def keptG {α : Type} (keep : Int) (l : List α) : Nat → List α
  | 0 => []
  | k + 1 => keptG keep l k ++ (if bitOf keep k then (l[k]?).toList else [])
theorem keptG_yes {α : Type} {keep : Int} {l : List α} {k : Nat} (hb : bitOf keep k = true) (hk : k < l.length) : keptG keep l (k + 1) = keptG keep l k ++ [l[k]] := by
  rw [keptG, if_pos hb, List.getElem?_eq_getElem hk]
  rfl
theorem keptG_no {α : Type} {keep : Int} {l : List α} {k : Nat} (hb : bitOf keep k = false) : keptG keep l (k + 1) = keptG keep l k := by
  rw [keptG, if_neg (by simp [hb])]
  simp
theorem keptG_map {α β : Type} (g : α → β) (keep : Int) (l : List α) : ∀ k, (keptG keep l k).map g = keptG keep (l.map g) k
  | 0 => rfl
  | k + 1 => by
    rw [keptG, keptG, List.map_append, keptG_map g keep l k]
    congr 1
    split
    · cases h : l[k]? <;> simp [h]
    · rfl
theorem keptG_mem {α : Type} {keep : Int} {l : List α} : ∀ {k : Nat} {x : α}, x ∈ keptG keep l k → x ∈ l
  | 0, _, h => by simp [keptG] at h
  | k + 1, x, h => by
    rw [keptG, List.mem_append] at h
    rcases h with h | h
    · exact keptG_mem h
    · split at h
      · exact List.mem_of_getElem? (Option.mem_toList.1 h)
      · simp at h
theorem keptG_len {α : Type} (keep : Int) (l : List α) : ∀ k, (keptG keep l k).length ≤ k
  | 0 => Nat.le_refl _
  | k + 1 => by
    rw [keptG, List.length_append]
    have := keptG_len keep l k
    split
    · cases h : l[k]? <;> simp <;> omega
    · simp; omega
/-- Behind the twentieth nothing is kept. -/
theorem keptG_far {α : Type} {keep : Int} (h0 : 0 ≤ keep) (h1 : keep ≤ 1048575) (l : List α) {k : Nat} (hk : 20 ≤ k) : keptG keep l k = keptG keep l 20 := by
  obtain ⟨d, rfl⟩ : ∃ d, k = 20 + d := ⟨k - 20, by omega⟩
  induction d with
  | zero => rfl
  | succ d ih => rw [← Nat.add_assoc, keptG_no (bitOf_far h0 h1 (by omega)), ih (by omega)]
/-- The last is cut. -/
def cutLast {α : Type} (g : α → α) (l : List α) : List α := match l.getLast? with
  | none => l
  | some x => l.dropLast ++ [g x]
theorem cutLast_nil {α : Type} (g : α → α) : cutLast g [] = [] := rfl
theorem cutLast_app {α : Type} (g : α → α) (l : List α) (x : α) : cutLast g (l ++ [x]) = l ++ [g x] := by simp [cutLast]
theorem keptG_len_eq {α β : Type} {keep : Int} {l : List α} {m : List β} (h : l.length = m.length) : ∀ k, (keptG keep l k).length = (keptG keep m k).length
  | 0 => rfl
  | k + 1 => by
    rw [keptG, keptG, List.length_append, List.length_append, keptG_len_eq h k]
    congr 1
    split
    · by_cases hk : k < l.length
      · rw [List.getElem?_eq_getElem hk, List.getElem?_eq_getElem (by omega)]; rfl
      · rw [List.getElem?_eq_none (by omega), List.getElem?_eq_none (by omega)]; rfl
    · rfl
theorem bit_and {q : Int} (h0 : 0 ≤ q) (h1 : q ≤ 1048575) (k : Nat) : bits .and .i64 (q / 2 ^ k) 1 = q / 2 ^ k % 2 := by
  obtain ⟨x, rfl⟩ := Int.eq_ofNat_of_zero_le h0
  have e : ((x : Int) / 2 ^ k) = ((x / 2 ^ k : Nat) : Int) := by simp
  rw [e, i64_and1 _ (by have : x / 2 ^ k ≤ x := Nat.div_le_self _ _; omega)]
  omega
end Go.Proofs.Ytphipmhibegbnaa

/-
  What the model keeps of the cache, plainly: it comes to what is kept with its last one cut.
-/
namespace Go.Proofs.Ytphipmhibegbnaa
open Go.RowKit
set_option maxRecDepth 4000

def cutW (c : Nat) (x : Int × List Int) : Int × List Int := (x.1, x.2.take c)
/-- What comes into its sectors of the first k writes. -/
def lostL (keep : Int) (cut last : Nat) (l : List (Int × List Int)) : Nat → List (Int × List Int)
  | 0 => []
  | k + 1 => lostL keep cut last l k ++ (if bitOf keep k then (l[k]?).toList.map (fun x => if k = last then cutW cut x else x) else [])
theorem lostL_yes {keep : Int} {cut last : Nat} {l : List (Int × List Int)} {k : Nat} (hb : bitOf keep k = true) (hk : k < l.length) : lostL keep cut last l (k + 1) = lostL keep cut last l k ++ [if k = last then cutW cut l[k] else l[k]] := by
  rw [lostL, if_pos hb, List.getElem?_eq_getElem hk]
  rfl
theorem lostL_no {keep : Int} {cut last : Nat} {l : List (Int × List Int)} {k : Nat} (hb : bitOf keep k = false) : lostL keep cut last l (k + 1) = lostL keep cut last l k := by
  rw [lostL, if_neg (by simp [hb])]
  simp
theorem lostL_kept {keep : Int} {cut last : Nat} {l : List (Int × List Int)} : ∀ {k : Nat}, k ≤ last → lostL keep cut last l k = keptG keep l k
  | 0, _ => rfl
  | k + 1, h => by
    rw [lostL, keptG, lostL_kept (by omega)]
    congr 1
    split
    · cases hx : l[k]? with
      | none => rfl
      | some x => simp [show k ≠ last by omega]
    · rfl
/-- The last bit that is set of the first k. -/
def LastIs (keep : Int) (k : Nat) (last : Int) : Prop := (last = -1 ∧ ∀ j, j < k → bitOf keep j = false) ∨ ∃ m : Nat, last = m ∧ m < k ∧ bitOf keep m = true ∧ ∀ j, m < j → j < k → bitOf keep j = false
theorem LastIs.zero (keep : Int) : LastIs keep 0 (-1) := .inl ⟨rfl, fun _ h => absurd h (Nat.not_lt_zero _)⟩
theorem LastIs.yes {keep : Int} {k : Nat} (hb : bitOf keep k = true) : LastIs keep (k + 1) (k : Int) := .inr ⟨k, rfl, Nat.lt_succ_self _, hb, fun j h1 h2 => by omega⟩
theorem LastIs.no {keep : Int} {k : Nat} {last : Int} (h : LastIs keep k last) (hb : bitOf keep k = false) : LastIs keep (k + 1) last := by
  have key : ∀ j, j < k + 1 → ¬ j < k → bitOf keep j = false := fun j h1 h2 => by rw [show j = k by omega]; exact hb
  rcases h with ⟨rfl, h⟩ | ⟨m, rfl, h1, h2, h3⟩
  · exact .inl ⟨rfl, fun j hj => if e : j < k then h j e else key j hj e⟩
  · exact .inr ⟨m, rfl, by omega, h2, fun j g1 g2 => if e : j < k then h3 j g1 e else key j g2 e⟩
theorem keptG_stop {α : Type} {keep : Int} {l : List α} {i : Nat} : ∀ {k : Nat}, i ≤ k → (∀ j, i ≤ j → j < k → bitOf keep j = false) → keptG keep l k = keptG keep l i
  | 0, h, _ => by rw [show i = 0 by omega]
  | k + 1, h, hb => by
    by_cases e : i = k + 1
    · rw [e]
    · rw [keptG_no (hb k (by omega) (by omega))]
      exact keptG_stop (by omega) (fun j h1 h2 => hb j h1 (by omega))
theorem lost_all {keep : Int} {cut : Nat} {l : List (Int × List Int)} {n : Nat} {last : Int} (h0 : 0 ≤ keep) (h1 : keep ≤ 1048575) (hn : n = min l.length 20) (h : LastIs keep n last) :
    (last = -1 ∧ cutLast (cutW cut) (keptG keep l l.length) = []) ∨ ∃ m : Nat, last = m ∧ m < n ∧ cutLast (cutW cut) (keptG keep l l.length) = lostL keep cut m l (m + 1) := by
  have hfar : ∀ j, n ≤ j → j < l.length → bitOf keep j = false := fun j g1 g2 => bitOf_far h0 h1 (by omega)
  rcases h with ⟨rfl, h⟩ | ⟨m, rfl, g1, g2, g3⟩
  · left
    refine ⟨rfl, ?_⟩
    rw [keptG_stop (i := 0) (Nat.zero_le _) (fun j _ hj => if e : j < n then h j e else hfar j (by omega) hj)]
    rfl
  · right
    have hm : m < l.length := by omega
    refine ⟨m, rfl, g1, ?_⟩
    rw [keptG_stop (i := m + 1) (by omega) (fun j g4 hj => if e : j < n then g3 j (by omega) e else hfar j (by omega) hj), keptG_yes g2 hm, cutLast_app, lostL_yes g2 hm, lostL_kept (Nat.le_refl _), if_pos rfl]
/-- The disk behind a fault; behind a flush. -/
def loseD (D : PDisk) (f : PFault) : PDisk := { D with secs := settleL D.secs (cutLast (cutW f.cut.toNat) (keptG f.keep D.cache D.cache.length)), cache := [], down := true }
def calmD (D : PDisk) : PDisk := { D with secs := settleL D.secs D.cache, cache := [] }
theorem settle_snoc {α : Type} (s : List α) (l : List (Int × α)) (x : Int × α) : settleL s (l ++ [x]) = (settleL s l).set x.1.toNat x.2 := by rw [settleL_app]; rfl
end Go.Proofs.Ytphipmhibegbnaa

/-
  A disk in a variable of the model's, whose rows are the call's own.
-/
namespace Go.Proofs.Ytphipmhibegbnaa
open Go.RowKit
set_option maxRecDepth 4000

theorem OB.keepT {P : TypeId → Prop} {w w' : World} {B : Nat} {v : Value} {l : List Int} (h : OB w B v l) (ho : KeepT P w w') (hT : ¬ P 5) : OB w' B v l := by
  obtain ⟨a, c, e, h1, h2, h3, h4⟩ := h.is
  refine ⟨a, c, e, h1, h2, h3, ?_⟩
  rcases h4 with h4 | ⟨g, ea, hb, hr⟩
  · exact .inl h4
  · obtain ⟨cur, hc, hx⟩ := hr
    exact .inr ⟨g, ea, hb, cur, (ho g _ _ _ hc hT).trans hc, hx⟩
/-- The disk D in the variable X, whose sectors have S. -/
structure MS (w : World) (B X gs sc : Nat) (ca : Option Addr) (cc : Nat) (fa : Option Addr) (fc : Nat) (ss cs : List Value) (D : PDisk) (S : List (List Int)) : Prop where
  x : VN w X 34 [.slice (some ⟨gs, 0, none⟩) D.secs.length sc, .slice ca D.cache.length cc, .int .i64 D.ops, .slice fa D.faults.length fc, .bool D.down]
  secs : RL 28 w B (some ⟨gs, 0, none⟩) ss
  ns : ss.length = D.secs.length
  len : S.length = D.secs.length
  ob : ∀ (i : Nat) v l, ss[i]? = some v → S[i]? = some l → OB w B v l
  cache : RL 59 w B ca (wcells D.cache cs)
  nc : cs.length = D.cache.length
  cb : ∀ (i : Nat) v l, cs[i]? = some v → (D.cache.map (·.2))[i]? = some l → OB w B v l
  faults : RL 78 w B fa (fcells D.faults)
theorem MS.on {w w' : World} {B X gs sc : Nat} {ca : Option Addr} {cc : Nat} {fa : Option Addr} {fc : Nat} {ss cs : List Value} {D : PDisk} {S : List (List Int)} (h : MS w B X gs sc ca cc fa fc ss cs D S) (hb : Below w.heap.size w w') : MS w' B X gs sc ca cc fa fc ss cs D S :=
  ⟨h.x.below hb, h.secs.up (Up.ofBelow hb), h.ns, h.len, fun i v l h1 h2 => (h.ob i v l h1 h2).up (Up.ofBelow hb), h.cache.up (Up.ofBelow hb), h.nc, fun i v l h1 h2 => (h.cb i v l h1 h2).up (Up.ofBelow hb), h.faults.up (Up.ofBelow hb)⟩
/-- A variable of another type turns. -/
theorem MS.other {w : World} {B X gs sc : Nat} {ca : Option Addr} {cc : Nat} {fa : Option Addr} {fc : Nat} {ss cs : List Value} {D : PDisk} {S : List (List Int)} {Y i : Nat} {u : Value} (h : MS w B X gs sc ca cc fa fc ss cs D S) (hY : w.heap.size ≤ Y) : MS (w.setCell ⟨Y, i, none⟩ u) B X gs sc ca cc fa fc ss cs D S :=
  h.on ((Below.refl _ _).setCell (p := ⟨Y, i, none⟩) hY u)
/-- A byte row comes into a sector. -/
theorem MS.put {w : World} {B X gs sc : Nat} {ca : Option Addr} {cc : Nat} {fa : Option Addr} {fc : Nat} {ss cs : List Value} {D : PDisk} {S : List (List Int)} (h : MS w B X gs sc ca cc fa fc ss cs D S) {m : Nat} (hm : m < D.secs.length) {v : Value} {l : List Int} (hv : OB w B v l) : MS (w.setCell ⟨gs, m, none⟩ v) B X gs sc ca cc fa fc (ss.set m v) cs D (S.set m l) := by
  have hk : KeepT (fun t => t = 28) w (w.setCell ⟨gs, m, none⟩ v) := KeepT.set h.secs (by rw [h.ns]; omega) rfl
  have hne : X ≠ gs := by
    rintro rfl
    obtain ⟨g, e, -, -, -⟩ := h.secs.cell (by rw [h.ns]; omega)
    rcases h.secs with h0 | ⟨g', cur, ea, -, hg, -⟩
    · have := h.ns; rw [h0] at this; simp at this; omega
    · cases ea
      have := h.x
      unfold VN at this
      rw [hg] at this
      cases this
  refine ⟨h.x.other hne, h.secs.set m v (by rw [h.ns]; exact hm), by simp [h.ns], by simp [h.len], fun i u x h1 h2 => ?_, h.cache.keepT hk (by decide), h.nc, fun i u x h1 h2 => (h.cb i u x h1 h2).keepT hk (by decide), h.faults.keepT hk (by decide)⟩
  rw [List.getElem?_set] at h1 h2
  by_cases e : m = i
  · subst e
    rw [if_pos rfl, if_pos (by rw [h.ns]; exact hm)] at h1
    rw [if_pos rfl, if_pos (by rw [h.len]; exact hm)] at h2
    cases h1; cases h2
    exact hv.keepT hk (by decide)
  · rw [if_neg e] at h1 h2
    exact (h.ob i u x h1 h2).keepT hk (by decide)
/-- An owned disk that was put into a variable. -/
theorem MS.start {w : World} {B X gs sc : Nat} {ca : Option Addr} {cc : Nat} {fa : Option Addr} {fc : Nat} {ss cs : List Value} {D : PDisk} (h : KO w B (some ⟨gs, 0, none⟩) sc ca cc fa fc ss cs D) (hX : VN w X 34 [.slice (some ⟨gs, 0, none⟩) D.secs.length sc, .slice ca D.cache.length cc, .int .i64 D.ops, .slice fa D.faults.length fc, .bool D.down]) : MS w B X gs sc ca cc fa fc ss cs D D.secs :=
  ⟨hX, h.secs, h.ns, rfl, fun i v l h1 h2 => h.bytes.ob i v l (by rw [List.getElem?_append_left (List.getElem?_eq_some_iff.1 h1).1]; exact h1) (by rw [List.getElem?_append_left (List.getElem?_eq_some_iff.1 h2).1]; exact h2), h.cache, h.nc, fun i v l h1 h2 => h.bytes.ob (ss.length + i) v l (by rw [List.getElem?_append_right (by omega), Nat.add_sub_cancel_left]; exact h1) (by rw [h.ns, List.getElem?_append_right (by omega), Nat.add_sub_cancel_left]; exact h2), h.faults⟩
/-- The sectors and the faults read. -/
theorem MS.view {w : World} {B X gs sc : Nat} {ca : Option Addr} {cc : Nat} {fa : Option Addr} {fc : Nat} {ss cs : List Value} {D : PDisk} {S : List (List Int)} (h : MS w B X gs sc ca cc fa fc ss cs D S) (hs : D.secs.length ≤ sc) (hp : 0 < D.secs.length) : SView w (some ⟨gs, 0, none⟩) sc S := by
  refine ⟨by rw [h.len]; exact hs, (fun e => by cases e), fun hn => ?_⟩
  obtain ⟨g, ea, -, hlt, hc⟩ := h.secs.cell (by rw [h.ns]; omega)
  refine ⟨g, 0, ea, hlt, fun i x hi => ?_⟩
  have hi' : i < ss.length := by rw [h.ns, ← h.len]; exact (List.getElem?_eq_some_iff.1 hi).1
  have hv := List.getElem?_eq_getElem hi'
  refine ⟨[ss[i]], ⟨ss[i], rfl, (h.ob i _ x hv hi).lv⟩, fun j u hj => ?_⟩
  match j, hj with
  | 0, hj => cases hj; simpa using hc i _ hv
end Go.Proofs.Ytphipmhibegbnaa

