/-
  Together: PlanPlain11, OwnSet, MarkPart11, CarPlan11, TokName
-/
import Derived.Test.YtjoimkfpenbkmaaGreatDoorPackP8
import Derived.Test.YtjoimkfpenbkmaaGreatDoorPackP4
import Derived.Test.YtjoimkfpenbkmaaGreatDoorPackP2
import Derived.Deep.LoopGhost
import Derived.Test.YtjoimkfpenbkmaaGreatDoorPackP7
import Derived.Test.YtjoimkfpenbkmaaGreatDoorPackP5
import Derived.Test.YtjoimkfpenbkmaaGreatDoorPackP1
import Derived.Test.YtjoimkfpenbkmaaGreatDoorProg
import Derived.WalkMore
/-
  The three plans of a table, plainly.
-/
namespace Go.Proofs.YtjoimkfpenbkmaaGreatDoor
open Go.RowKit
set_option maxRecDepth 4000

def priN (D : PDef) : Nat := if checkF D = 0 then D.np else 0
def idxN (D : PDef) (i : Int) : Nat := if checkF D = 0 ∧ 0 ≤ i ∧ i < D.ni then (D.idx i.toNat).n + D.np else 0
def ixpL (D : PDef) (i : Int) : Nat → PBy := catB (D.idx i.toNat).part (D.idx i.toNat).n D.pri
def rowN (D : PDef) : Nat := if checkF D = 0 then D.nc else 0
def allL (i : Nat) : PBy := ⟨i, false⟩
theorem good_pri {D : PDef} (h : checkF D = 0) : partsF D.nc D.np D.pri = true := by
  obtain ⟨-, -, -, -, h5, -⟩ := checkF_good h
  unfold allPartsF at h5
  exact (of_decide_eq_true h5).2
theorem good_idx {D : PDef} (h : checkF D = 0) {i : Nat} (hi : i < D.ni) : partsF D.nc (D.idx i).n (D.idx i).part = true := by
  obtain ⟨-, -, -, -, h5, -⟩ := checkF_good h
  unfold allPartsF at h5
  exact (of_decide_eq_true h5).1 i hi
theorem good_nc {D : PDef} (h : checkF D = 0) : (∀ i, i < D.nc → 1 ≤ (D.col i).type ∧ (D.col i).type ≤ 4) ∧ 1 ≤ D.nc ∧ D.nc ≤ 6 := by
  obtain ⟨-, h2, -⟩ := checkF_good h
  unfold typesF at h2
  exact of_decide_eq_true h2
theorem cat_in {nc n0 n1 : Nat} {f0 f1 : Nat → PBy} (h0 : ∀ i, i < n0 → 0 ≤ (f0 i).col ∧ (f0 i).col < nc) (h1 : ∀ i, i < n1 → 0 ≤ (f1 i).col ∧ (f1 i).col < nc) : ∀ i, i < n0 + n1 → 0 ≤ (catB f0 n0 f1 i).col ∧ (catB f0 n0 f1 i).col < nc := by
  intro i hi
  unfold catB
  by_cases e : i < n0
  · rw [if_pos e]; exact h0 i e
  · rw [if_neg e]; exact h1 _ (by omega)
/-- What a call that makes a plan comes to. -/
def PlanTo (w : World) (n : Nat) (f : Nat → PPart) (e : Ending) (w' : World) : Prop := ∃ g c, e = .returned (.slice (some ⟨g, 0, none⟩) n c) ∧ w'.ownsRow w.heap.size 39 4 (.slice (some ⟨g, 0, none⟩) n c) n (rowG (encQ f) n) ∧ Below w.heap.size w w'
theorem own_low {W : World} {base base' T c N : Nat} {v : Value} {xs : List Value} (h : W.ownsRow base T c v N xs) (hb : base' ≤ base) : W.ownsRow base' T c v N xs := by
  refine ⟨h.1, ?_⟩
  rcases h.2 with ⟨e, h0⟩ | ⟨g, k, cur, e, hb0, hr⟩
  · exact .inl ⟨e, h0⟩
  · exact .inr ⟨g, k, cur, e, by omega, hr⟩
theorem PlanTo.low {w w0 w' : World} {n : Nat} {f : Nat → PPart} {e : Ending} (h : PlanTo w n f e w') (hb : Below w0.heap.size w0 w) : PlanTo w0 n f e w' := by
  obtain ⟨g, c, he, hO, hB⟩ := h
  exact ⟨g, c, he, own_low hO hb.size, hb.trans (hB.mono hb.size)⟩
theorem PlanTo.nil (w : World) (f : Nat → PPart) : PlanTo w 0 f (.returned (.slice (some ⟨w.heap.size, 0, none⟩) 0 0)) (w.alloc (.cells #[] 39)) := ⟨_, _, rfl, own_nil11 w f, (Below.refl _ _).alloc (Nat.le_refl _) _⟩
end Go.Proofs.YtjoimkfpenbkmaaGreatDoor

/-
  A cell of a row of the call's own is set.
-/
namespace Go.Proofs.YtjoimkfpenbkmaaGreatDoor
open Go.RowKit
set_option maxRecDepth 4000

theorem own_setG {W : World} {base T c N b cap : Nat} {enc enc' : Nat → List Value} (he : ∀ i, (enc i).length = c) (he' : ∀ i, (enc' i).length = c) (h : W.ownsRow base T c (.slice (some ⟨b, 0, none⟩) N cap) N (rowG enc N)) {i j : Nat} {u : Value} (hi : i < N) (hj : j < c) (hn : (enc' i)[j]? = some u) (ho : ∀ i' j', i' ≠ i ∨ j' ≠ j → (enc' i')[j']? = (enc i')[j']?) :
    (W.setCell ⟨b, i * c + j, none⟩ u).ownsRow base T c (.slice (some ⟨b, 0, none⟩) N cap) N (rowG enc' N) := by
  refine ⟨rowG_len he' N, .inr ?_⟩
  rcases h.2 with ⟨e, _⟩ | ⟨g, k, cur, e, hb, hg, h1, h2, h3, h4⟩
  · cases e
  cases e
  refine ⟨b, cap, cur.setIfInBounds (i * c + j) u, rfl, hb, ?_, h1, h2, by simpa using h3, ?_⟩
  · simp [World.setCell, Array.getElem?_modify, hg]
  · have hc : 0 < c := by omega
    have hmul : N * c ≤ cap * c := Nat.mul_le_mul_right _ h1
    have hij : i * c + j < N * c := by
      have : (i + 1) * c ≤ N * c := Nat.mul_le_mul_right _ hi
      rw [Nat.add_mul] at this; omega
    refine List.ext_getElem? (fun q => ?_)
    by_cases hq : q < N * c
    · have hd : q = (q / c) * c + q % c := by rw [Nat.mul_comm]; exact (Nat.div_add_mod q c).symm
      have hqi : q / c < N := (Nat.div_lt_iff_lt_mul hc).2 hq
      have hqj : q % c < c := Nat.mod_lt _ hc
      rw [List.getElem?_take, if_pos hq]
      have e1 : (rowG enc' N)[q]? = (enc' (q / c))[q % c]? := by
        have := rowG_get he' N (q / c) (q % c) hqi hqj
        rw [← hd] at this; exact this
      have e2 : (rowG enc N)[q]? = (enc (q / c))[q % c]? := by
        have := rowG_get he N (q / c) (q % c) hqi hqj
        rw [← hd] at this; exact this
      rw [← h4, List.getElem?_take, if_pos hq] at e2
      rw [e1]
      by_cases hx : q = i * c + j
      · have e3 : q / c = i := by
          subst hx
          rw [Nat.mul_comm, Nat.mul_add_div hc, Nat.div_eq_of_lt hj]; omega
        have e4 : q % c = j := by
          subst hx
          rw [Nat.mul_comm, Nat.mul_add_mod, Nat.mod_eq_of_lt hj]
        rw [e3, e4, hn, hx, Array.getElem?_toList, Array.getElem?_setIfInBounds, if_pos rfl, if_pos (by omega)]
      · rw [ho (q / c) (q % c) (by
          by_cases e3 : q / c = i
          · right; intro e4; exact hx (by rw [hd, e3, e4])
          · exact .inl e3), ← e2]
        simp [Ne.symm hx]
    · rw [List.getElem?_eq_none (by simp; omega), List.getElem?_eq_none (by rw [rowG_len he']; omega)]
theorem own_fz9 {W : World} {base T c N b cap : Nat} {xs : List Value} (h : W.ownsRow base T c (.slice (some ⟨b, 0, none⟩) N cap) N xs) (q : Nat) : W.frozen? ⟨b, q, none⟩ = false := by
  rcases h.2 with ⟨e, _⟩ | ⟨g, k, cur, e, hb, hg, _⟩
  · cases e
  · cases e
    simp [World.frozen?, hg]
/-- Cells by the element and the place in it. -/
def encF (c : Nat) (F : Nat → Nat → Value) (i : Nat) : List Value := (List.range c).map (F i)
theorem encF_len (c : Nat) (F : Nat → Nat → Value) (i : Nat) : (encF c F i).length = c := by simp [encF]
theorem encF_at {c : Nat} {F : Nat → Nat → Value} {i j : Nat} (h : j < c) : (encF c F i)[j]? = some (F i j) := by simp [encF, h]
def setF (F : Nat → Nat → Value) (i j : Nat) (u : Value) : Nat → Nat → Value := fun a b => if a = i ∧ b = j then u else F a b
theorem own_setF {W : World} {base T c N b cap : Nat} {F : Nat → Nat → Value} (h : W.ownsRow base T c (.slice (some ⟨b, 0, none⟩) N cap) N (rowG (encF c F) N)) {i j : Nat} (u : Value) (hi : i < N) (hj : j < c) :
    (W.setCell ⟨b, i * c + j, none⟩ u).ownsRow base T c (.slice (some ⟨b, 0, none⟩) N cap) N (rowG (encF c (setF F i j u)) N) := by
  refine own_setG (encF_len c F) (encF_len c _) h hi hj ?_ (fun i' j' hne => ?_)
  · rw [encF_at hj]; simp [setF]
  · by_cases e : j' < c
    · rw [encF_at e, encF_at e]
      have : ¬ (i' = i ∧ j' = j) := by omega
      simp [setF, this]
    · rw [List.getElem?_eq_none (by rw [encF_len]; omega), List.getElem?_eq_none (by rw [encF_len]; omega)]
theorem own_cellF {W : World} {base T c N b cap : Nat} {F : Nat → Nat → Value} (h : W.ownsRow base T c (.slice (some ⟨b, 0, none⟩) N cap) N (rowG (encF c F) N)) {i j : Nat} (hi : i < N) (hj : j < c) : W.cell? ⟨b, i * c + j, none⟩ = some (F i j) := by
  obtain ⟨a, k, e, -, h1⟩ := own_cells (encF_len c F) h
  cases e
  obtain ⟨g, ea, -, -, -, hc⟩ := h1 (by omega)
  cases ea
  have := hc i j _ hi (encF_at hj)
  simpa using this
theorem own_congrF {W : World} {base T c N : Nat} {v : Value} {F G : Nat → Nat → Value} (h : W.ownsRow base T c v N (rowG (encF c F) N)) (e : ∀ i j, i < N → j < c → F i j = G i j) : W.ownsRow base T c v N (rowG (encF c G) N) := by
  have : rowG (encF c F) N = rowG (encF c G) N := rowG_congr (fun i hi => by
    unfold encF
    exact List.map_congr_left (fun j hj => e i j hi (List.mem_range.1 hj)))
  rw [← this]; exact h
theorem own_eqF {W : World} {base T c N : Nat} {v : Value} {enc : Nat → List Value} {F : Nat → Nat → Value} (e : ∀ i, i < N → enc i = encF c F i) : W.ownsRow base T c v N (rowG enc N) ↔ W.ownsRow base T c v N (rowG (encF c F) N) := by
  rw [rowG_congr e]
theorem own_blkne {W : World} {base T c N b cap : Nat} {xs : List Value} (h : W.ownsRow base T c (.slice (some ⟨b, 0, none⟩) N cap) N xs) : b < W.heap.size := by
  rcases h.2 with ⟨e, _⟩ | ⟨g, k, cur, e, hb, hg, _⟩
  · cases e
  · cases e; exact (Array.getElem?_eq_some_iff.1 hg).1
end Go.Proofs.YtjoimkfpenbkmaaGreatDoor

/-
  What the law's own helpers markPartS, heldPartS come to on a row of the call's own.
-/
namespace Go.Proofs.YtjoimkfpenbkmaaGreatDoor
open Go.RowKit
set_option maxRecDepth 4000

theorem But.put11 {g : Nat} {W W' : World} (h : But g W W') (i : Nat) (u : Value) : But g W (W'.setCell ⟨g, i, none⟩ u) :=
  h.trans ⟨rfl, rfl, rfl, by simp, fun k _ hk => Below.heap_setCell _ _ _ _ hk⟩

def mB11 (m : Int) : Bool := m % 3 == 0
def mkdQ (k : Int) (i : Nat) : PPart := ⟨k + 4 * i, k + 4 * i + 1, mB11 (k + 4 * i + 1 + 1), mB11 (k + 4 * i + 1 + 1 + 1)⟩
def cellQ (f : Nat → PPart) (i j : Nat) : Value := if j = 0 then .int .i64 (f i).col else if j = 1 then .int .i64 (f i).type else if j = 2 then .bool (f i).null else .bool (f i).desc
theorem encQ_F (f : Nat → PPart) (i : Nat) : encQ f i = encF 4 (cellQ f) i := rfl

set_option maxHeartbeats 2000000 in
theorem markPartS_own (base b n cap : Nat) (f : Nat → PPart) (k : Int) (w : World) (hO : w.ownsRow base 39 4 (.slice (some ⟨b, 0, none⟩) n cap) n (rowG (encQ f) n)) (hk : 0 ≤ k) (hk1 : k + 4 * n ≤ 4611686018427387904) :
    Calls Tryz.prog 38 #[.slice (some ⟨b, 0, none⟩) n cap, .int .i64 k] w fun e w' => e = .returned (.int .i64 (k + 4 * n)) ∧ But b w w' ∧ w'.ownsRow base 39 4 (.slice (some ⟨b, 0, none⟩) n cap) n (rowG (encQ (mkdQ k)) n) := by
  have hO' := (own_eqF (fun i _ => encQ_F f i)).1 hO
  clear hO
  go_enter Tryz.func38, Tryz.ntmps38
  go_wp2
  go_loopg [1, 5] n (fun g s i wr => ∃ j : Nat, j ≤ n ∧ g = n - j ∧ s = .int .i64 (k + 4 * j) ∧ i = .int .i64 j ∧ But b w wr ∧ wr.ownsRow base 39 4 (.slice (some ⟨b, 0, none⟩) n cap) n (rowG (encF 4 (fun i c => if i < j then cellQ (mkdQ k) i c else cellQ f i c)) n))
  case atStart => exact ⟨0, Nat.zero_le _, rfl, by simp, rfl, But.refl _ _, own_congrF hO' (fun i j _ _ => by simp)⟩
  case round =>
    clear hO'
    obtain ⟨j, hj, rfl, rfl, rfl, hB, hO⟩ := hrel
    by_cases hlt : j < n
    · have hjz : (j : Int) < (n : Int) := by omega
      have z0 := own_cellF hO hlt (show 0 < 4 by decide)
      have z1 := own_cellF hO hlt (show 1 < 4 by decide)
      have z2 := own_cellF hO hlt (show 2 < 4 by decide)
      have z3 := own_cellF hO hlt (show 3 < 4 by decide)
      have f0 := own_fz9 hO (j * 4)
      have f1 := own_fz9 hO (j * 4 + 1)
      have f2 := own_fz9 hO (j * 4 + 2)
      have f3 := own_fz9 hO (j * 4 + 3)
      simp only [Nat.lt_irrefl, if_false, Nat.add_zero] at z0 z1 z2 z3
      have S0 := own_setF hO (.int .i64 (k + 4 * j)) hlt (show 0 < 4 by decide)
      have S1 := own_setF S0 (.int .i64 (k + 4 * j + 1)) hlt (show 1 < 4 by decide)
      have S2 := own_setF S1 (.bool ((k + 4 * (j : Int) + 1 + 1) % 3 == 0)) hlt (show 2 < 4 by decide)
      have S3 := own_setF S2 (.bool ((k + 4 * (j : Int) + 1 + 1 + 1) % 3 == 0)) hlt (show 3 < 4 by decide)
      rw [Nat.add_zero] at S3
      have HS : Hid (But b w ((((wr.setCell ⟨b, j * 4, none⟩ (.int .i64 (k + 4 * j))).setCell ⟨b, j * 4 + 1, none⟩ (.int .i64 (k + 4 * j + 1))).setCell ⟨b, j * 4 + 2, none⟩ (.bool ((k + 4 * (j : Int) + 1 + 1) % 3 == 0))).setCell ⟨b, j * 4 + 3, none⟩ (.bool ((k + 4 * (j : Int) + 1 + 1 + 1) % 3 == 0))) ∧ ((((wr.setCell ⟨b, j * 4, none⟩ (.int .i64 (k + 4 * j))).setCell ⟨b, j * 4 + 1, none⟩ (.int .i64 (k + 4 * j + 1))).setCell ⟨b, j * 4 + 2, none⟩ (.bool ((k + 4 * (j : Int) + 1 + 1) % 3 == 0))).setCell ⟨b, j * 4 + 3, none⟩ (.bool ((k + 4 * (j : Int) + 1 + 1 + 1) % 3 == 0))).ownsRow base 39 4 (.slice (some ⟨b, 0, none⟩) n cap) n (rowG (encF 4 (fun i c => if i < j + 1 then cellQ (mkdQ k) i c else cellQ f i c)) n)) := by
        refine ⟨(((hB.put11 _ _).put11 _ _).put11 _ _).put11 _ _, own_congrF S3 (fun i c hi hc => ?_)⟩
        by_cases e : i = j
        · subst e
          have hc' : c = 0 ∨ c = 1 ∨ c = 2 ∨ c = 3 := by omega
          rcases hc' with rfl | rfl | rfl | rfl <;> simp [setF, cellQ, mkdQ, mB11]
        · have h1 : (i < j + 1) = (i < j) := by simp; omega
          simp [setF, e, h1]
      clear hO hB S0 S1 S2 S3
      go_wp2
      go_roundg (n - (j + 1))
      case measure => omega
      case rel => exact ⟨j + 1, by omega, rfl, by go_num, by go_num, HS.out.1, HS.out.2⟩
    · obtain rfl : j = n := by omega
      have hF : Hid (wr.ownsRow base 39 4 (.slice (some ⟨b, 0, none⟩) j cap) j (rowG (encQ (mkdQ k)) j)) := (own_eqF (fun i _ => encQ_F (mkdQ k) i)).2 (own_congrF hO (fun i c hi _ => by simp [hi]))
      clear hO
      go_wp2
      go_ret
      exact ⟨rfl, hB, hF.out⟩

set_option maxHeartbeats 2000000 in
theorem heldPartS_any (ao : Option Addr) (n cap : Nat) (k : Int) (w : World) (hv : QView w ao n cap (mkdQ k)) (hk : 0 ≤ k) (hk1 : k + 4 * n ≤ 4611686018427387904) :
    Calls Tryz.prog 39 #[.slice ao n cap, .int .i64 k] w fun e w' => e = .returned (.int .i64 (k + 4 * n)) ∧ Below w.heap.size w w' := by
  go_enter Tryz.func39, Tryz.ntmps39
  go_wp2
  go_loopg [1, 5] n (fun g s i wr => ∃ j : Nat, j ≤ n ∧ g = n - j ∧ s = .int .i64 (k + 4 * j) ∧ i = .int .i64 j ∧ Below w.heap.size w wr)
  case atStart => exact ⟨0, Nat.zero_le _, rfl, by simp, rfl, Below.refl _ _⟩
  case round =>
    obtain ⟨j, hj, rfl, rfl, rfl, hB⟩ := hrel
    by_cases hlt : j < n
    · obtain ⟨b, off, rfl, hb, hc⟩ := (hv.below hB).cells (by omega)
      have hjz : (j : Int) < (n : Int) := by omega
      obtain ⟨x0, x1, x2, x3⟩ := hc j hlt
      have x0' : wr.cell? ⟨b, off + j * 4, none⟩ = some (.int .i64 (k + 4 * j)) := x0
      have x1' : wr.cell? ⟨b, off + j * 4 + 1, none⟩ = some (.int .i64 (k + 4 * j + 1)) := x1
      have x2' : wr.cell? ⟨b, off + j * 4 + 2, none⟩ = some (.bool ((k + 4 * (j : Int) + 1 + 1) % 3 == 0)) := x2
      have x3' : wr.cell? ⟨b, off + j * 4 + 3, none⟩ = some (.bool ((k + 4 * (j : Int) + 1 + 1 + 1) % 3 == 0)) := x3
      clear hc hv x0 x1 x2 x3
      go_wp2
      go_roundg (n - (j + 1))
      case measure => omega
      case rel => exact ⟨j + 1, by omega, rfl, by go_num, by go_num, hB⟩
    · obtain rfl : j = n := by omega
      clear hv
      go_wp2
      go_ret
      exact ⟨rfl, hB⟩
end Go.Proofs.YtjoimkfpenbkmaaGreatDoor

/-
  What an exact law of a plan carries from call to call.
-/
namespace Go.Proofs.YtjoimkfpenbkmaaGreatDoor
open Go.RowKit
set_option maxRecDepth 4000

/-- The argument's variable, and the row that the model answered. -/
structure Car0 (w : World) (A : Obj) (gw cw n : Nat) (f : Nat → PPart) (W : World) : Prop where
  box : Below (w.heap.size + 1) (w.alloc A) W
  own : W.ownsRow (w.heap.size + 1) 39 4 (.slice (some ⟨gw, 0, none⟩) n cw) n (rowG (encQ f) n)
theorem Car0.below {w : World} {A : Obj} {gw cw n : Nat} {f : Nat → PPart} {W W' : World} (h : Car0 w A gw cw n f W) (hb : Below W.heap.size W W') : Car0 w A gw cw n f W' :=
  ⟨box4_on h.box hb, own_belowG h.own hb⟩
theorem own_gt {W : World} {base T c N g k : Nat} {xs : List Value} (h : W.ownsRow base T c (.slice (some ⟨g, 0, none⟩) N k) N xs) : g < W.heap.size := by
  rcases h.2 with ⟨e, _⟩ | ⟨g', k', cur, e, _, hg, _⟩
  · cases e
  · cases e
    exact (Array.getElem?_eq_some_iff.1 hg).1
theorem own_but11 {W W' : World} {base T c N g k b : Nat} {xs : List Value} (h : W.ownsRow base T c (.slice (some ⟨g, 0, none⟩) N k) N xs) (hb : But b W W') (hne : g ≠ b) : W'.ownsRow base T c (.slice (some ⟨g, 0, none⟩) N k) N xs := by
  refine ⟨h.1, ?_⟩
  rcases h.2 with ⟨e, h0⟩ | ⟨g', k', cur, e, hb0, hg, hr⟩
  · cases e
  · cases e
    exact .inr ⟨g, k, cur, rfl, hb0, (hb.block g (Array.getElem?_eq_some_iff.1 hg).1 hne).trans hg, hr⟩
/-- .. and the row that the program answered, and the copy's variable. -/
structure Car1 (w : World) (A : Obj) (gw cw n : Nat) (f : Nat → PPart) (X : Nat) (y0 y1 y2 y3 : Value) (gg cg : Nat) (fg : Nat → PPart) (W : World) : Prop where
  car : Car0 w A gw cw n f W
  var : V4 W X 28 y0 y1 y2 y3
  own : W.ownsRow (w.heap.size + 1) 39 4 (.slice (some ⟨gg, 0, none⟩) n cg) n (rowG (encQ fg) n)
  ne : gw ≠ gg
theorem Car1.below {w : World} {A : Obj} {gw cw n : Nat} {f : Nat → PPart} {X : Nat} {y0 y1 y2 y3 : Value} {gg cg : Nat} {fg : Nat → PPart} {W W' : World} (h : Car1 w A gw cw n f X y0 y1 y2 y3 gg cg fg W) (hb : Below W.heap.size W W') : Car1 w A gw cw n f X y0 y1 y2 y3 gg cg fg W' :=
  ⟨h.car.below hb, h.var.below hb, own_belowG h.own hb, h.ne⟩
theorem s3_part : ¬ S3 39 := by rintro (h | h | h) <;> exact absurd h (by decide)
theorem s3_def : ¬ S3 28 := by rintro (h | h | h) <;> exact absurd h (by decide)
theorem Car1.marked {w : World} {A : Obj} {gw cw n : Nat} {f : Nat → PPart} {X : Nat} {y0 y1 y2 y3 : Value} {gg cg : Nat} {fg : Nat → PPart} {B : Nat} {W W' : World} (h : Car1 w A gw cw n f X y0 y1 y2 y3 gg cg fg W) (hm : Mk S3 B W W') (hB : w.heap.size + 1 ≤ B) : Car1 w A gw cw n f X y0 y1 y2 y3 gg cg fg W' := by
  have hs := (box4_below h.car.box).2
  refine ⟨⟨h.car.box.trans (hm.below hB hs), own_mk h.car.own hm s3_part⟩, ?_, own_mk h.own hm s3_part, h.ne⟩
  obtain ⟨c, hb, hc⟩ := h.var
  exact ⟨c, (hm.other _ _ _ _ hb s3_def).trans hb, hc⟩
/-- The row that the program answered is marked: the rest is as it was. -/
theorem Car1.put {w : World} {A : Obj} {gw cw n : Nat} {f : Nat → PPart} {X : Nat} {y0 y1 y2 y3 : Value} {gg cg : Nat} {fg fg' : Nat → PPart} {W W' : World} (h : Car1 w A gw cw n f X y0 y1 y2 y3 gg cg fg W) (hb : But gg W W') (hO : W'.ownsRow (w.heap.size + 1) 39 4 (.slice (some ⟨gg, 0, none⟩) n cg) n (rowG (encQ fg') n)) (hX : X ≠ gg) : Car1 w A gw cw n f X y0 y1 y2 y3 gg cg fg' W' := by
  have hs := (box4_below h.car.box).2
  have hg : w.heap.size + 1 ≤ gg := own_ge9 h.own gg (by simp [Value.ownBlock])
  exact ⟨⟨h.car.box.trans (hb.below hg hs), own_but11 h.car.own hb h.ne⟩, h.var.block (hb.block X h.var.lt hX), hO, h.ne⟩
theorem priN_le (D : PDef) : priN D ≤ 6 := by
  unfold priN
  split
  · rename_i h; have := partsF_two (good_pri h); omega
  · omega
theorem rowN_le (D : PDef) : rowN D ≤ 6 := by
  unfold rowN
  split
  · rename_i h; exact (good_nc h).2.2
  · omega
theorem idxN_le (D : PDef) (i : Int) : idxN D i ≤ 6 := by
  unfold idxN
  split
  · rename_i h
    have h1 := partsF_two (good_pri h.1)
    have h2 := partsF_two (good_idx h.1 (i := i.toNat) (by omega))
    omega
  · omega
end Go.Proofs.YtjoimkfpenbkmaaGreatDoor

/-
  The model's l8Name: whether a text is a name.
-/
namespace Go.Proofs.YtjoimkfpenbkmaaGreatDoor
open Go.RowKit
set_option maxRecDepth 4000

theorem l1In_tok (x l m : Int) (w : World) :
    Calls Tryz.prog 88 #[.int .i64 x, .int .i64 l, .int .i64 m] w fun e w' => e = .returned (.bool (decide (l ≤ x) && decide (x ≤ m))) ∧ w = w' := by
  go_enter Tryz.func88, Tryz.ntmps88
  by_cases h : l ≤ x
  · have e1 : decide (l ≤ x) = true := by simpa using h
    go_wp2
    go_ret
    exact ⟨by simp [h], rfl⟩
  · have e1 : decide (l ≤ x) = false := by simpa using h
    go_wp2
    go_ret
    exact ⟨by simp, rfl⟩

theorem l8Small_any (c : Int) (w : World) (h0 : 0 ≤ c) (h1 : c ≤ 255) :
    Calls Tryz.prog 179 #[.int .u8 c] w fun e w' => e = .returned (.bool (small c)) ∧ w = w' := by
  have e : small c = (decide (97 ≤ c) && decide (c ≤ 122)) := by unfold small; simp
  rw [e]
  go_enter Tryz.func179, Tryz.ntmps179
  go_wp2_with fail
  refine (l1In_tok c 97 122 w).mono ?_
  rintro e w2 ⟨rfl, rfl⟩
  go_wp2
  go_ret
  exact ⟨rfl, rfl⟩
theorem l2Digit_tok (c : Int) (w : World) (h0 : 0 ≤ c) (h1 : c ≤ 255) :
    Calls Tryz.prog 180 #[.int .u8 c] w fun e w' => e = .returned (.bool (digit c)) ∧ w = w' := by
  have e : digit c = (decide (48 ≤ c) && decide (c ≤ 57)) := by unfold digit; simp
  rw [e]
  go_enter Tryz.func180, Tryz.ntmps180
  go_wp2_with fail
  refine (l1In_tok c 48 57 w).mono ?_
  rintro e w2 ⟨rfl, rfl⟩
  go_wp2
  go_ret
  exact ⟨rfl, rfl⟩

set_option maxHeartbeats 1000000 in
theorem l8Name_any (s : ByteArray) (w : World) (hs : s.size ≤ 281474976710656) :
    Calls Tryz.prog 146 #[.string s] w fun e w' => e = .returned (.bool (nameOk s)) ∧ w = w' := by
  go_enter Tryz.func146, Tryz.ntmps146
  go_wp2
  go_loopg [3] s.size (fun q i wr => ∃ k : Nat, k ≤ s.size ∧ q = s.size - k ∧ i = .int .i64 k ∧ wr = w ∧ (0 < k → small (bt s 0) = true) ∧ ∀ j, j < k → inName (bt s j) = true)
  case atStart => exact ⟨0, Nat.zero_le _, rfl, rfl, rfl, fun h => absurd h (Nat.lt_irrefl _), fun j hj => absurd hj (Nat.not_lt_zero _)⟩
  case round =>
    obtain ⟨k, hk, rfl, rfl, rfl, hs0, hall⟩ := hrel
    have HA : Hid ((0 < k → small (bt s 0) = true) ∧ ∀ j, j < k → inName (bt s j) = true) := ⟨hs0, hall⟩
    clear hs0 hall
    by_cases hlt : k < s.size
    · have hkz : (k : Int) < (s.size : Int) := by omega
      have hc := bt_at hlt
      have hbd := bt_bd s k
      obtain ⟨c, hcc⟩ : ∃ c, Hid (bt s k = c) := ⟨_, rfl⟩
      rw [hcc.out] at hc hbd
      have hS := l8Small_any c wr hbd.1 hbd.2
      have hD := l2Digit_tok c wr hbd.1 hbd.2
      go_wp2_with (rw [hc])
      refine hS.mono ?_
      cases hsm : small c with
      | true =>
        rintro e _ ⟨rfl, rfl⟩
        have HN : Hid ((0 < k + 1 → small (bt s 0) = true) ∧ ∀ j, j < k + 1 → inName (bt s j) = true) := by
          refine ⟨fun _ => ?_, fun j hj => ?_⟩
          · by_cases h0 : k = 0
            · subst h0; rw [hcc.out]; exact hsm
            · exact HA.out.1 (by omega)
          · by_cases e : j < k
            · exact HA.out.2 j e
            · obtain rfl : j = k := by omega
              rw [hcc.out]; unfold inName; rw [hsm]; rfl
        clear hS hD
        go_wp2
        go_roundg (s.size - (k + 1))
        case measure => omega
        case rel => exact ⟨k + 1, by omega, rfl, by go_num, rfl, HN.out.1, HN.out.2⟩
      | false =>
        rintro e _ ⟨rfl, rfl⟩
        by_cases h0 : k = 0
        · subst h0
          have HF : Hid (nameOk s = false) := by
            show _ = _
            unfold nameOk
            apply decide_eq_false
            rintro ⟨-, -, h, -⟩
            rw [hcc.out, hsm] at h; cases h
          clear hS hD
          go_wp2
          go_ret
          exact ⟨by rw [HF.out]; rfl, rfl⟩
        · have h0z : ((k : Int) == 0) = false := by simpa using h0
          clear hS
          go_wp2_with (rw [hc])
          refine hD.mono ?_
          cases hdg : digit c with
          | true =>
            rintro e _ ⟨rfl, rfl⟩
            have HN : Hid ((0 < k + 1 → small (bt s 0) = true) ∧ ∀ j, j < k + 1 → inName (bt s j) = true) := by
              refine ⟨fun _ => HA.out.1 (by omega), fun j hj => ?_⟩
              by_cases e : j < k
              · exact HA.out.2 j e
              · obtain rfl : j = k := by omega
                rw [hcc.out]; unfold inName; rw [hdg]; simp
            clear hD
            go_wp2
            go_roundg (s.size - (k + 1))
            case measure => omega
            case rel => exact ⟨k + 1, by omega, rfl, by go_num, rfl, HN.out.1, HN.out.2⟩
          | false =>
            rintro e _ ⟨rfl, rfl⟩
            have HF : Hid (nameOk s = false) := by
              show _ = _
              unfold nameOk
              apply decide_eq_false
              rintro ⟨-, -, -, h⟩
              have := h k hlt
              rw [hcc.out] at this
              unfold inName at this
              rw [hsm, hdg] at this; cases this
            clear hD
            go_wp2
            go_ret
            exact ⟨by rw [HF.out]; rfl, rfl⟩
    · have hkz : ¬ (k : Int) < (s.size : Int) := by omega
      obtain rfl : k = s.size := by omega
      have HF : Hid (nameOk s = (decide ((1 : Int) ≤ (s.size : Int)) && decide ((s.size : Int) ≤ 8))) := by
        show _ = _
        unfold nameOk
        by_cases h1 : 1 ≤ s.size
        · by_cases h2 : s.size ≤ 8
          · rw [decide_eq_true ⟨h1, h2, HA.out.1 (by omega), HA.out.2⟩]
            simp; omega
          · rw [decide_eq_false (fun h => h2 h.2.1)]
            simp; omega
        · rw [decide_eq_false (fun h => h1 h.1)]
          simp; omega
      go_wp2_with fail
      refine (l1In_tok _ 1 8 wr).mono ?_
      rintro e _ ⟨rfl, rfl⟩
      go_wp2
      go_ret
      exact ⟨by rw [HF.out]; rfl, rfl⟩

end Go.Proofs.YtjoimkfpenbkmaaGreatDoor

