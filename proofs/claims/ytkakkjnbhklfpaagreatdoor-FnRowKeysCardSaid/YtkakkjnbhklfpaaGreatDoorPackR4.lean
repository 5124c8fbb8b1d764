/-
  Together: RowG, PView, PartRow, StrRow, NamesImpl, PlanKit, RowUpd, GrowBy, PlanPlain11
-/
import Derived.Test.YtkakkjnbhklfpaaGreatDoorPackR3
import Derived.Test.YtkakkjnbhklfpaaGreatDoorPackR1
import Derived.Test.YtkakkjnbhklfpaaGreatDoorProg
import Derived.Deep.LoopGhost
import Derived.Lib.AppendZeros
/-
  Rows of the call's own whose elements have several cells, by a function of the index.
-/
namespace Go.Proofs.YtkakkjnbhklfpaaGreatDoor
open Go.RowKit
set_option maxRecDepth 4000

/-- The cells of the first k elements. -/
def rowG (enc : Nat → List Value) : Nat → List Value
  | 0 => []
  | k + 1 => rowG enc k ++ enc k
theorem rowG_len {enc : Nat → List Value} {c : Nat} (h : ∀ i, (enc i).length = c) : ∀ k, (rowG enc k).length = k * c
  | 0 => by rw [Nat.zero_mul]; rfl
  | k + 1 => by rw [rowG, List.length_append, rowG_len h k, h k, Nat.add_mul]; omega
theorem rowG_get {enc : Nat → List Value} {c : Nat} (h : ∀ i, (enc i).length = c) : ∀ k i j, i < k → j < c → (rowG enc k)[i * c + j]? = (enc i)[j]?
  | k + 1, i, j, hi, hj => by
    have hl := rowG_len h k
    by_cases e : i < k
    · have : i * c + j < k * c := by
        have : (i + 1) * c ≤ k * c := Nat.mul_le_mul_right _ e
        rw [Nat.add_mul] at this; omega
      rw [rowG, List.getElem?_append_left (by omega)]
      exact rowG_get h k i j e hj
    · obtain rfl : i = k := by omega
      rw [rowG, List.getElem?_append_right (by omega), hl]
      congr 1; omega
theorem rowG_congr {enc enc' : Nat → List Value} : ∀ {k : Nat}, (∀ i, i < k → enc i = enc' i) → rowG enc k = rowG enc' k
  | 0, _ => rfl
  | k + 1, e => by rw [rowG, rowG, rowG_congr (fun i hi => e i (by omega)), e k (by omega)]

/-- The cells of a row of the call's own. -/
theorem own_cells {w : World} {base T c N : Nat} {v : Value} {enc : Nat → List Value} (he : ∀ i, (enc i).length = c) (h : w.ownsRow base T c v N (rowG enc N)) :
    ∃ a k, v = .slice a N k ∧ N ≤ k ∧ (0 < N → ∃ g, a = some ⟨g, 0, none⟩ ∧ base ≤ g ∧ v.ownBlock = some g ∧ g < w.heap.size ∧ ∀ i j u, i < N → (enc i)[j]? = some u → w.cell? ⟨g, 0 + i * c + j, none⟩ = some u) := by
  obtain ⟨hl, h⟩ := h
  rcases h with ⟨rfl, h0⟩ | ⟨g, k, cur, rfl, hb, hg, hnc, _, hcs, ht⟩
  · have hN : N = 0 := by
      rw [rowG_len he] at hl
      have := h0
      rcases Nat.eq_zero_or_pos N with h | h
      · exact h
      · omega
    subst hN
    exact ⟨none, 0, rfl, Nat.le_refl _, fun hn => absurd hn (Nat.lt_irrefl _)⟩
  · refine ⟨_, k, rfl, hnc, fun _ => ⟨g, rfl, hb, rfl, (Array.getElem?_eq_some_iff.1 hg).1, fun i j u hi hj => ?_⟩⟩
    have hj' : j < c := by
      have := (List.getElem?_eq_some_iff.1 hj).1
      rw [he] at this; exact this
    have hlt : i * c + j < N * c := by
      have : (i + 1) * c ≤ N * c := Nat.mul_le_mul_right _ hi
      rw [Nat.add_mul] at this; omega
    have hx := rowG_get he N i j hi hj'
    rw [hj, ← ht, List.getElem?_take, if_pos hlt] at hx
    simp only [World.cell?, hg, Nat.zero_add]
    simpa using hx

def encB (f : Nat → PBy) (i : Nat) : List Value := [.int .i64 (f i).col, .bool (f i).desc]
def encC (f : Nat → PCol) (i : Nat) : List Value := [.string (f i).name, .int .i64 (f i).type, .bool (f i).null]
def encI (f : Nat → PIdx) (A C : Nat → Nat) (i : Nat) : List Value := [.string (f i).name, .bool (f i).uniq, .slice (some ⟨A i, 0, none⟩) (f i).n (C i)]
theorem bview_of_own {w : World} {base N : Nat} {v : Value} {f : Nat → PBy} (h : w.ownsRow base 67 2 v N (rowG (encB f) N)) : ∃ a k, v = .slice a N k ∧ BView w a N k f ∧ (0 < N → ∃ g, a = some ⟨g, 0, none⟩ ∧ base ≤ g ∧ v.ownBlock = some g) := by
  obtain ⟨a, k, e, hk, h1⟩ := own_cells (c := 2) (fun _ => rfl) h
  refine ⟨a, k, e, ⟨hk, fun hn => ?_⟩, fun hn => ?_⟩
  · obtain ⟨g, ea, -, -, hg, hc⟩ := h1 hn
    exact ⟨g, 0, ea, hg, fun i hi => ⟨by simpa using hc i 0 _ hi rfl, by simpa using hc i 1 _ hi rfl⟩⟩
  · obtain ⟨g, ea, hb, ho, -⟩ := h1 hn
    exact ⟨g, ea, hb, ho⟩
theorem cview_of_own {w : World} {base N : Nat} {v : Value} {f : Nat → PCol} (h : w.ownsRow base 90 3 v N (rowG (encC f) N)) : ∃ a k, v = .slice a N k ∧ CView w a N k f ∧ (0 < N → ∃ g, a = some ⟨g, 0, none⟩ ∧ base ≤ g ∧ v.ownBlock = some g) := by
  obtain ⟨a, k, e, hk, h1⟩ := own_cells (c := 3) (fun _ => rfl) h
  refine ⟨a, k, e, ⟨hk, fun hn => ?_⟩, fun hn => ?_⟩
  · obtain ⟨g, ea, -, -, hg, hc⟩ := h1 hn
    exact ⟨g, 0, ea, hg, fun i hi => ⟨by simpa using hc i 0 _ hi rfl, by simpa using hc i 1 _ hi rfl, by simpa using hc i 2 _ hi rfl⟩⟩
  · obtain ⟨g, ea, hb, ho, -⟩ := h1 hn
    exact ⟨g, ea, hb, ho⟩
theorem iview_of_own {w : World} {base N : Nat} {v : Value} {f : Nat → PIdx} {A C : Nat → Nat} (h : w.ownsRow base 48 3 v N (rowG (encI f A C) N)) (hp : ∀ i, i < N → BView w (some ⟨A i, 0, none⟩) (f i).n (C i) (f i).part) : ∃ a k, v = .slice a N k ∧ IView w a N k f ∧ (0 < N → ∃ g, a = some ⟨g, 0, none⟩ ∧ base ≤ g ∧ v.ownBlock = some g) := by
  obtain ⟨a, k, e, hk, h1⟩ := own_cells (c := 3) (fun _ => rfl) h
  refine ⟨a, k, e, ⟨hk, fun hn => ?_⟩, fun hn => ?_⟩
  · obtain ⟨g, ea, -, -, hg, hc⟩ := h1 hn
    exact ⟨g, 0, ea, hg, fun i hi => ⟨by simpa using hc i 0 _ hi rfl, by simpa using hc i 1 _ hi rfl, _, _, by simpa using hc i 2 _ hi rfl, hp i hi⟩⟩
  · obtain ⟨g, ea, hb, ho, -⟩ := h1 hn
    exact ⟨g, ea, hb, ho⟩
theorem alloc_size9 (W : World) (o : Obj) : (W.alloc o).heap.size = W.heap.size + 1 := by simp
end Go.Proofs.YtkakkjnbhklfpaaGreatDoor

/-
  A slice of parts that reads, by functions of the index, and how that is carried from one world to the next.
-/
namespace Go.Proofs.YtkakkjnbhklfpaaGreatDoor
open Go.RowKit
set_option maxRecDepth 4000

/-- The slice value '.slice ao n cap' reads, in the world w, as n parts. -/
structure PView (w : World) (ao : Option Addr) (n cap : Nat) (fc ft : Nat → Int) (fu fd : Nat → Bool) : Prop where
  le : n ≤ cap
  cells : 0 < n → ∃ b off, ao = some ⟨b, off, none⟩ ∧ b < w.heap.size ∧ ∀ i, i < n → w.cell? ⟨b, off + i * 4, none⟩ = some (.int .i64 (fc i)) ∧ w.cell? ⟨b, off + i * 4 + 1, none⟩ = some (.int .i64 (ft i)) ∧ w.cell? ⟨b, off + i * 4 + 2, none⟩ = some (.bool (fu i)) ∧ w.cell? ⟨b, off + i * 4 + 3, none⟩ = some (.bool (fd i))

theorem PView.below {w w' : World} {ao : Option Addr} {n cap : Nat} {fc ft : Nat → Int} {fu fd : Nat → Bool} (h : PView w ao n cap fc ft fu fd) (hb : Below w.heap.size w w') : PView w' ao n cap fc ft fu fd := by
  refine ⟨h.le, fun hn => ?_⟩
  obtain ⟨b, off, e, hlt, hc⟩ := h.cells hn
  refine ⟨b, off, e, Nat.lt_of_lt_of_le hlt hb.size, fun i hi => ?_⟩
  rw [hb.cell (p := ⟨b, off + i * 4, none⟩) hlt, hb.cell (p := ⟨b, off + i * 4 + 1, none⟩) hlt, hb.cell (p := ⟨b, off + i * 4 + 2, none⟩) hlt, hb.cell (p := ⟨b, off + i * 4 + 3, none⟩) hlt]
  exact hc i hi
end Go.Proofs.YtkakkjnbhklfpaaGreatDoor

/-
  Rows of parts of the call's own, that grow by one part at a time.
-/
namespace Go.Proofs.YtkakkjnbhklfpaaGreatDoor
open Go.RowKit
set_option maxRecDepth 4000

/-- The cells of the first k parts. -/
def rowP (gc gt : Nat → Int) (gu gd : Nat → Bool) : Nat → List Value
  | 0 => []
  | k + 1 => rowP gc gt gu gd k ++ [.int .i64 (gc k), .int .i64 (gt k), .bool (gu k), .bool (gd k)]
theorem rowP_len (gc gt : Nat → Int) (gu gd : Nat → Bool) : ∀ k, (rowP gc gt gu gd k).length = k * 4
  | 0 => rfl
  | k + 1 => by rw [rowP, List.length_append, rowP_len gc gt gu gd k]; simp; omega
theorem rowP_get (gc gt : Nat → Int) (gu gd : Nat → Bool) : ∀ k i, i < k → (rowP gc gt gu gd k)[i * 4]? = some (.int .i64 (gc i)) ∧ (rowP gc gt gu gd k)[i * 4 + 1]? = some (.int .i64 (gt i)) ∧ (rowP gc gt gu gd k)[i * 4 + 2]? = some (.bool (gu i)) ∧ (rowP gc gt gu gd k)[i * 4 + 3]? = some (.bool (gd i))
  | k + 1, i, hi => by
    have hl := rowP_len gc gt gu gd k
    by_cases e : i < k
    · obtain ⟨h1, h2, h3, h4⟩ := rowP_get gc gt gu gd k i e
      rw [rowP, List.getElem?_append_left (by omega), List.getElem?_append_left (by omega), List.getElem?_append_left (by omega), List.getElem?_append_left (by omega)]
      exact ⟨h1, h2, h3, h4⟩
    · obtain rfl : i = k := by omega
      rw [rowP, List.getElem?_append_right (by omega), List.getElem?_append_right (by omega), List.getElem?_append_right (by omega), List.getElem?_append_right (by omega), hl]
      simp [show i * 4 + 1 - i * 4 = 1 by omega, show i * 4 + 2 - i * 4 = 2 by omega, show i * 4 + 3 - i * 4 = 3 by omega]
/-- A row of parts of the call's own reads. -/
theorem pview_of_own {w : World} {base : Nat} {v : Value} {N : Nat} {gc gt : Nat → Int} {gu gd : Nat → Bool} (h : w.ownsRow base 50 4 v N (rowP gc gt gu gd N)) : ∃ a c, v = .slice a N c ∧ PView w a N c gc gt gu gd ∧ (v ≠ .slice none 0 0 → ∃ g, a = some ⟨g, 0, none⟩ ∧ base ≤ g) := by
  obtain ⟨hl, h⟩ := h
  rcases h with ⟨rfl, h0⟩ | ⟨g, c, cur, rfl, hb, hg, hnc, _, hcs, ht⟩
  · have hN : N = 0 := by have := h0; have := rowP_len gc gt gu gd N; omega
    subst hN
    exact ⟨none, 0, rfl, ⟨Nat.le_refl _, fun hn => absurd hn (Nat.lt_irrefl _)⟩, fun hne => absurd rfl hne⟩
  · refine ⟨_, c, rfl, ⟨hnc, fun hn => ⟨g, 0, rfl, ?_, fun i hi => ?_⟩⟩, fun _ => ⟨g, rfl, hb⟩⟩
    · exact (Array.getElem?_eq_some_iff.1 hg).1
    · have key : ∀ j x, j < N * 4 → (rowP gc gt gu gd N)[j]? = some x → w.cell? ⟨g, 0 + j, none⟩ = some x := by
        intro j x hj hx
        rw [← ht, List.getElem?_take, if_pos hj] at hx
        simp only [World.cell?, hg, Nat.zero_add]
        simpa using hx
      obtain ⟨h1, h2, h3, h4⟩ := rowP_get gc gt gu gd N i hi
      have k0 := key _ _ (by omega) h1
      have k1 := key _ _ (by omega) h2
      have k2 := key _ _ (by omega) h3
      have k3 := key _ _ (by omega) h4
      simp only [Nat.zero_add] at k0 k1 k2 k3 ⊢
      exact ⟨k0, k1, k2, k3⟩
end Go.Proofs.YtkakkjnbhklfpaaGreatDoor

/-
  Rows of texts: one that reads, one of the call's own.
-/
namespace Go.Proofs.YtkakkjnbhklfpaaGreatDoor
open Go.RowKit
set_option maxRecDepth 4000

/-- The slice value '.slice ao n cap' reads as n texts. -/
structure SView (w : World) (ao : Option Addr) (n cap : Nat) (f : Nat → ByteArray) : Prop where
  le : n ≤ cap
  cells : 0 < n → ∃ b off, ao = some ⟨b, off, none⟩ ∧ b < w.heap.size ∧ ∀ i, i < n → w.cell? ⟨b, off + i, none⟩ = some (.string (f i))
theorem SView.below {w w' : World} {ao : Option Addr} {n cap : Nat} {f : Nat → ByteArray} (h : SView w ao n cap f) (hb : Below w.heap.size w w') : SView w' ao n cap f := by
  refine ⟨h.le, fun hn => ?_⟩
  obtain ⟨b, off, e, hlt, hc⟩ := h.cells hn
  refine ⟨b, off, e, Nat.lt_of_lt_of_le hlt hb.size, fun i hi => ?_⟩
  rw [hb.cell (p := ⟨b, off + i, none⟩) hlt]
  exact hc i hi
def encS (f : Nat → ByteArray) (i : Nat) : List Value := [.string (f i)]
theorem sview_of_own {w : World} {base N : Nat} {v : Value} {f : Nat → ByteArray} (h : w.ownsRow base 9 1 v N (rowG (encS f) N)) : ∃ a k, v = .slice a N k ∧ SView w a N k f ∧ (0 < N → ∃ g, a = some ⟨g, 0, none⟩ ∧ base ≤ g ∧ v.ownBlock = some g) := by
  obtain ⟨a, k, e, hk, h1⟩ := own_cells (c := 1) (fun _ => rfl) h
  refine ⟨a, k, e, ⟨hk, fun hn => ?_⟩, fun hn => ?_⟩
  · obtain ⟨g, ea, -, -, hg, hc⟩ := h1 hn
    exact ⟨g, 0, ea, hg, fun i hi => by simpa using hc i 0 _ hi rfl⟩
  · obtain ⟨g, ea, hb, ho, -⟩ := h1 hn
    exact ⟨g, ea, hb, ho⟩
theorem infoStr : ∃ i, Tryz.prog.info? 9 = some i ∧ i.zero = some (.string ⟨#[]⟩) ∧ i.size = 1 ∧ i.bytes = 16 := by
  have h : (Tryz.prog.info? 9).map (fun i => (i.zero, i.size, i.bytes)) = some (some (.string ⟨#[]⟩), 1, 16) := by kernel_rfl
  obtain ⟨i, hi, hz⟩ := Option.map_eq_some_iff.1 h
  simp only [Prod.mk.injEq] at hz
  exact ⟨i, hi, hz.1, hz.2.1, hz.2.2⟩
/-- A row of the call's own stays while nothing of what lay is turned. -/
theorem own_belowG {W W' : World} {base T c N : Nat} {v : Value} {xs : List Value} (h : W.ownsRow base T c v N xs) (hb : Below W.heap.size W W') : W'.ownsRow base T c v N xs := by
  refine ⟨h.1, ?_⟩
  rcases h.2 with ⟨e, h0⟩ | ⟨g, k, cur, e, hb0, hg, hr⟩
  · exact .inl ⟨e, h0⟩
  · exact .inr ⟨g, k, cur, e, hb0, (hb.block g (Array.getElem?_eq_some_iff.1 hg).1).trans hg, hr⟩
end Go.Proofs.YtkakkjnbhklfpaaGreatDoor

/-
  The program's colNames, indexNames: the names, in a row of their own.
-/
namespace Go.Proofs.YtkakkjnbhklfpaaGreatDoor
open Go.RowKit
set_option maxRecDepth 4000

theorem own_succ9 {W : World} {base T c k : Nat} {v : Value} {xs : List Value} (h : W.ownsRow base T c v (k + 1) xs) : ∃ g cap, v = .slice (some ⟨g, 0, none⟩) (k + 1) cap := by
  rcases h.2 with ⟨_, h0⟩ | ⟨g, cap, cur, e, _⟩
  · omega
  · exact ⟨g, cap, e⟩
theorem own_ge9 {W : World} {base T c N : Nat} {v : Value} {xs : List Value} (h : W.ownsRow base T c v N xs) : ∀ j, v.ownBlock = some j → base ≤ j := by
  intro j hj
  rcases h.2 with ⟨rfl, _⟩ | ⟨g, cap, cur, rfl, hb, _⟩
  · simp [Value.ownBlock] at hj
  · obtain rfl : g = j := by simpa [Value.ownBlock] using hj
    exact hb

set_option maxHeartbeats 2000000 in
theorem colNames_any (v : Value) (D : PDef) (w : World) (h : DView w v D) (hf : DFine D) :
    Calls Tryz.prog 94 #[v] w fun e w' => ∃ g c, e = .returned (.slice (some ⟨g, 0, none⟩) D.nc c) ∧ w'.ownsRow w.heap.size 9 1 (.slice (some ⟨g, 0, none⟩) D.nc c) D.nc (rowG (encS (fun i => (D.col i).name)) D.nc) ∧ Below w.heap.size w w' := by
  obtain ⟨i0, hi, hz0, hz1, hz2⟩ := infoStr
  have hnc := hf.nc
  clear hf
  obtain ⟨ac, cc, ap, cp, ai, ci, rfl, hcv, hpv, hiv⟩ := h.is
  clear h
  have hbA : Below w.heap.size w (w.alloc (.cells #[.string D.name, .slice ac D.nc cc, .slice ap D.np cp, .slice ai D.ni ci] 36)) := (Below.refl _ _).alloc (Nat.le_refl _) _
  have hbE : Below w.heap.size w ((w.alloc (.cells #[.string D.name, .slice ac D.nc cc, .slice ap D.np cp, .slice ai D.ni ci] 36)).alloc (.cells #[] 9)) := hbA.alloc (by simp) _
  have hO0 : ((w.alloc (.cells #[.string D.name, .slice ac D.nc cc, .slice ap D.np cp, .slice ai D.ni ci] 36)).alloc (.cells #[] 9)).ownsRow w.heap.size 9 1 (.slice (some ⟨w.heap.size + 1, 0, none⟩) 0 0) 0 (rowG (encS (fun i => (D.col i).name)) 0) := by
    have := World.ownsRow_lit (base := w.heap.size) (e := 9) (size := 1) (w.alloc (.cells #[.string D.name, .slice ac D.nc cc, .slice ap D.np cp, .slice ai D.ni ci] 36)) #[] 0 (by simp) (Nat.zero_le _) rfl
    simpa [rowG] using this
  have HV : Hid (CView w ac D.nc cc D.col) := hcv
  go_enter Tryz.func94, Tryz.ntmps94
  go_wp2
  go_loopg [10, 3] D.nc (fun q i s wr => ∃ k : Nat, k ≤ D.nc ∧ q = D.nc - k ∧ i = .int .i64 k ∧ (∃ g c, s = .slice (some ⟨g, 0, none⟩) k c) ∧ wr.ownsRow w.heap.size 9 1 s k (rowG (encS (fun i => (D.col i).name)) k) ∧ Below w.heap.size w wr)
  case atStart => exact ⟨0, Nat.zero_le _, rfl, rfl, ⟨_, _, rfl⟩, hO0, hbE⟩
  case round =>
    clear hO0 hbE hbA hcv hpv hiv
    obtain ⟨k, hk, rfl, rfl, ⟨sa, sc, rfl⟩, hO, hB⟩ := hrel
    by_cases hlt : k < D.nc
    · have hkz : (k : Int) < (D.nc : Int) := by omega
      obtain ⟨b1, o1, rfl, hb1, hcs⟩ := (HV.out.below hB).cells (by omega)
      obtain ⟨x0, x1, x2⟩ := hcs k hlt
      have hsz := hB.size
      have HN : Hid (rowG (encS (fun i => (D.col i).name)) (k + 1) = rowG (encS (fun i => (D.col i).name)) k ++ [.string (D.col k).name]) := rfl
      have HB : Hid (Below w.heap.size w wr) := hB
      obtain ⟨s0, hs0⟩ : ∃ x, Hid ((D.col k).name = x) := ⟨_, rfl⟩
      obtain ⟨R, hR⟩ : ∃ x, Hid (rowG (encS (fun i => (D.col i).name)) k = x) := ⟨_, rfl⟩
      rw [hs0.out] at x0 HN
      rw [hR.out] at HN hO
      obtain ⟨s1, hs1⟩ : ∃ x, Hid ((D.col k).type = x) := ⟨_, rfl⟩
      obtain ⟨s2, hs2⟩ : ∃ x, Hid ((D.col k).null = x) := ⟨_, rfl⟩
      rw [hs1.out] at x1
      rw [hs2.out] at x2
      clear hcs HV hB
      have hb2 : Below wr.heap.size wr ((wr.alloc (.cells #[.string s0, .int .i64 s1, .bool s2] 90)).alloc (.cells #[.string s0] 9)) := ((Below.refl _ _).alloc (Nat.le_refl _) _).alloc (by simp) _
      have hO2 := own_belowG hO hb2
      have hcl : ∀ j u, [Value.string s0][j]? = some u → ((wr.alloc (.cells #[.string s0, .int .i64 s1, .bool s2] 90)).alloc (.cells #[.string s0] 9)).cell? ((⟨wr.heap.size + 1, 0, none⟩ : Addr).add j) = some u := by
        intro j u hj
        match j, hj with
        | 0, hj => simp at hj; subst hj; simp [Addr.add]
      have HBB : Hid (Below wr.heap.size wr ((wr.alloc (.cells #[.string s0, .int .i64 s1, .bool s2] 90)).alloc (.cells #[.string s0] 9))) := hb2
      have HOW := own_ge9 hO
      go_wp2_with (at_builtin; refine wpList_append_own _ rfl (.tmp 14) (.tmp 17) 116 rfl w.heap.size 9 i0 (.string ⟨#[]⟩) 1 16 Tryz.underlying116 hi hz0 hz1 hz2 rfl (by decide) _ _ _ rfl hO2 ⟨wr.heap.size + 1, 0, none⟩ 1 1 [.string s0] rfl rfl hcl (by intro u hu; simp at hu; subst hu; rfl) (by unfold maxLen; omega) (by omega) (by simp; omega) ?_)
      intro v5 w2 hown5 hgr hnil
      obtain ⟨g', cap', rfl⟩ := own_succ9 hown5
      have HR : Hid (w2.ownsRow w.heap.size 9 1 (.slice (some ⟨g', 0, none⟩) (k + 1) cap') (k + 1) (rowG (encS (fun i => (D.col i).name)) (k + 1)) ∧ Below w.heap.size w w2) := by
        refine ⟨?_, ?_⟩
        · rw [HN.out]; exact hown5
        · exact (HB.out.trans (HBB.out.mono hsz)).grown hgr (by simp; omega) HOW
      clear hown5 hgr hnil hO hO2 hcl HOW hb2
      go_wp2
      go_roundg (D.nc - (k + 1))
      case measure => omega
      case rel => exact ⟨k + 1, by omega, rfl, by go_num, ⟨_, _, rfl⟩, HR.out.1, HR.out.2⟩
    · have hkz : ¬ (k : Int) < (D.nc : Int) := by omega
      obtain rfl : k = D.nc := by omega
      have HR : Hid (wr.ownsRow w.heap.size 9 1 (.slice (some ⟨sa, 0, none⟩) D.nc sc) D.nc (rowG (encS (fun i => (D.col i).name)) D.nc) ∧ Below w.heap.size w wr) := ⟨hO, hB⟩
      clear hO hB
      go_wp2
      go_ret
      exact ⟨_, _, rfl, HR.out.1, HR.out.2⟩

set_option maxHeartbeats 2000000 in
theorem indexNames_any (v : Value) (D : PDef) (w : World) (h : DView w v D) (hf : DFine D) :
    Calls Tryz.prog 95 #[v] w fun e w' => ∃ g c, e = .returned (.slice (some ⟨g, 0, none⟩) D.ni c) ∧ w'.ownsRow w.heap.size 9 1 (.slice (some ⟨g, 0, none⟩) D.ni c) D.ni (rowG (encS (fun i => (D.idx i).name)) D.ni) ∧ Below w.heap.size w w' := by
  obtain ⟨i0, hi, hz0, hz1, hz2⟩ := infoStr
  have hnc := hf.ni
  clear hf
  obtain ⟨ac, cc, ap, cp, ai, ci, rfl, hcv, hpv, hiv⟩ := h.is
  clear h
  have hbA : Below w.heap.size w (w.alloc (.cells #[.string D.name, .slice ac D.nc cc, .slice ap D.np cp, .slice ai D.ni ci] 36)) := (Below.refl _ _).alloc (Nat.le_refl _) _
  have hbE : Below w.heap.size w ((w.alloc (.cells #[.string D.name, .slice ac D.nc cc, .slice ap D.np cp, .slice ai D.ni ci] 36)).alloc (.cells #[] 9)) := hbA.alloc (by simp) _
  have hO0 : ((w.alloc (.cells #[.string D.name, .slice ac D.nc cc, .slice ap D.np cp, .slice ai D.ni ci] 36)).alloc (.cells #[] 9)).ownsRow w.heap.size 9 1 (.slice (some ⟨w.heap.size + 1, 0, none⟩) 0 0) 0 (rowG (encS (fun i => (D.idx i).name)) 0) := by
    have := World.ownsRow_lit (base := w.heap.size) (e := 9) (size := 1) (w.alloc (.cells #[.string D.name, .slice ac D.nc cc, .slice ap D.np cp, .slice ai D.ni ci] 36)) #[] 0 (by simp) (Nat.zero_le _) rfl
    simpa [rowG] using this
  have HV : Hid (IView w ai D.ni ci D.idx) := hiv
  go_enter Tryz.func95, Tryz.ntmps95
  go_wp2
  go_loopg [10, 3] D.ni (fun q i s wr => ∃ k : Nat, k ≤ D.ni ∧ q = D.ni - k ∧ i = .int .i64 k ∧ (∃ g c, s = .slice (some ⟨g, 0, none⟩) k c) ∧ wr.ownsRow w.heap.size 9 1 s k (rowG (encS (fun i => (D.idx i).name)) k) ∧ Below w.heap.size w wr)
  case atStart => exact ⟨0, Nat.zero_le _, rfl, rfl, ⟨_, _, rfl⟩, hO0, hbE⟩
  case round =>
    clear hO0 hbE hbA hcv hpv hiv
    obtain ⟨k, hk, rfl, rfl, ⟨sa, sc, rfl⟩, hO, hB⟩ := hrel
    by_cases hlt : k < D.ni
    · have hkz : (k : Int) < (D.ni : Int) := by omega
      obtain ⟨b1, o1, rfl, hb1, hcs⟩ := (HV.out.below hB).cells (by omega)
      obtain ⟨x0, x1, ap3, cp3, x2, -⟩ := hcs k hlt
      have hsz := hB.size
      have HN : Hid (rowG (encS (fun i => (D.idx i).name)) (k + 1) = rowG (encS (fun i => (D.idx i).name)) k ++ [.string (D.idx k).name]) := rfl
      have HB : Hid (Below w.heap.size w wr) := hB
      obtain ⟨s0, hs0⟩ : ∃ x, Hid ((D.idx k).name = x) := ⟨_, rfl⟩
      obtain ⟨R, hR⟩ : ∃ x, Hid (rowG (encS (fun i => (D.idx i).name)) k = x) := ⟨_, rfl⟩
      rw [hs0.out] at x0 HN
      rw [hR.out] at HN hO
      obtain ⟨s1, hs1⟩ : ∃ x, Hid ((D.idx k).uniq = x) := ⟨_, rfl⟩
      obtain ⟨s2, hs2⟩ : ∃ x, Hid ((D.idx k).n = x) := ⟨_, rfl⟩
      rw [hs1.out] at x1
      rw [hs2.out] at x2
      clear hcs HV hB
      have hb2 : Below wr.heap.size wr ((wr.alloc (.cells #[.string s0, .bool s1, .slice ap3 s2 cp3] 48)).alloc (.cells #[.string s0] 9)) := ((Below.refl _ _).alloc (Nat.le_refl _) _).alloc (by simp) _
      have hO2 := own_belowG hO hb2
      have hcl : ∀ j u, [Value.string s0][j]? = some u → ((wr.alloc (.cells #[.string s0, .bool s1, .slice ap3 s2 cp3] 48)).alloc (.cells #[.string s0] 9)).cell? ((⟨wr.heap.size + 1, 0, none⟩ : Addr).add j) = some u := by
        intro j u hj
        match j, hj with
        | 0, hj => simp at hj; subst hj; simp [Addr.add]
      have HBB : Hid (Below wr.heap.size wr ((wr.alloc (.cells #[.string s0, .bool s1, .slice ap3 s2 cp3] 48)).alloc (.cells #[.string s0] 9))) := hb2
      have HOW := own_ge9 hO
      go_wp2_with (at_builtin; refine wpList_append_own _ rfl (.tmp 14) (.tmp 17) 116 rfl w.heap.size 9 i0 (.string ⟨#[]⟩) 1 16 Tryz.underlying116 hi hz0 hz1 hz2 rfl (by decide) _ _ _ rfl hO2 ⟨wr.heap.size + 1, 0, none⟩ 1 1 [.string s0] rfl rfl hcl (by intro u hu; simp at hu; subst hu; rfl) (by unfold maxLen; omega) (by omega) (by simp; omega) ?_)
      intro v5 w2 hown5 hgr hnil
      obtain ⟨g', cap', rfl⟩ := own_succ9 hown5
      have HR : Hid (w2.ownsRow w.heap.size 9 1 (.slice (some ⟨g', 0, none⟩) (k + 1) cap') (k + 1) (rowG (encS (fun i => (D.idx i).name)) (k + 1)) ∧ Below w.heap.size w w2) := by
        refine ⟨?_, ?_⟩
        · rw [HN.out]; exact hown5
        · exact (HB.out.trans (HBB.out.mono hsz)).grown hgr (by simp; omega) HOW
      clear hown5 hgr hnil hO hO2 hcl HOW hb2
      go_wp2
      go_roundg (D.ni - (k + 1))
      case measure => omega
      case rel => exact ⟨k + 1, by omega, rfl, by go_num, ⟨_, _, rfl⟩, HR.out.1, HR.out.2⟩
    · have hkz : ¬ (k : Int) < (D.ni : Int) := by omega
      obtain rfl : k = D.ni := by omega
      have HR : Hid (wr.ownsRow w.heap.size 9 1 (.slice (some ⟨sa, 0, none⟩) D.ni sc) D.ni (rowG (encS (fun i => (D.idx i).name)) D.ni) ∧ Below w.heap.size w wr) := ⟨hO, hB⟩
      clear hO hB
      go_wp2
      go_ret
      exact ⟨_, _, rfl, HR.out.1, HR.out.2⟩
end Go.Proofs.YtkakkjnbhklfpaaGreatDoor

/-
  Plans, plainly, and rows of parts of the call's own.
-/
namespace Go.Proofs.YtkakkjnbhklfpaaGreatDoor
open Go.RowKit
set_option maxRecDepth 4000

/-- A part of a plan. -/
structure PPart where
  col : Int
  type : Int
  null : Bool
  desc : Bool
/-- The part of a column. -/
def ptOf (col : Nat → PCol) (b : PBy) : PPart := ⟨b.col, (col b.col.toNat).type, (col b.col.toNat).null, b.desc⟩
def plF (col : Nat → PCol) (l : Nat → PBy) (i : Nat) : PPart := ptOf col (l i)
def encQ (f : Nat → PPart) (i : Nat) : List Value := [.int .i64 (f i).col, .int .i64 (f i).type, .bool (f i).null, .bool (f i).desc]
theorem rowP_eq (f : Nat → PPart) : ∀ n, rowP (fun i => (f i).col) (fun i => (f i).type) (fun i => (f i).null) (fun i => (f i).desc) n = rowG (encQ f) n
  | 0 => rfl
  | n + 1 => by rw [rowP, rowG, rowP_eq f n]; rfl
/-- A row of parts reads. -/
abbrev QView (w : World) (a : Option Addr) (n cap : Nat) (f : Nat → PPart) : Prop := PView w a n cap (fun i => (f i).col) (fun i => (f i).type) (fun i => (f i).null) (fun i => (f i).desc)
theorem qview_of_own {w : World} {base g n c : Nat} {f : Nat → PPart} (h : w.ownsRow base 50 4 (.slice (some ⟨g, 0, none⟩) n c) n (rowG (encQ f) n)) : QView w (some ⟨g, 0, none⟩) n c f := by
  rw [← rowP_eq] at h
  obtain ⟨a, k, e, hv, -⟩ := pview_of_own h
  cases e
  exact hv
theorem infoPart11 : ∃ i, Tryz.prog.info? 50 = some i ∧ i.zero = some (.agg #[.int .i64 0, .int .i64 0, .bool false, .bool false]) ∧ i.size = 4 ∧ i.bytes = 24 := by
  have h : (Tryz.prog.info? 50).map (fun i => (i.zero, i.size, i.bytes)) = some (some (.agg #[.int .i64 0, .int .i64 0, .bool false, .bool false]), 4, 24) := by kernel_rfl
  obtain ⟨i, hi, hz⟩ := Option.map_eq_some_iff.1 h
  simp only [Prod.mk.injEq] at hz
  exact ⟨i, hi, hz.1, hz.2.1, hz.2.2⟩
theorem cells_part11 (W : World) (c t : Int) (u d : Bool) : ∀ j x, [Value.int .i64 c, .int .i64 t, .bool u, .bool d][j]? = some x → (W.alloc (.cells #[.int .i64 c, .int .i64 t, .bool u, .bool d] 50)).cell? ((⟨W.heap.size, 0, none⟩ : Addr).add j) = some x := by
  intro j u h
  have ea : ∀ j, (⟨W.heap.size, 0, none⟩ : Addr).add j = ⟨W.heap.size, 0 + j, none⟩ := fun j => by unfold Addr.add; split <;> simp_all
  match j, h with
  | 0, h => cases h; rw [ea]; simp
  | 1, h => cases h; rw [ea]; simp [go_sem]
  | 2, h => cases h; rw [ea]; simp [go_sem]
  | 3, h => cases h; rw [ea]; simp [go_sem]
  | j + 4, h => simp at h
theorem one_part11 (c t : Int) (u d : Bool) : ∀ x ∈ [Value.int .i64 c, .int .i64 t, .bool u, .bool d], x.oneCell' = true := by
  intro x hx
  simp at hx
  rcases hx with rfl | rfl | rfl | rfl <;> rfl
theorem own_nil11 (w : World) (f : Nat → PPart) : (w.alloc (.cells #[] 50)).ownsRow w.heap.size 50 4 (.slice (some ⟨w.heap.size, 0, none⟩) 0 0) 0 (rowG (encQ f) 0) := by
  have := World.ownsRow_lit (base := w.heap.size) (e := 50) (size := 4) w #[] 0 (Nat.le_refl _) (Nat.zero_le _) rfl
  simpa [rowG] using this
end Go.Proofs.YtkakkjnbhklfpaaGreatDoor

/-
  A function of the index, with one value more.
-/
namespace Go.Proofs.YtkakkjnbhklfpaaGreatDoor
open Go.RowKit
set_option maxRecDepth 4000

def upd {α : Type} (f : Nat → α) (k : Nat) (x : α) : Nat → α := fun i => if i = k then x else f i
theorem upd_old {α : Type} {f : Nat → α} {k i : Nat} {x : α} (h : i < k) : upd f k x i = f i := if_neg (by omega)
theorem upd_new {α : Type} {f : Nat → α} {k : Nat} {x : α} : upd f k x k = x := if_pos rfl
theorem rowG_updB (f : Nat → PBy) (k : Nat) (x : PBy) : rowG (encB (upd f k x)) (k + 1) = rowG (encB f) k ++ [.int .i64 x.col, .bool x.desc] := by
  rw [rowG, rowG_congr (enc' := encB f) (fun i hi => by simp [encB, upd_old hi])]
  simp [encB, upd_new]
theorem cells_by9 (W : World) (c : Int) (d : Bool) : ∀ j u, [Value.int .i64 c, .bool d][j]? = some u → (W.alloc (.cells #[.int .i64 c, .bool d] 67)).cell? ((⟨W.heap.size, 0, none⟩ : Addr).add j) = some u := by
  intro j u h
  have ea : ∀ j, (⟨W.heap.size, 0, none⟩ : Addr).add j = ⟨W.heap.size, 0 + j, none⟩ := fun j => by unfold Addr.add; split <;> simp_all
  match j, h with
  | 0, h => cases h; rw [ea]; simp
  | 1, h => cases h; rw [ea]; simp [go_sem]
  | j + 2, h => simp at h
theorem one_by9 (c : Int) (d : Bool) : ∀ u ∈ [Value.int .i64 c, .bool d], u.oneCell' = true := by
  intro u hu
  simp at hu
  rcases hu with rfl | rfl <;> rfl
end Go.Proofs.YtkakkjnbhklfpaaGreatDoor

/-
  slices.Concat of two rows of parts: a row of the call's own, one behind the other.
-/
namespace Go.Proofs.YtkakkjnbhklfpaaGreatDoor
open Go.RowKit
set_option maxRecDepth 4000

theorem infoBy11 : ∃ i, Tryz.prog.info? 67 = some i ∧ i.zero = some (.agg #[.int .i64 0, .bool false]) ∧ i.size = 2 ∧ i.bytes = 16 := by
  have h : (Tryz.prog.info? 67).map (fun i => (i.zero, i.size, i.bytes)) = some (some (.agg #[.int .i64 0, .bool false]), 2, 16) := by kernel_rfl
  obtain ⟨i, hi, hz⟩ := Option.map_eq_some_iff.1 h
  simp only [Prod.mk.injEq] at hz
  exact ⟨i, hi, hz.1, hz.2.1, hz.2.2⟩

set_option maxHeartbeats 2000000 in
theorem growBy_any (n : Nat) (w : World) (h0 : 0 < n) (hn : n ≤ 4194304) :
    Calls Tryz.prog 62 #[.slice none 0 0, .int .i64 n] w fun e w' => ∃ g c, e = .returned (.slice (some ⟨g, 0, none⟩) 0 c) ∧ w'.ownsRow w.heap.size 67 2 (.slice (some ⟨g, 0, none⟩) 0 c) 0 [] ∧ Below w.heap.size w w' := by
  obtain ⟨i0, hi, hz0, hz1, hz2⟩ := infoBy11
  have h1 : ¬ ((n : Int) < 0) := by omega
  have h2 : wrap64 ((0 : Int) - (0 : Int)) = 0 := by unfold wrap64; omega
  have h3 : wrap64 ((n : Int) - 0) = (n : Int) := by unfold wrap64; omega
  have h4 : (n : Int) > 0 := by omega
  have hrz := fun ty => Lib.run_append_nil_zeros (P := Tryz.prog) w 33 3 ty 67 i0 (.agg #[.int .i64 0, .bool false]) .i64 .i64 Tryz.underlying33 Tryz.underlying3 hi hz0 n h0 (by omega) (by omega) (by rw [hz2]; omega)
  have hG1 : n ≤ grownCap w n 0 67 := grownCap_ge w _ _ _
  have hG2 : grownCap w n 0 67 ≤ maxLen := grownCap_le_maxLen w n 0 67 (by unfold maxLen; omega)
  obtain ⟨G, hG⟩ : ∃ G, G = grownCap w n 0 67 := ⟨_, rfl⟩
  rw [← hG] at hG1 hG2
  simp only [← hG] at hrz
  have HS : Hid ((Builtin.zeroCells (Value.agg #[.int .i64 0, .bool false]).cells n ++ Builtin.zeroCells (Value.agg #[.int .i64 0, .bool false]).cells (G - n)).size = G * 2) := by
    show _ = _
    simp [Builtin.zeroCells, Value.cells]
    omega
  obtain ⟨cs, hcs⟩ : ∃ cs, Hid (Builtin.zeroCells (Value.agg #[.int .i64 0, .bool false]).cells n ++ Builtin.zeroCells (Value.agg #[.int .i64 0, .bool false]).cells (G - n) = cs) := ⟨_, rfl⟩
  rw [hcs.out] at HS
  simp only [hcs.out] at hrz
  have HB : Hid (Below w.heap.size w (w.drew.alloc (.cells cs 67))) := ((Below.refl _ _).drew).alloc (by simp) _
  have HO : Hid ((w.drew.alloc (.cells cs 67)).ownsRow w.heap.size 67 2 (.slice (some ⟨w.heap.size, 0, none⟩) 0 G) 0 []) := by
    refine ⟨rfl, .inr ⟨w.heap.size, G, cs, rfl, Nat.le_refl _, ?_, Nat.zero_le _, hG2, by rw [HS.out], by simp⟩⟩
    exact heap_alloc_new w.drew (.cells cs 67)
  have hGz : (0 : Int) ≤ (G : Int) := by omega
  unfold maxLen at hG2
  clear hcs hz0 hz1 hz2 hi hG
  go_enter Tryz.func62, Tryz.ntmps62
  go_wp2_with (at_builtin; refine Lib.wpList_append_run _ rfl _ _ _ _ rfl _ _ rfl rfl _ _ (hrz _) ?_)
  go_ret
  exact ⟨_, _, rfl, HO.out, HB.out⟩

theorem rowB_len (f : Nat → PBy) (n : Nat) : (rowG (encB f) n).length = n * 2 := rowG_len (c := 2) (fun _ => rfl) n
theorem rowB_get {f : Nat → PBy} {n q : Nat} {u : Value} (h : (rowG (encB f) n)[q]? = some u) : ∃ i j, i < n ∧ j < 2 ∧ q = i * 2 + j ∧ (encB f i)[j]? = some u := by
  have hq : q < n * 2 := by
    have := (List.getElem?_eq_some_iff.1 h).1
    rwa [rowB_len] at this
  refine ⟨q / 2, q % 2, by omega, by omega, by omega, ?_⟩
  have h1 := rowG_get (enc := encB f) (c := 2) (fun _ => rfl) n (q / 2) (q % 2) (by omega) (by omega)
  rw [show q / 2 * 2 + q % 2 = q by omega, h] at h1
  exact h1.symm
theorem rowB_one {f : Nat → PBy} {n : Nat} : ∀ u ∈ rowG (encB f) n, u.oneCell' = true := by
  intro u hu
  obtain ⟨q, hq⟩ := List.mem_iff_getElem?.1 hu
  obtain ⟨i, j, hi, hj, -, h⟩ := rowB_get hq
  have hj' : j = 0 ∨ j = 1 := by omega
  rcases hj' with rfl | rfl
  · simp [encB] at h; subst h; rfl
  · simp [encB] at h; subst h; rfl
/-- What is appended, where it lies. -/
theorem bview_cells11 {W : World} {b o n c : Nat} {f : Nat → PBy} (h : BView W (some ⟨b, o, none⟩) n c f) : ∀ q u, (rowG (encB f) n)[q]? = some u → W.cell? ((⟨b, o, none⟩ : Addr).add q) = some u := by
  intro q u hq
  obtain ⟨i, j, hi, hj, rfl, hu⟩ := rowB_get hq
  obtain ⟨b', o', e, _, hc⟩ := h.cells (by omega)
  cases e
  obtain ⟨c0, c1⟩ := hc i hi
  have ea : ∀ q, (⟨b, o, none⟩ : Addr).add q = ⟨b, o + q, none⟩ := fun q => by unfold Addr.add; split <;> simp_all
  rw [ea]
  have hj' : j = 0 ∨ j = 1 := by omega
  rcases hj' with rfl | rfl
  · simp [encB] at hu; subst hu; exact c0
  · simp [encB] at hu; subst hu; rw [show o + (i * 2 + 1) = o + i * 2 + 1 by omega]; exact c1
/-- Two rows, one behind the other. -/
def catB (f0 : Nat → PBy) (n0 : Nat) (f1 : Nat → PBy) (i : Nat) : PBy := if i < n0 then f0 i else f1 (i - n0)
theorem rowB_cat (f0 : Nat → PBy) (n0 : Nat) (f1 : Nat → PBy) : ∀ n1, rowG (encB f0) n0 ++ rowG (encB f1) n1 = rowG (encB (catB f0 n0 f1)) (n0 + n1)
  | 0 => by
    rw [rowG, List.append_nil]
    exact rowG_congr (fun i hi => by simp [encB, catB, hi])
  | n1 + 1 => by
    rw [rowG, ← List.append_assoc, rowB_cat f0 n0 f1 n1]
    show _ = rowG (encB (catB f0 n0 f1)) (n0 + n1) ++ encB (catB f0 n0 f1) (n0 + n1)
    simp [encB, catB, show ¬ n0 + n1 < n0 by omega]
/-- A row that was put behind a row of the call's own. -/
theorem grown11 {w W W' : World} {T c n m g k : Nat} {v : Value} {xs ys : List Value} (hb : Below w.heap.size w W) (hO : W.ownsRow w.heap.size T c (.slice (some ⟨g, 0, none⟩) n k) n xs) (hO2 : W'.ownsRow w.heap.size T c v m ys) (hgr : W.grownBy W' (Value.slice (some ⟨g, 0, none⟩) n k).ownBlock)
    (hnil : ¬ v = .slice none 0 0) : (∃ g' k', v = .slice (some ⟨g', 0, none⟩) m k') ∧ Below w.heap.size w W' := by
  refine ⟨?_, hb.grown hgr hb.size (own_ge9 hO)⟩
  rcases hO2.2 with ⟨e, _⟩ | ⟨g', k', _, e, _⟩
  · exact absurd e hnil
  · exact ⟨g', k', e⟩

set_option maxHeartbeats 4000000 in
theorem concatBy_any (B b0 o0 n0 c0 b1 o1 n1 c1 : Nat) (f0 f1 : Nat → PBy) (w : World)
    (x0 : w.cell? ⟨B, 0, none⟩ = some (.slice (some ⟨b0, o0, none⟩) n0 c0)) (x1 : w.cell? ⟨B, 1, none⟩ = some (.slice (some ⟨b1, o1, none⟩) n1 c1)) (hB : B < w.heap.size)
    (v0 : BView w (some ⟨b0, o0, none⟩) n0 c0 f0) (v1 : BView w (some ⟨b1, o1, none⟩) n1 c1 f1) (h0 : 0 < n0) (l0 : n0 ≤ 1048576) (l1 : n1 ≤ 1048576) :
    Calls Tryz.prog 33 #[.slice (some ⟨B, 0, none⟩) 2 2] w fun e w' => ∃ g c, e = .returned (.slice (some ⟨g, 0, none⟩) (n0 + n1) c) ∧ w'.ownsRow w.heap.size 67 2 (.slice (some ⟨g, 0, none⟩) (n0 + n1) c) (n0 + n1) (rowG (encB (catB f0 n0 f1)) (n0 + n1)) ∧ Below w.heap.size w w' := by
  obtain ⟨i0, hi, hz0, hz1, hz2⟩ := infoBy11
  have hG := growBy_any (n0 + n1) w (by omega) (by omega)
  have e1 : ((n0 + n1 : Nat) : Int) = (n0 : Int) + n1 := by omega
  rw [e1] at hG
  have k1 : ¬ ((0 : Int) + n0 < 0) := by omega
  have k2 : ¬ ((n0 : Int) + n1 < 0) := by omega
  go_enter Tryz.func33, Tryz.ntmps33
  go_wp2
  refine wp_loop_rounds 3 ?_
  rw [rounds_succ]
  go_wp2
  rw [rounds_succ]
  go_wp2
  rw [rounds_succ]
  go_wp2_with fail
  refine hG.mono ?_
  rintro e w1 ⟨g, c, rfl, hO1, hb1⟩
  have s1 := hb1.size
  rw [← hb1.cell (p := ⟨B, 0, none⟩) hB] at x0
  rw [← hb1.cell (p := ⟨B, 1, none⟩) hB] at x1
  have HX : Hid (w1.cell? ⟨B, 1, none⟩ = some (.slice (some ⟨b1, o1, none⟩) n1 c1)) := x1
  have hV0 := bview_cells11 (v0.below hb1)
  clear hG k1 k2 x1
  go_wp2
  refine wp_loop_rounds 3 ?_
  rw [rounds_succ]
  go_wp2_with (at_builtin; refine wpList_append_own _ rfl (.tmp 31) (.tmp 32) 33 rfl w.heap.size 67 i0 (.agg #[.int .i64 0, .bool false]) 2 16 Tryz.underlying33 hi hz0 hz1 hz2 rfl (by decide) _ _ _ rfl hO1 ⟨b0, o0, none⟩ n0 c0 (rowG (encB f0) n0) rfl (by rw [rowB_len]) hV0 rowB_one (by unfold maxLen; omega) (by omega) (by omega) ?_)
  intro u2 w2 hO2 hgr2 hnil2
  obtain ⟨⟨g2', k2', rfl⟩, hb2⟩ := grown11 hb1 hO1 hO2 hgr2 hnil2
  have s2 := hb2.size
  have x1 : w2.cell? ⟨B, 1, none⟩ = some (.slice (some ⟨b1, o1, none⟩) n1 c1) := by rw [hb2.cell (p := ⟨B, 1, none⟩) hB, ← hb1.cell (p := ⟨B, 1, none⟩) hB]; exact HX.out
  have hV1 := bview_cells11 (v1.below hb2)
  clear hV0 hO1 hgr2 hnil2 x0 HX hb1 s1 v0 v1
  go_wp2
  rw [rounds_succ]
  go_wp2_with (at_builtin; refine wpList_append_own _ rfl (.tmp 31) (.tmp 32) 33 rfl w.heap.size 67 i0 (.agg #[.int .i64 0, .bool false]) 2 16 Tryz.underlying33 hi hz0 hz1 hz2 rfl (by decide) _ _ _ rfl hO2 ⟨b1, o1, none⟩ n1 c1 (rowG (encB f1) n1) rfl (by rw [rowB_len]) hV1 rowB_one (by unfold maxLen; omega) (by omega) (by omega) ?_)
  intro u3 w3 hO3 hgr3 hnil3
  obtain ⟨⟨g3', k3', rfl⟩, hb3⟩ := grown11 hb2 hO2 hO3 hgr3 hnil3
  have HR : Hid (w3.ownsRow w.heap.size 67 2 (.slice (some ⟨g3', 0, none⟩) (n0 + n1) k3') (n0 + n1) (rowG (encB (catB f0 n0 f1)) (n0 + n1)) ∧ Below w.heap.size w w3) := ⟨by rw [← rowB_cat]; simpa using hO3, hb3⟩
  clear hV1 hO2 hO3 hgr3 hnil3 x1 hb3 s2
  go_wp2
  rw [rounds_succ]
  go_wp2
  go_ret
  exact ⟨_, _, rfl, HR.out.1, HR.out.2⟩
end Go.Proofs.YtkakkjnbhklfpaaGreatDoor

/-
  The three plans of a table, plainly.
-/
namespace Go.Proofs.YtkakkjnbhklfpaaGreatDoor
open Go.RowKit
set_option maxRecDepth 4000

def priN (D : PDef) : Nat := if checkF D = 0 then D.np else 0
def idxN (D : PDef) (i : Int) : Nat := if checkF D = 0 ∧ 0 ≤ i ∧ i < D.ni then (D.idx i.toNat).n + D.np else 0
def ixpL (D : PDef) (i : Int) : Nat → PBy := catB (D.idx i.toNat).part (D.idx i.toNat).n D.pri
def rowN (D : PDef) : Nat := if checkF D = 0 then D.nc else 0
def allL (i : Nat) : PBy := ⟨i, false⟩
theorem good_pri {D : PDef} (h : checkF D = 0) : partsF D.nc D.np D.pri = true := by
  obtain ⟨-, -, -, -, h5, -⟩ := checkF_good h
  unfold allPartsF at h5
  exact (of_decide_eq_true h5).2
theorem good_idx {D : PDef} (h : checkF D = 0) {i : Nat} (hi : i < D.ni) : partsF D.nc (D.idx i).n (D.idx i).part = true := by
  obtain ⟨-, -, -, -, h5, -⟩ := checkF_good h
  unfold allPartsF at h5
  exact (of_decide_eq_true h5).1 i hi
theorem good_nc {D : PDef} (h : checkF D = 0) : (∀ i, i < D.nc → 1 ≤ (D.col i).type ∧ (D.col i).type ≤ 4) ∧ 1 ≤ D.nc ∧ D.nc ≤ 6 := by
  obtain ⟨-, h2, -⟩ := checkF_good h
  unfold typesF at h2
  exact of_decide_eq_true h2
theorem cat_in {nc n0 n1 : Nat} {f0 f1 : Nat → PBy} (h0 : ∀ i, i < n0 → 0 ≤ (f0 i).col ∧ (f0 i).col < nc) (h1 : ∀ i, i < n1 → 0 ≤ (f1 i).col ∧ (f1 i).col < nc) : ∀ i, i < n0 + n1 → 0 ≤ (catB f0 n0 f1 i).col ∧ (catB f0 n0 f1 i).col < nc := by
  intro i hi
  unfold catB
  by_cases e : i < n0
  · rw [if_pos e]; exact h0 i e
  · rw [if_neg e]; exact h1 _ (by omega)
/-- What a call that makes a plan comes to. -/
def PlanTo (w : World) (n : Nat) (f : Nat → PPart) (e : Ending) (w' : World) : Prop := ∃ g c, e = .returned (.slice (some ⟨g, 0, none⟩) n c) ∧ w'.ownsRow w.heap.size 50 4 (.slice (some ⟨g, 0, none⟩) n c) n (rowG (encQ f) n) ∧ Below w.heap.size w w'
theorem own_low {W : World} {base base' T c N : Nat} {v : Value} {xs : List Value} (h : W.ownsRow base T c v N xs) (hb : base' ≤ base) : W.ownsRow base' T c v N xs := by
  refine ⟨h.1, ?_⟩
  rcases h.2 with ⟨e, h0⟩ | ⟨g, k, cur, e, hb0, hr⟩
  · exact .inl ⟨e, h0⟩
  · exact .inr ⟨g, k, cur, e, by omega, hr⟩
theorem PlanTo.low {w w0 w' : World} {n : Nat} {f : Nat → PPart} {e : Ending} (h : PlanTo w n f e w') (hb : Below w0.heap.size w0 w) : PlanTo w0 n f e w' := by
  obtain ⟨g, c, he, hO, hB⟩ := h
  exact ⟨g, c, he, own_low hO hb.size, hb.trans (hB.mono hb.size)⟩
theorem PlanTo.nil (w : World) (f : Nat → PPart) : PlanTo w 0 f (.returned (.slice (some ⟨w.heap.size, 0, none⟩) 0 0)) (w.alloc (.cells #[] 50)) := ⟨_, _, rfl, own_nil11 w f, (Below.refl _ _).alloc (Nat.le_refl _) _⟩
end Go.Proofs.YtkakkjnbhklfpaaGreatDoor

