/-
  CopyKit9
-/
import Derived.Test.YtfjlmkphncigladGreatDoorAnyKit9
import Derived.OneCell
/-
  A table's copy: what is read, what is new.
-/
namespace Go.Proofs.YtfjlmkphncigladGreatDoor
open Go.RowKit
set_option maxRecDepth 4000

theorem Eff.on {w : World} {T : TypeId} {W W' : World} (e : Eff w T W W') (h : Below w.heap.size w W) : Below w.heap.size w W' :=
  ⟨e.os.trans h.os, e.tape.trans h.tape, e.output.trans h.output, Nat.le_trans h.size e.size, fun k hk => (e.old k hk (Nat.lt_of_lt_of_le hk h.size)).trans (h.block k hk)⟩
/-- An empty row that was made and appended to: nothing that was there has turned. -/
theorem below_grown {W W' : World} {o : Obj} (h : (W.alloc o).grownBy W' (some W.heap.size)) : Below W.heap.size W W' := by
  have hb : Below W.heap.size W (W.alloc o) := (Below.refl _ _).alloc (Nat.le_refl _) _
  refine hb.trans ⟨h.os, h.tape, h.output, h.size, fun k hk => h.block k (by simp; omega) (fun e => ?_)⟩
  cases e
  exact Nat.lt_irrefl _ hk
theorem rowG_one {enc : Nat → List Value} (h : ∀ i, ∀ u ∈ enc i, u.oneCell' = true) : ∀ n, ∀ u ∈ rowG enc n, u.oneCell' = true
  | 0, u, hu => by simp [rowG] at hu
  | n + 1, u, hu => by
    rw [rowG, List.mem_append] at hu
    rcases hu with hu | hu
    · exact rowG_one h n u hu
    · exact h n u hu
theorem news_of {w : World} {b c n : Nat} {enc : Nat → List Value} (hc0 : 0 < c) (he : ∀ i, (enc i).length = c) (hc : ∀ i q u, i < n → (enc i)[q]? = some u → w.cell? ⟨b, i * c + q, none⟩ = some u) : ∀ j u, (rowG enc n)[j]? = some u → w.cell? ((⟨b, 0, none⟩ : Addr).add j) = some u := by
  intro j u h
  have ea : (⟨b, 0, none⟩ : Addr).add j = ⟨b, j, none⟩ := by unfold Addr.add; split <;> simp_all
  have hl := (List.getElem?_eq_some_iff.1 h).1
  rw [rowG_len he] at hl
  have hd : j = (j / c) * c + j % c := by rw [Nat.mul_comm]; exact (Nat.div_add_mod j c).symm
  have hi : j / c < n := (Nat.div_lt_iff_lt_mul hc0).2 hl
  have hx := rowG_get he n (j / c) (j % c) hi (Nat.mod_lt _ hc0)
  rw [← hd, h] at hx
  rw [ea]
  have := hc (j / c) (j % c) u hi hx.symm
  rw [← hd] at this
  exact this
theorem cview_news {w : World} {b n c : Nat} {f : Nat → PCol} (h : CView w (some ⟨b, 0, none⟩) n c f) : ∀ j u, (rowG (encC f) n)[j]? = some u → w.cell? ((⟨b, 0, none⟩ : Addr).add j) = some u := by
  refine news_of (c := 3) (by omega) (fun _ => rfl) (fun i q u hi hq => ?_)
  obtain ⟨b', off, e, -, hc⟩ := h.cells (by omega)
  cases e
  obtain ⟨h0, h1, h2⟩ := hc i hi
  simp only [Nat.zero_add] at h0 h1 h2
  match q, hq with
  | 0, hq => cases hq; exact h0
  | 1, hq => cases hq; exact h1
  | 2, hq => cases hq; exact h2
  | q + 3, hq => simp [encC] at hq
theorem bview_news {w : World} {b n c : Nat} {f : Nat → PBy} (h : BView w (some ⟨b, 0, none⟩) n c f) : ∀ j u, (rowG (encB f) n)[j]? = some u → w.cell? ((⟨b, 0, none⟩ : Addr).add j) = some u := by
  refine news_of (c := 2) (by omega) (fun _ => rfl) (fun i q u hi hq => ?_)
  obtain ⟨b', off, e, -, hc⟩ := h.cells (by omega)
  cases e
  obtain ⟨h0, h1⟩ := hc i hi
  simp only [Nat.zero_add] at h0 h1
  match q, hq with
  | 0, hq => cases hq; exact h0
  | 1, hq => cases hq; exact h1
  | q + 2, hq => simp [encB] at hq
theorem oneC {f : Nat → PCol} (n : Nat) : ∀ u ∈ rowG (encC f) n, u.oneCell' = true := rowG_one (fun _ u hu => one_col9 _ _ _ u hu) n
theorem oneB9 {f : Nat → PBy} (n : Nat) : ∀ u ∈ rowG (encB f) n, u.oneCell' = true := rowG_one (fun _ u hu => one_by9 _ _ u hu) n
theorem lenC {f : Nat → PCol} (n : Nat) : (rowG (encC f) n).length = n * 3 := rowG_len (enc := encC f) (c := 3) (fun _ => rfl) n
theorem lenB {f : Nat → PBy} (n : Nat) : (rowG (encB f) n).length = n * 2 := rowG_len (enc := encB f) (c := 2) (fun _ => rfl) n
/-- What an append to an empty row of the call's own answers. -/
theorem own_new9 {W : World} {base T c n : Nat} {v v0 : Value} {xs : List Value} {m : Nat} (h : W.ownsRow base T c v (0 + n) ([] ++ xs)) (hn : v = .slice none 0 0 ↔ v0 = .slice none 0 0 ∧ m = 0) (h0 : v0 ≠ .slice none 0 0) : ∃ b k, v = .slice (some ⟨b, 0, none⟩) n k ∧ W.ownsRow base T c (.slice (some ⟨b, 0, none⟩) n k) n xs := by
  rw [Nat.zero_add, List.nil_append] at h
  rcases h.2 with ⟨e, _⟩ | ⟨g, k, cur, e, _⟩
  · exact absurd (hn.1 e).1 h0
  · subst e; exact ⟨g, k, rfl, h⟩
theorem own_some9 {W : World} {base T c n : Nat} {v : Value} {xs : List Value} (h : W.ownsRow base T c v n xs) (hn : ¬ v = .slice none 0 0) : ∃ b k, v = .slice (some ⟨b, 0, none⟩) n k ∧ W.ownsRow base T c (.slice (some ⟨b, 0, none⟩) n k) n xs := by
  rcases h.2 with ⟨e, _⟩ | ⟨g, k, cur, e, _⟩
  · exact absurd e hn
  · subst e; exact ⟨g, k, rfl, h⟩
theorem own_blk_lt {W : World} {base T c n : Nat} {v : Value} {xs : List Value} (h : W.ownsRow base T c v n xs) {b : Nat} (hb : v.ownBlock = some b) : b < W.heap.size := by
  rcases h.2 with ⟨rfl, _⟩ | ⟨g, k, cur, rfl, _, hg, _⟩
  · simp [Value.ownBlock] at hb
  · obtain rfl : g = b := by simpa [Value.ownBlock] using hb
    exact (Array.getElem?_eq_some_iff.1 hg).1
/-- Indexes that lie in blocks. -/
structure IBl (w : World) (ia : Option Addr) (n : Nat) (f : Nat → PIdx) : Prop where
  cells : 0 < n → ∃ b, ia = some ⟨b, 0, none⟩ ∧ b < w.heap.size ∧ ∀ i, i < n → w.cell? ⟨b, i * 3, none⟩ = some (.string (f i).name) ∧ w.cell? ⟨b, i * 3 + 1, none⟩ = some (.bool (f i).uniq) ∧ ∃ a c, w.cell? ⟨b, i * 3 + 2, none⟩ = some (.slice (some ⟨a, 0, none⟩) (f i).n c) ∧ BView w (some ⟨a, 0, none⟩) (f i).n c (f i).part
theorem IBl.below {w w' : World} {ia : Option Addr} {n : Nat} {f : Nat → PIdx} (h : IBl w ia n f) (hb : Below w.heap.size w w') : IBl w' ia n f := by
  refine ⟨fun hn => ?_⟩
  obtain ⟨b, e, hlt, hc⟩ := h.cells hn
  refine ⟨b, e, Nat.lt_of_lt_of_le hlt hb.size, fun i hi => ?_⟩
  rw [hb.cell (p := ⟨b, i * 3, none⟩) hlt, hb.cell (p := ⟨b, i * 3 + 1, none⟩) hlt, hb.cell (p := ⟨b, i * 3 + 2, none⟩) hlt]
  obtain ⟨h0, h1, a, c, h2, hv⟩ := hc i hi
  exact ⟨h0, h1, a, c, h2, hv.below hb⟩
theorem Tw.ibl {w : World} {ia : Option Addr} {ic : Nat} {vc vp : Value} {D : PDef} {A C : Nat → Nat} {W : World} (h : Tw w vc vp (.slice ia D.ni ic) D A C W) : IBl W ia D.ni D.idx := by
  refine ⟨fun hn => ?_⟩
  obtain ⟨a, k, e, hk, h1⟩ := own_cells (c := 3) (fun _ => rfl) h.idx
  cases e
  obtain ⟨g, ea, -, -, hg, hc⟩ := h1 hn
  refine ⟨g, ea, hg, fun i hi => ⟨by simpa using hc i 0 _ hi rfl, by simpa using hc i 1 _ hi rfl, A i, C i, by simpa using hc i 2 _ hi rfl, (h.pt i hi).view⟩⟩
/-- A variable of three cells, of the type of an index, is stored into. -/
theorem V3.blk9 {w : World} {B : Nat} {T : TypeId} {x0 x1 x2 : Value} (h : V3 w B T x0 x1 x2) : ∃ c, w.heap[B]? = some (.cells c T (0, 0)) := by
  obtain ⟨c, h1, _⟩ := h
  exact ⟨c, h1⟩
theorem Tb.setX {w : World} {vc vp vi : Value} {D : PDef} {A C : Nat → Nat} {W : World} (h : Tb w vc vp vi D A C W) {Bx : Nat} {x0 x1 x2 : Value} (hx : V3 W Bx 60 x0 x1 x2) (hge : w.heap.size ≤ Bx) (hne : vi.ownBlock ≠ some Bx) (j : Nat) (u : Value) : Tb w vc vp vi D A C (W.setCell ⟨Bx, j, none⟩ u) ∧ Eff w 60 W (W.setCell ⟨Bx, j, none⟩ u) := by
  obtain ⟨c, hc⟩ := hx.blk9
  have e : Eff w 60 W (W.setCell ⟨Bx, j, none⟩ u) := Eff.set hge hc u
  exact ⟨⟨own_eff h.cols e (by decide), own_eff h.pri e (by decide), ownsRow_setCell_other h.idx hne u, h.pts.eff e (by decide), h.sm⟩, e⟩
theorem upd_self {α : Type} (f : Nat → α) (k : Nat) : upd f k (f k) = f := by
  funext j
  by_cases e : j = k
  · subst e; exact upd_new ..
  · unfold upd; rw [if_neg e]
end Go.Proofs.YtfjlmkphncigladGreatDoor

