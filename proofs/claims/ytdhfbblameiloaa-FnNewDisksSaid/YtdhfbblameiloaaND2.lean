/-
  Together: CurKit, DrawInt, DrawList, DrawIntMem, DiskView
-/
import Derived.Test.YtdhfbblameiloaaND1
/-
  The cursor and rows of the call's own, how they are carried.
-/
namespace Go.Proofs.Ytdhfbblameiloaa
open Go.RowKit
set_option maxRecDepth 4000

theorem own_blkN {W : World} {base T c N : Nat} {v : Value} {xs : List Value} (h : W.ownsRow base T c v N xs) {k : Nat} (hk : v.ownBlock = some k) : base ≤ k ∧ k < W.heap.size ∧ ∃ cur z, W.heap[k]? = some (.cells cur T z) := by
  rcases h.2 with ⟨e, -⟩ | ⟨g, cp, cur, e, hb, hg, -⟩
  · rw [e] at hk; cases hk
  · rw [e] at hk
    simp only [Value.ownBlock, Option.some.injEq] at hk
    subst hk
    exact ⟨hb, (Array.getElem?_eq_some_iff.1 hg).1, cur, _, hg⟩
theorem own_grownN {W W' : World} {base T c N : Nat} {v : Value} {xs : List Value} {row : Option Nat} (h : W.ownsRow base T c v N xs) (hg : W.grownBy W' row) (hne : ∀ k, v.ownBlock = some k → row ≠ some k) : W'.ownsRow base T c v N xs := by
  refine ⟨h.1, ?_⟩
  rcases h.2 with ⟨e, h0⟩ | ⟨g, k, cur, e, hb0, hg0, hr⟩
  · exact .inl ⟨e, h0⟩
  · refine .inr ⟨g, k, cur, e, hb0, ?_, hr⟩
    rw [hg.block g (Array.getElem?_eq_some_iff.1 hg0).1 (fun x => hne g (by rw [e]; rfl) x.symm)]
    exact hg0
theorem grown_set (W : World) (B i : Nat) (u : Value) : W.grownBy (W.setCell ⟨B, i, none⟩ u) (some B) :=
  ⟨rfl, rfl, rfl, by simp, fun k _ hk => Below.heap_setCell _ _ _ _ (fun e => hk (by rw [show k = B from e]))⟩
theorem own_base' {W : World} {base base' T c N : Nat} {v : Value} {xs : List Value} (h : W.ownsRow base T c v N xs) (hb : ∀ k, v.ownBlock = some k → base' ≤ k) : W.ownsRow base' T c v N xs := by
  refine ⟨h.1, ?_⟩
  rcases h.2 with ⟨e, h0⟩ | ⟨g, k, cur, e, hb0, hr⟩
  · exact .inl ⟨e, h0⟩
  · exact .inr ⟨g, k, cur, e, hb g (by rw [e]; rfl), hr⟩

theorem own_form {W : World} {base T c N : Nat} {v : Value} {xs : List Value} (h : W.ownsRow base T c v N xs) (hc : 0 < c := by decide) : ∃ a k, v = .slice a N k := by
  obtain ⟨hl, h⟩ := h
  rcases h with ⟨rfl, h0⟩ | ⟨g, k, cur, rfl, -⟩
  · have hN : N = 0 := by
      rcases Nat.eq_zero_or_pos N with h | h
      · exact h
      · have := Nat.mul_pos h hc
        omega
    subst hN
    exact ⟨none, 0, rfl⟩
  · exact ⟨_, k, rfl⟩
/-- The cursor, where the draw began, and that it alone of what was there has turned. -/
structure CN (w : World) (g : Nat) (ao : Option Addr) (n cap : Nat) (f : Nat → Int) (W : World) : Prop where
  cur : Cur W g ao n cap f
  but : But g w W
  lt : g < w.heap.size
  code : ∀ a, ao = some a → 0 < n → a.block < w.heap.size
theorem CN.start {w : World} {g : Nat} {ao : Option Addr} {n cap : Nat} {f : Nat → Int} (h : Cur w g ao n cap f) : CN w g ao n cap f w := ⟨h, But.refl _ _, h.lt, h.code⟩
theorem CN.size {w : World} {g : Nat} {ao : Option Addr} {n cap : Nat} {f : Nat → Int} {W : World} (h : CN w g ao n cap f W) : w.heap.size ≤ W.heap.size := h.but.size
theorem CN.next {w : World} {g : Nat} {ao : Option Addr} {n cap : Nat} {f : Nat → Int} {W W' : World} (h : CN w g ao n cap f W) (hc : Cur W' g ao n cap f) (hb : But g W W') : CN w g ao n cap f W' := ⟨hc, h.but.trans hb, h.lt, h.code⟩
theorem CN.below {w : World} {g : Nat} {ao : Option Addr} {n cap : Nat} {f : Nat → Int} {W W' : World} (h : CN w g ao n cap f W) (hb : Below W.heap.size W W') : CN w g ao n cap f W' := h.next (h.cur.below hb) (But.ofBelow hb)
theorem CN.grown {w : World} {g : Nat} {ao : Option Addr} {n cap : Nat} {f : Nat → Int} {W W' : World} {row : Option Nat} (h : CN w g ao n cap f W) (hg : W.grownBy W' row) (hr : ∀ j, row = some j → w.heap.size ≤ j) : CN w g ao n cap f W' :=
  ⟨h.cur.grown hg (fun e => by have := hr g e; have := h.lt; omega) (fun a e hn e' => by have := hr _ e'; have := h.code a e hn; omega), ⟨hg.os.trans h.but.os, hg.tape.trans h.but.tape, hg.output.trans h.but.output, Nat.le_trans h.but.size hg.size, fun k hk hne => (hg.block k (Nat.lt_of_lt_of_le hk h.but.size) (fun e => by have := hr k e.symm; omega)).trans (h.but.block k hk hne)⟩, h.lt, h.code⟩
theorem CN.set {w : World} {g : Nat} {ao : Option Addr} {n cap : Nat} {f : Nat → Int} {W : World} (h : CN w g ao n cap f W) {X : Nat} (hX : w.heap.size ≤ X) (i : Nat) (u : Value) : CN w g ao n cap f (W.setCell ⟨X, i, none⟩ u) := h.grown (grown_set W X i u) (fun j e => by cases e; exact hX)
end Go.Proofs.Ytdhfbblameiloaa

/-
  One of a row of numbers, as it is drawn.
-/
namespace Go.Proofs.Ytdhfbblameiloaa
open Go.RowKit
set_option maxRecDepth 4000

set_option maxHeartbeats 1000000 in
theorem l1Int_any (g : Nat) (ao : Option Addr) (n cap : Nat) (f : Nat → Int) (b m : Nat) (z : Nat → Int) (w : World) (hn : n ≤ 1048576) (hm : 0 < m) (hm1 : m ≤ 16777216) (hz : ∀ i, i < m → w.cell? ⟨b, i, none⟩ = some (.int .i64 (z i))) (hbg : b ≠ g) (hC : Cur w g ao n cap f) :
    Calls Try.prog 93 #[.pointer (some ⟨g, 0, none⟩), .slice (some ⟨b, 0, none⟩) m m] w fun e w' => ∃ j : Nat, j < m ∧ e = .returned (.int .i64 (z j)) ∧ Cur w' g ao n cap f ∧ Only g w w' := by
  go_enter Try.func93, Try.ntmps93
  go_wp2_with fail
  refine (l1Below_any g ao n cap f m w hn (by omega) (by omega) hC).mono ?_
  rintro e w1 ⟨x, rfl, hx0, hx1, hC1, hO1⟩
  obtain ⟨j, rfl⟩ := Int.eq_ofNat_of_zero_le hx0
  have hj : w1.cell? ⟨b, j, none⟩ = some (.int .i64 (z j)) := by
    rw [World.cell?_of_block (w := w) (hO1.block b hbg)]; exact hz j (by omega)
  go_wp2
  go_ret
  exact ⟨j, by omega, rfl, hC1, hO1⟩
end Go.Proofs.Ytdhfbblameiloaa

/-
  Lists that are drawn of.
-/
namespace Go.Proofs.Ytdhfbblameiloaa
open Go.RowKit
set_option maxRecDepth 4000

/-- The cells of a list of numbers that is laid anew. -/
theorem newInts (w : World) (l : List Int) (t : TypeId) : ∀ i, i < l.length → (w.alloc (.cells (l.map (Value.int .i64)).toArray t)).cell? ⟨w.heap.size, i, none⟩ = some (.int .i64 (l.getD i 0)) := by
  intro i hi
  rw [World.cell?, show (w.alloc (.cells (l.map (Value.int .i64)).toArray t)).heap[w.heap.size]? = some (.cells (l.map (Value.int .i64)).toArray t) from Deep.blk_alloc_new _ _]
  simp [hi]

theorem getD_mem {l : List Int} {j : Nat} (h : j < l.length) : l.getD j 0 ∈ l := by
  simp [h]

theorem Cur.drew {w : World} {g : Nat} {ao : Option Addr} {n cap : Nat} {f : Nat → Int} (h : Cur w g ao n cap f) : Cur w.drew g ao n cap f := h.below (Below.refl _ _).drew
end Go.Proofs.Ytdhfbblameiloaa

/-
  One of a list of numbers that is laid anew.
-/
namespace Go.Proofs.Ytdhfbblameiloaa
open Go.RowKit
set_option maxRecDepth 4000

theorem l1Int_mem (g : Nat) (ao : Option Addr) (n cap : Nat) (f : Nat → Int) (l : List Int) (A : Nat) (w : World) (hA : A = w.heap.size) (hn : n ≤ 1048576) (h0 : 0 < l.length) (h1 : l.length ≤ 1000) (hC : Cur w g ao n cap f) :
    Calls Try.prog 93 #[.pointer (some ⟨g, 0, none⟩), .slice (some ⟨A, 0, none⟩) l.length l.length] (w.alloc (.cells (l.map (Value.int .i64)).toArray 3)) fun e w' => ∃ z : Int, e = .returned (.int .i64 z) ∧ z ∈ l ∧ Cur w' g ao n cap f ∧ But g w w' := by
  subst hA
  have hb : Below w.heap.size w (w.alloc (.cells (l.map (Value.int .i64)).toArray 3)) := (Below.refl _ _).alloc (Nat.le_refl _) _
  have hg := hC.lt
  refine (l1Int_any g ao n cap f w.heap.size l.length (fun i => l.getD i 0) _ hn h0 (by omega) (newInts w l 3) (by omega) (hC.below hb)).mono ?_
  rintro e w' ⟨j, hj, rfl, hC2, hO2⟩
  exact ⟨_, rfl, getD_mem hj, hC2, (But.ofBelow hb).trans (But.ofOnly hO2)⟩
end Go.Proofs.Ytdhfbblameiloaa

/-
  Disks, plainly; rows whose elements have several cells that read; a disk that reads.
-/
namespace Go.Proofs.Ytdhfbblameiloaa
open Go.RowKit
set_option maxRecDepth 4000

/-- A letter for a thing. -/
theorem hidEx {α : Type} (y : α) : ∃ x, Hid (y = x) := ⟨y, rfl⟩
structure PFault where
  pos : Int
  keep : Int
  cut : Int
structure PDisk where
  secs : List (List Int)
  cache : List (Int × List Int)
  ops : Int
  faults : List PFault
  down : Bool
def bf (l : List Int) (i : Nat) : Int := l.getD i 0
theorem lof_bf (l : List Int) : lof l.length (bf l) = l := lof_self l

/-- A slice value that reads as these bytes. -/
structure LV (w : World) (v : Value) (l : List Int) : Prop where
  is : ∃ a c, v = .slice a l.length c ∧ View w a l.length c (bf l) ∧ (a = none → c = 0)
theorem LV.below {w w' : World} {v : Value} {l : List Int} (h : LV w v l) (hb : Below w.heap.size w w') : LV w' v l := by
  obtain ⟨a, c, e, hv, hn⟩ := h.is
  exact ⟨a, c, e, hv.below hb, hn⟩

/-- A row whose elements have c cells each, of which P says what they are. -/
structure RV {α : Type} (c : Nat) (P : World → List Value → α → Prop) (w : World) (a : Option Addr) (cap : Nat) (l : List α) : Prop where
  le : l.length ≤ cap
  nil : a = none → cap = 0
  cells : 0 < l.length → ∃ b off, a = some ⟨b, off, none⟩ ∧ b < w.heap.size ∧ ∀ i x, l[i]? = some x → ∃ us, P w us x ∧ ∀ j u, us[j]? = some u → w.cell? ⟨b, off + i * c + j, none⟩ = some u
theorem RV.below {α : Type} {c : Nat} {P : World → List Value → α → Prop} {w w' : World} {a : Option Addr} {cap : Nat} {l : List α} (h : RV c P w a cap l) (hP : ∀ us x, P w us x → P w' us x) (hb : Below w.heap.size w w') : RV c P w' a cap l := by
  refine ⟨h.le, h.nil, fun hn => ?_⟩
  obtain ⟨b, off, e, hlt, hc⟩ := h.cells hn
  refine ⟨b, off, e, Nat.lt_of_lt_of_le hlt hb.size, fun i x hi => ?_⟩
  obtain ⟨us, h1, h2⟩ := hc i x hi
  exact ⟨us, hP _ _ h1, fun j u hj => by rw [hb.cell (p := ⟨b, off + i * c + j, none⟩) hlt]; exact h2 j u hj⟩

def SP (w : World) (us : List Value) (x : List Int) : Prop := ∃ u, us = [u] ∧ LV w u x
def WP (w : World) (us : List Value) (x : Int × List Int) : Prop := ∃ u, us = [.int .i64 x.1, u] ∧ LV w u x.2
def FP (_ : World) (us : List Value) (x : PFault) : Prop := us = [.int .i64 x.pos, .int .i64 x.keep, .int .i64 x.cut]
abbrev SView := RV 1 SP
abbrev WView := RV 2 WP
abbrev FView := RV 3 FP
theorem SP.below {w w' : World} (hb : Below w.heap.size w w') (us : List Value) (x : List Int) (h : SP w us x) : SP w' us x := by
  obtain ⟨u, e, hu⟩ := h
  exact ⟨u, e, hu.below hb⟩
theorem WP.below {w w' : World} (hb : Below w.heap.size w w') (us : List Value) (x : Int × List Int) (h : WP w us x) : WP w' us x := by
  obtain ⟨u, e, hu⟩ := h
  exact ⟨u, e, hu.below hb⟩
theorem sview_below {w w' : World} {a : Option Addr} {cap : Nat} {l : List (List Int)} (h : SView w a cap l) (hb : Below w.heap.size w w') : SView w' a cap l := h.below (SP.below hb) hb
theorem wview_below {w w' : World} {a : Option Addr} {cap : Nat} {l : List (Int × List Int)} (h : WView w a cap l) (hb : Below w.heap.size w w') : WView w' a cap l := h.below (WP.below hb) hb
theorem fview_below {w w' : World} {a : Option Addr} {cap : Nat} {l : List PFault} (h : FView w a cap l) (hb : Below w.heap.size w w') : FView w' a cap l := h.below (fun _ _ h => h) hb
/-- An element of a row of byte slices. -/
theorem sview_at {w : World} {a : Option Addr} {cap : Nat} {l : List (List Int)} (h : SView w a cap l) {i : Nat} (hi : i < l.length) : ∃ b off a' c', a = some ⟨b, off, none⟩ ∧ b < w.heap.size ∧ w.cell? ⟨b, off + i, none⟩ = some (.slice a' (l[i]).length c') ∧ View w a' (l[i]).length c' (bf l[i]) ∧ (a' = none → c' = 0) := by
  obtain ⟨b, off, e, hlt, hc⟩ := h.cells (by omega)
  obtain ⟨us, ⟨u, rfl, hu⟩, h2⟩ := hc i l[i] (List.getElem?_eq_getElem hi)
  obtain ⟨a', c', rfl, hv, hn⟩ := hu.is
  exact ⟨b, off, a', c', e, hlt, by simpa using h2 0 _ rfl, hv, hn⟩
theorem wview_at {w : World} {a : Option Addr} {cap : Nat} {l : List (Int × List Int)} (h : WView w a cap l) {i : Nat} (hi : i < l.length) : ∃ b off a' c', a = some ⟨b, off, none⟩ ∧ b < w.heap.size ∧ w.cell? ⟨b, off + i * 2, none⟩ = some (.int .i64 (l[i]).1) ∧ w.cell? ⟨b, off + i * 2 + 1, none⟩ = some (.slice a' (l[i]).2.length c') ∧ View w a' (l[i]).2.length c' (bf (l[i]).2) ∧ (a' = none → c' = 0) := by
  obtain ⟨b, off, e, hlt, hc⟩ := h.cells (by omega)
  obtain ⟨us, ⟨u, rfl, hu⟩, h2⟩ := hc i l[i] (List.getElem?_eq_getElem hi)
  obtain ⟨a', c', rfl, hv, hn⟩ := hu.is
  exact ⟨b, off, a', c', e, hlt, by simpa using h2 0 _ rfl, by simpa using h2 1 _ rfl, hv, hn⟩
theorem fview_at {w : World} {a : Option Addr} {cap : Nat} {l : List PFault} (h : FView w a cap l) {i : Nat} (hi : i < l.length) : ∃ b off, a = some ⟨b, off, none⟩ ∧ b < w.heap.size ∧ w.cell? ⟨b, off + i * 3, none⟩ = some (.int .i64 (l[i]).pos) ∧ w.cell? ⟨b, off + i * 3 + 1, none⟩ = some (.int .i64 (l[i]).keep) ∧ w.cell? ⟨b, off + i * 3 + 2, none⟩ = some (.int .i64 (l[i]).cut) := by
  obtain ⟨b, off, e, hlt, hc⟩ := h.cells (by omega)
  obtain ⟨us, rfl, h2⟩ := hc i l[i] (List.getElem?_eq_getElem hi)
  exact ⟨b, off, e, hlt, by simpa using h2 0 _ rfl, by simpa using h2 1 _ rfl, by simpa using h2 2 _ rfl⟩

/-- A disk's value. -/
structure KView (w : World) (v : Value) (D : PDisk) : Prop where
  is : ∃ sa sc ca cc fa fc, v = .agg #[.slice sa D.secs.length sc, .slice ca D.cache.length cc, .int .i64 D.ops, .slice fa D.faults.length fc, .bool D.down] ∧ SView w sa sc D.secs ∧ WView w ca cc D.cache ∧ FView w fa fc D.faults
theorem KView.below {w w' : World} {v : Value} {D : PDisk} (h : KView w v D) (hb : Below w.heap.size w w') : KView w' v D := by
  obtain ⟨sa, sc, ca, cc, fa, fc, e, h1, h2, h3⟩ := h.is
  exact ⟨sa, sc, ca, cc, fa, fc, e, sview_below h1 hb, wview_below h2 hb, fview_below h3 hb⟩
/-- Nothing is great. -/
structure KFine (D : PDisk) : Prop where
  ns : D.secs.length ≤ 1048576
  sec : ∀ x, x ∈ D.secs → x.length ≤ 1048576
  nc : D.cache.length ≤ 1048576
  cache : ∀ x, x ∈ D.cache → x.2.length ≤ 1048576
  nf : D.faults.length ≤ 1048576
end Go.Proofs.Ytdhfbblameiloaa

