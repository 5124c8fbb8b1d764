/-
  Together: Conv, MarkText, MarkKit11, MarkRows11, PartRow
-/
import Derived.Test.YtjoimkfpenbkmaaGreatDoorPackP2
import Derived.Test.YtjoimkfpenbkmaaGreatDoorPackP1
import Derived.Laws.BytesArg
import Derived.Deep.LoopGhost
import Derived.Test.YtjoimkfpenbkmaaGreatDoorPackP6
import Derived.Test.YtjoimkfpenbkmaaGreatDoorPackP4
/-
  Bytes as a string: what 'string(b)' comes to at a slice of bytes that reads.
-/
namespace Go.Proofs.YtjoimkfpenbkmaaGreatDoor
open Go.RowKit
set_option maxRecDepth 4000

theorem conv_view {w : World} {b off n cap : Nat} {f : Nat → Int} (hv : View w (some ⟨b, off, none⟩) n cap f) :
    (convert 22 9 (.slice (some ⟨b, off, none⟩) n cap)).run Tryz.prog w = .ok (.string (strOfNums (lof n f))) w := by
  refine run_convert_bytes_arg w 22 5 Tryz.underlying22 Tryz.underlying5 b off n cap (lof n f) (lof_len n f) ?_ 9 Tryz.underlying9
  intro i hi
  obtain ⟨b', off', e, _, hc⟩ := hv.cells (by omega)
  simp only [Option.some.injEq, Addr.mk.injEq, and_true] at e
  obtain ⟨rfl, rfl⟩ := e
  rw [hc i hi, lof_get n f i hi]

theorem strOfNums_inj {xs ys : List Int} (hx : ∀ y ∈ xs, 0 ≤ y ∧ y ≤ 255) (hy : ∀ y ∈ ys, 0 ≤ y ∧ y ≤ 255) (h : strOfNums xs = strOfNums ys) : xs = ys := by
  have h1 : xs.map (fun n => UInt8.ofNat n.toNat) = ys.map (fun n => UInt8.ofNat n.toNat) := by
    rw [← strOfNums_data, ← strOfNums_data, h]
  have key : ∀ a b : Int, 0 ≤ a ∧ a ≤ 255 → 0 ≤ b ∧ b ≤ 255 → UInt8.ofNat a.toNat = UInt8.ofNat b.toNat → a = b := by
    intro a b ha hb e
    have := congrArg UInt8.toNat e
    simp at this
    omega
  clear h
  induction xs generalizing ys with
  | nil => cases ys with
    | nil => rfl
    | cons y ys => simp at h1
  | cons x xs ih => cases ys with
    | nil => simp at h1
    | cons y ys =>
      simp only [List.map_cons, List.cons.injEq] at h1
      rw [key x y (hx x (by simp)) (hy y (by simp)) h1.1, ih (fun z hz => hx z (by simp [hz])) (fun z hz => hy z (by simp [hz])) h1.2]

end Go.Proofs.YtjoimkfpenbkmaaGreatDoor

/-
  What the law's own helper markText comes to: a text that hangs on the count alone.
-/
namespace Go.Proofs.YtjoimkfpenbkmaaGreatDoor
open Go.RowKit
set_option maxRecDepth 4000

theorem Row.litOne (w : World) (t : TypeId) (h : Int) : Row t (w.alloc (.cells #[.int .u8 h] t)) w.heap.size 1 (fun _ => h) :=
  Row.ofIs (World.rowIs_alloc w #[.int .u8 h] t (fun _ => .int .u8 h) (fun j hj => by match j, hj with | 0, _ => rfl))

/-- The digits of a number ahead of a text. -/
def digT (k : Nat) (acc : ByteArray) : ByteArray := if _h : k = 0 then acc else digT (k / 10) (strOfNums [48 + ((k % 10 : Nat) : Int)] ++ acc)
  termination_by k
  decreasing_by omega
def markT (k : Int) : ByteArray := if k ≤ 0 then ⟨#[109, 48]⟩ else (⟨#[109]⟩ : ByteArray) ++ digT k.toNat ⟨#[]⟩

set_option maxHeartbeats 1000000 in
theorem markText_any (k : Int) (w : World) (hk1 : k ≤ 4611686018427387904) :
    Calls Tryz.prog 131 #[.int .i64 k] w fun e w' => e = .returned (.string (markT k)) ∧ Below w.heap.size w w' := by
  by_cases h0 : k ≤ 0
  · have e : markT k = ⟨#[109, 48]⟩ := by unfold markT; rw [if_pos h0]
    rw [e]
    go_enter Tryz.func131, Tryz.ntmps131
    go_wp2
    go_ret
    exact ⟨rfl, Below.refl _ _⟩
  obtain ⟨m, rfl⟩ : ∃ m : Nat, k = m := ⟨k.toNat, by omega⟩
  have HM : Hid (markT (m : Int) = (⟨#[109]⟩ : ByteArray) ++ digT m ⟨#[]⟩) := by show _ = _; unfold markT; rw [if_neg h0]; rfl
  go_enter Tryz.func131, Tryz.ntmps131
  go_wp2
  go_loopg [0, 3] m (fun q kv s wr => ∃ (j : Nat) (acc : ByteArray), j ≤ m ∧ j = q ∧ kv = .int .i64 j ∧ s = .string acc ∧ digT j acc = digT m ⟨#[]⟩ ∧ acc.size + j ≤ m ∧ Below w.heap.size w wr)
  case atStart => exact ⟨m, _, Nat.le_refl _, rfl, rfl, rfl, rfl, by show 0 + m ≤ m; omega, Below.refl _ _⟩
  case round =>
    obtain ⟨j, acc, hj, hq, rfl, rfl, hd, hsz, hB⟩ := hrel
    subst hq
    have HD : Hid (digT j acc = digT m ⟨#[]⟩) := hd
    clear hd
    by_cases hz : j = 0
    · subst hz
      have HF : Hid (digT m ⟨#[]⟩ = acc) := by show _ = _; rw [← HD.out]; unfold digT; simp
      have hs1 : (⟨#[109]⟩ : ByteArray).size = 1 := rfl
      have hs2 : ¬ (1 + acc.size > 9223372036854775807) := by omega
      go_wp2
      go_ret
      exact ⟨by rw [HM.out, HF.out]; rfl, hB⟩
    · have hjz : (0 : Int) < (j : Int) := by omega
      obtain ⟨r, hr⟩ : ∃ r : Nat, Hid (j % 10 = r) := ⟨_, rfl⟩
      obtain ⟨d, hd⟩ : ∃ d : Nat, Hid (j / 10 = d) := ⟨_, rfl⟩
      have hr9 : r ≤ 9 := by have := hr.out; omega
      have hdj : d < j := by have := hd.out; omega
      have HN : Hid (digT d (strOfNums [48 + (r : Int)] ++ acc) = digT m ⟨#[]⟩) := by
        show _ = _
        rw [← HD.out]
        conv => rhs; unfold digT
        rw [dif_neg hz, hr.out, hd.out]
      have h1 : Int.tmod (j : Int) 10 = (r : Int) := by rw [← hr.out]; rfl
      have h2 : Int.tdiv (j : Int) 10 = (d : Int) := by rw [← hd.out]; rfl
      have h3 : IntKind.u8.wrap (48 + (r : Int)) = 48 + (r : Int) := by rw [u8_wrap]; omega
      have hcv := conv_view ((Row.litOne wr 5 (48 + (r : Int))).view (cap := 1) (Nat.le_refl _) (fun _ _ => ⟨by omega, by omega⟩))
      rw [show lof 1 (fun _ => 48 + (r : Int)) = [48 + (r : Int)] by simp [lof]] at hcv
      have hB2 : Below w.heap.size w (wr.alloc (.cells #[.int .u8 (48 + (r : Int))] 5)) := hB.alloc hB.size _
      have hs1 : (strOfNums [48 + (r : Int)]).size = 1 := by simp [strOfNums, ByteArray.size]
      have hs2 : ¬ (1 + acc.size > 9223372036854775807) := by omega
      have HZ : Hid ((strOfNums [48 + (r : Int)] ++ acc).size + d ≤ m) := by show _ ≤ _; rw [ByteArray.size_append, hs1]; omega
      clear HD
      go_wp2
      go_roundg d
      case measure => omega
      case rel => exact ⟨d, _, by omega, rfl, by go_num, rfl, HN.out, HZ.out, hB2⟩
end Go.Proofs.YtjoimkfpenbkmaaGreatDoor

/-
  What marking may turn: rows of the types of S from B on, which stay rows; the rest is as it was.
-/
namespace Go.Proofs.YtjoimkfpenbkmaaGreatDoor
open Go.RowKit
set_option maxRecDepth 4000

/-- Cells that no mark is written into: an index's parts, a table's rows. -/
def keepC (t : TypeId) (j : Nat) : Prop := (t = 37 ∧ j % 3 = 2) ∨ (t = 28 ∧ j % 4 ≠ 0)
structure Mk (S : TypeId → Prop) (B : Nat) (w w' : World) : Prop where
  os : w'.os = w.os
  tape : w'.tape = w.tape
  output : w'.output = w.output
  size : w.heap.size ≤ w'.heap.size
  low : ∀ k, k < B → k < w.heap.size → w'.heap[k]? = w.heap[k]?
  other : ∀ (k : Nat) (c : Array Value) (t : TypeId) (z : Nat × Nat), w.heap[k]? = some (Obj.cells c t z) → ¬ S t → w'.heap[k]? = w.heap[k]?
  row : ∀ (k : Nat) (c : Array Value) (t : TypeId), w.heap[k]? = some (Obj.cells c t (0, 0)) → ∃ c' : Array Value, w'.heap[k]? = some (Obj.cells c' t (0, 0)) ∧ c'.size = c.size ∧ ∀ j, keepC t j → c'[j]? = c[j]?
theorem Mk.refl (S : TypeId → Prop) (B : Nat) (w : World) : Mk S B w w := ⟨rfl, rfl, rfl, Nat.le_refl _, fun _ _ _ => rfl, fun _ _ _ _ _ _ => rfl, fun _ c _ h => ⟨c, h, rfl, fun _ _ => rfl⟩⟩
theorem Mk.trans {S : TypeId → Prop} {B : Nat} {a b c : World} (h : Mk S B a b) (k : Mk S B b c) : Mk S B a c := by
  refine ⟨k.os.trans h.os, k.tape.trans h.tape, k.output.trans h.output, Nat.le_trans h.size k.size, fun i hi hl => (k.low i hi (Nat.lt_of_lt_of_le hl h.size)).trans (h.low i hi hl), fun i c t z e hs => ?_, fun i x t e => ?_⟩
  · have e1 := h.other i c t z e hs
    exact (k.other i c t z (e1.trans e) hs).trans e1
  · obtain ⟨c1, e1, s1, k1⟩ := h.row i x t e
    obtain ⟨c2, e2, s2, k2⟩ := k.row i c1 t e1
    exact ⟨c2, e2, s2.trans s1, fun j hj => (k2 j hj).trans (k1 j hj)⟩
theorem Mk.ofBelow {S : TypeId → Prop} {B : Nat} {w w' : World} (h : Below w.heap.size w w') : Mk S B w w' := by
  have key : ∀ k o, w.heap[k]? = some o → w'.heap[k]? = w.heap[k]? := fun k o e => h.block k (Array.getElem?_eq_some_iff.1 e).1
  exact ⟨h.os, h.tape, h.output, h.size, fun k _ hl => h.block k hl, fun k c t z e _ => key k _ e, fun k c t e => ⟨c, (key k _ e).trans e, rfl, fun _ _ => rfl⟩⟩
theorem Mk.below {S : TypeId → Prop} {B : Nat} {w w' : World} (h : Mk S B w w') {n : Nat} (hn : n ≤ B) (hw : n ≤ w.heap.size) : Below n w w' := ⟨h.os, h.tape, h.output, h.size, fun k hk => h.low k (Nat.lt_of_lt_of_le hk hn) (Nat.lt_of_lt_of_le hk hw)⟩
/-- A mark is written. -/
theorem Mk.set {S : TypeId → Prop} {B : Nat} {w : World} {b m : Nat} {t : TypeId} {f : Nat → Value} (hr : w.rowIs b t m f) (hB : B ≤ b) (hS : S t) {j : Nat} (hk : ¬ keepC t j) (u : Value) : Mk S B w (w.setCell ⟨b, j, none⟩ u) := by
  have ho : ∀ k, k ≠ b → (w.setCell ⟨b, j, none⟩ u).heap[k]? = w.heap[k]? := fun k hk => Below.heap_setCell _ _ _ _ hk
  obtain ⟨c0, hb, -, -⟩ := hr
  refine ⟨rfl, rfl, rfl, by simp, fun k hk _ => ho k (by omega), fun k c t' z e hs => ?_, fun k c t' e => ?_⟩
  · by_cases hkb : k = b
    · subst hkb
      rw [hb] at e; cases e
      exact absurd hS hs
    · exact ho k hkb
  · by_cases hkb : k = b
    · subst hkb
      rw [hb] at e; cases e
      refine ⟨c0.setIfInBounds j u, by simp [World.setCell, Array.getElem?_modify, hb], by simp, fun q hq => ?_⟩
      have hne : ¬ j = q := fun e => hk (by rw [e]; exact hq)
      simp [hne]
    · exact ⟨c, (ho k hkb).trans e, rfl, fun _ _ => rfl⟩
theorem Mk.rowIs {S : TypeId → Prop} {B : Nat} {w w' : World} {b m : Nat} {t : TypeId} {f : Nat → Value} (h : Mk S B w w') (hr : w.rowIs b t m f) : ∃ f', w'.rowIs b t m f' ∧ ∀ j, j < m → keepC t j → f' j = f j := by
  obtain ⟨c, hb, hn, hc⟩ := hr
  obtain ⟨c', hb', hs, hk⟩ := h.row b c t hb
  refine ⟨fun j => (c'[j]?).getD default, ⟨c', hb', hs.trans hn, fun i hi => ?_⟩, fun j hj hkj => ?_⟩
  · have : i < c'.size := by rw [hs, hn]; exact hi
    simp [this]
  · simp [hk j hkj, hc j hj]
theorem own_mk {S : TypeId → Prop} {B : Nat} {W W' : World} {base T c N : Nat} {v : Value} {xs : List Value} (h : W.ownsRow base T c v N xs) (hm : Mk S B W W') (hT : ¬ S T) : W'.ownsRow base T c v N xs := by
  refine ⟨h.1, ?_⟩
  rcases h.2 with ⟨e, h0⟩ | ⟨g, k, cur, e, hb0, hg, hr⟩
  · exact .inl ⟨e, h0⟩
  · exact .inr ⟨g, k, cur, e, hb0, (hm.other g _ _ _ hg hT).trans hg, hr⟩

/-- Rows that may be marked. -/
def MkC (B : Nat) (w : World) (b n : Nat) : Prop := B ≤ b ∧ n ≤ 1048576 ∧ ∃ f, w.rowIs b 81 (n * 3) f
def MkB (B : Nat) (w : World) (b n : Nat) : Prop := B ≤ b ∧ n ≤ 1048576 ∧ ∃ f, w.rowIs b 78 (n * 2) f
def MkI (B : Nat) (w : World) (b n : Nat) : Prop := B ≤ b ∧ n ≤ 1048576 ∧ ∃ f, w.rowIs b 37 (n * 3) f ∧ ∀ i, i < n → ∃ A m c, f (i * 3 + 2) = .slice (some ⟨A, 0, none⟩) m c ∧ MkB B w A m
theorem MkC.on {S : TypeId → Prop} {B b n : Nat} {w w' : World} (h : MkC B w b n) (hm : Mk S B w w') : MkC B w' b n := by
  obtain ⟨h1, h2, f, hr⟩ := h
  obtain ⟨f', hr', -⟩ := hm.rowIs hr
  exact ⟨h1, h2, f', hr'⟩
theorem MkB.on {S : TypeId → Prop} {B b n : Nat} {w w' : World} (h : MkB B w b n) (hm : Mk S B w w') : MkB B w' b n := by
  obtain ⟨h1, h2, f, hr⟩ := h
  obtain ⟨f', hr', -⟩ := hm.rowIs hr
  exact ⟨h1, h2, f', hr'⟩
theorem MkI.on {S : TypeId → Prop} {B b n : Nat} {w w' : World} (h : MkI B w b n) (hm : Mk S B w w') : MkI B w' b n := by
  obtain ⟨h1, h2, f, hr, hp⟩ := h
  obtain ⟨f', hr', hk⟩ := hm.rowIs hr
  refine ⟨h1, h2, f', hr', fun i hi => ?_⟩
  obtain ⟨A, m, c, e, hb⟩ := hp i hi
  exact ⟨A, m, c, by rw [hk (i * 3 + 2) (by omega) (.inl ⟨rfl, by omega⟩), e], hb.on hm⟩
/-- A table's value whose rows may be marked. -/
theorem DOwn.marks {w : World} {B : Nat} {v : Value} {D : PDef} (h : DOwn w B v D) (hf : DFine D) : ∃ gc cc gp cp gi ci, v = .agg #[.string D.name, .slice (some ⟨gc, 0, none⟩) D.nc cc, .slice (some ⟨gp, 0, none⟩) D.np cp, .slice (some ⟨gi, 0, none⟩) D.ni ci] ∧ MkC B w gc D.nc ∧ MkB B w gp D.np ∧ MkI B w gi D.ni := by
  obtain ⟨gc, cc, gp, cp, gi, ci, e, h1, h2, hc, hp, hi⟩ := h.is
  refine ⟨gc, cc, gp, cp, gi, ci, e, ?_, ?_, ?_⟩
  · obtain ⟨b, g, eb, hr⟩ := hc.row
    cases eb
    exact ⟨h1, hf.nc, g, hr⟩
  · obtain ⟨b, g, eb, hr⟩ := hp.row
    cases eb
    exact ⟨h2, hf.np, g, hr⟩
  · obtain ⟨b, g, eb, hb, hr⟩ := hi.row
    cases eb
    refine ⟨hb, hf.ni, g, hr, fun i hil => ?_⟩
    obtain ⟨b', off, e', -, -, hcs⟩ := hi.cells (by omega)
    cases e'
    obtain ⟨-, -, A, c, hc2, hA, hB⟩ := hcs i hil
    rw [Nat.zero_add, hr.cell (i := i * 3 + 2) (by omega)] at hc2
    obtain ⟨q, g', eq, hr'⟩ := hB.row
    cases eq
    exact ⟨A, _, c, Option.some.inj hc2, hA, (hf.idx i hil).2, g', hr'⟩
end Go.Proofs.YtjoimkfpenbkmaaGreatDoor

/-
  What the law's own helpers markColS, markByS, markIndexS, markDef come to, by what they may turn alone.
-/
namespace Go.Proofs.YtjoimkfpenbkmaaGreatDoor
open Go.RowKit
set_option maxRecDepth 4000

theorem keepC_col (j : Nat) : ¬ keepC 81 j := by rintro (⟨h, -⟩ | ⟨h, -⟩) <;> exact absurd h (by decide)
theorem keepC_by (j : Nat) : ¬ keepC 78 j := by rintro (⟨h, -⟩ | ⟨h, -⟩) <;> exact absurd h (by decide)
theorem keepC_idx {j : Nat} (hj : j % 3 ≠ 2) : ¬ keepC 37 j := by
  rintro (⟨-, h⟩ | ⟨h, -⟩)
  · exact hj h
  · exact absurd h (by decide)

set_option maxHeartbeats 2000000 in
theorem markColS_mk {S : TypeId → Prop} (hS : S 81) (B b n cap : Nat) (k : Int) (w : World) (hM : MkC B w b n) (hk : 0 ≤ k) (hk1 : k + 3 * n ≤ 4611686018427387904) :
    Calls Tryz.prog 85 #[.slice (some ⟨b, 0, none⟩) n cap, .int .i64 k] w fun e w' => e = .returned (.int .i64 (k + 3 * n)) ∧ Mk S B w w' := by
  obtain ⟨hB, hn, f, hr⟩ := hM
  go_enter Tryz.func85, Tryz.ntmps85
  go_wp2
  go_loopg [1, 5] n (fun g s i wr => ∃ j : Nat, j ≤ n ∧ g = n - j ∧ s = .int .i64 (k + 3 * j) ∧ i = .int .i64 j ∧ Mk S B w wr ∧ ∃ f', wr.rowIs b 81 (n * 3) f')
  case atStart => exact ⟨0, Nat.zero_le _, rfl, by simp, rfl, Mk.refl _ _ _, f, hr⟩
  case round =>
    obtain ⟨j, hj, rfl, rfl, rfl, hO, f', hr'⟩ := hrel
    clear hr
    by_cases hlt : j < n
    · have hjz : (j : Int) < (n : Int) := by omega
      have hMt := markText_any (k + 3 * j) wr (by omega)
      go_wp2_with fail
      refine hMt.mono ?_
      rintro e w2 ⟨rfl, hb⟩
      obtain ⟨mt, hmt⟩ : ∃ x, Hid (markT (k + 3 * j) = x) := ⟨_, rfl⟩
      rw [hmt.out]
      have hr2 := rowIs_below9 hr' hb hr'.lt
      have hO2 := hO.trans (Mk.ofBelow (S := S) (B := B) hb)
      have z0 := hr2.cell (i := j * 3) (by omega)
      have z1 := hr2.cell (i := j * 3 + 1) (by omega)
      have z2 := hr2.cell (i := j * 3 + 2) (by omega)
      have f0 := hr2.frozen (j * 3)
      have f1 := hr2.frozen (j * 3 + 1)
      have f2 := hr2.frozen (j * 3 + 2)
      have HS : Hid (∀ u0 u1 u2 : Value, Mk S B w (((w2.setCell ⟨b, j * 3, none⟩ u0).setCell ⟨b, j * 3 + 1, none⟩ u1).setCell ⟨b, j * 3 + 2, none⟩ u2) ∧ ∃ f', (((w2.setCell ⟨b, j * 3, none⟩ u0).setCell ⟨b, j * 3 + 1, none⟩ u1).setCell ⟨b, j * 3 + 2, none⟩ u2).rowIs b 81 (n * 3) f') := fun u0 u1 u2 =>
        ⟨((hO2.trans (Mk.set hr2 hB hS (keepC_col _) u0)).trans (Mk.set (hr2.set _ _) hB hS (keepC_col _) u1)).trans (Mk.set ((hr2.set _ _).set _ _) hB hS (keepC_col _) u2), _, ((hr2.set _ _).set _ _).set _ _⟩
      clear hr' hr2 hO hO2 hMt hb
      go_wp2
      go_roundg (n - (j + 1))
      case measure => omega
      case rel => exact ⟨j + 1, by omega, rfl, by go_num, by go_num, (HS.out _ _ _).1, (HS.out _ _ _).2⟩
    · obtain rfl : j = n := by omega
      have hjz : ¬ (j : Int) < (j : Int) := by omega
      clear hr'
      go_wp2
      go_ret
      exact ⟨rfl, hO⟩

set_option maxHeartbeats 2000000 in
theorem markByS_mk {S : TypeId → Prop} (hS : S 78) (B b n cap : Nat) (k : Int) (w : World) (hM : MkB B w b n) (hk : 0 ≤ k) (hk1 : k + 2 * n ≤ 4611686018427387904) :
    Calls Tryz.prog 86 #[.slice (some ⟨b, 0, none⟩) n cap, .int .i64 k] w fun e w' => e = .returned (.int .i64 (k + 2 * n)) ∧ Mk S B w w' := by
  obtain ⟨hB, hn, f, hr⟩ := hM
  go_enter Tryz.func86, Tryz.ntmps86
  go_wp2
  go_loopg [1, 5] n (fun g s i wr => ∃ j : Nat, j ≤ n ∧ g = n - j ∧ s = .int .i64 (k + 2 * j) ∧ i = .int .i64 j ∧ Mk S B w wr ∧ ∃ f', wr.rowIs b 78 (n * 2) f')
  case atStart => exact ⟨0, Nat.zero_le _, rfl, by simp, rfl, Mk.refl _ _ _, f, hr⟩
  case round =>
    obtain ⟨j, hj, rfl, rfl, rfl, hO, f', hr'⟩ := hrel
    clear hr
    by_cases hlt : j < n
    · have hjz : (j : Int) < (n : Int) := by omega
      have z0 := hr'.cell (i := j * 2) (by omega)
      have z1 := hr'.cell (i := j * 2 + 1) (by omega)
      have f0 := hr'.frozen (j * 2)
      have f1 := hr'.frozen (j * 2 + 1)
      have HS : Hid (∀ u0 u1 : Value, Mk S B w ((wr.setCell ⟨b, j * 2, none⟩ u0).setCell ⟨b, j * 2 + 1, none⟩ u1) ∧ ∃ f', ((wr.setCell ⟨b, j * 2, none⟩ u0).setCell ⟨b, j * 2 + 1, none⟩ u1).rowIs b 78 (n * 2) f') := fun u0 u1 =>
        ⟨(hO.trans (Mk.set hr' hB hS (keepC_by _) u0)).trans (Mk.set (hr'.set _ _) hB hS (keepC_by _) u1), _, (hr'.set _ _).set _ _⟩
      clear hr' hO
      go_wp2
      go_roundg (n - (j + 1))
      case measure => omega
      case rel => exact ⟨j + 1, by omega, rfl, by go_num, by go_num, (HS.out _ _).1, (HS.out _ _).2⟩
    · obtain rfl : j = n := by omega
      have hjz : ¬ (j : Int) < (j : Int) := by omega
      clear hr'
      go_wp2
      go_ret
      exact ⟨rfl, hO⟩

set_option maxHeartbeats 4000000 in
theorem markIndexS_mk {S : TypeId → Prop} (hS : S 37) (hSB : S 78) (B b n cap : Nat) (k : Int) (w : World) (hM : MkI B w b n) (hk : 0 ≤ k) (hk1 : k + 2097154 * n ≤ 4611686018427387904) :
    Calls Tryz.prog 87 #[.slice (some ⟨b, 0, none⟩) n cap, .int .i64 k] w fun e w' => ∃ k' : Int, e = .returned (.int .i64 k') ∧ k ≤ k' ∧ k' ≤ k + 2097154 * n ∧ Mk S B w w' := by
  have hn := hM.2.1
  go_enter Tryz.func87, Tryz.ntmps87
  go_wp2
  go_loopg [1, 5] n (fun g s i wr => ∃ (j : Nat) (K : Int), j ≤ n ∧ g = n - j ∧ s = .int .i64 K ∧ i = .int .i64 j ∧ k ≤ K ∧ K ≤ k + 2097154 * j ∧ Mk S B w wr)
  case atStart => exact ⟨0, k, Nat.zero_le _, rfl, rfl, rfl, Int.le_refl _, by simp, Mk.refl _ _ _⟩
  case round =>
    obtain ⟨j, K, hj, rfl, rfl, rfl, hK0, hK1, hO⟩ := hrel
    by_cases hlt : j < n
    · have hjz : (j : Int) < (n : Int) := by omega
      have hMt := markText_any K wr (by omega)
      go_wp2_with fail
      refine hMt.mono ?_
      rintro e w2 ⟨rfl, hb⟩
      obtain ⟨mt, hmt⟩ : ∃ x, Hid (markT K = x) := ⟨_, rfl⟩
      rw [hmt.out]
      have hO2 := hO.trans (Mk.ofBelow (S := S) (B := B) hb)
      obtain ⟨hB, -, f, hr2, hp⟩ := hM.on hO2
      obtain ⟨A, m, c, ef, hMB⟩ := hp j hlt
      have hm := hMB.2.1
      have z0 := hr2.cell (i := j * 3) (by omega)
      have z1 := hr2.cell (i := j * 3 + 1) (by omega)
      have f0 := hr2.frozen (j * 3)
      have f1 := hr2.frozen (j * 3 + 1)
      have r4 := (hr2.set (j * 3) (.string mt)).set (j * 3 + 1) (.bool ((K + 1) % 3 == 0))
      have M4 := (Mk.set (S := S) hr2 hB hS (keepC_idx (j := j * 3) (by omega)) (.string mt)).trans (Mk.set (hr2.set (j * 3) (.string mt)) hB hS (keepC_idx (j := j * 3 + 1) (by omega)) (.bool ((K + 1) % 3 == 0)))
      have z2 := r4.cell (i := j * 3 + 2) (by omega)
      simp only [show ¬ (j * 3 + 2 = j * 3 + 1) by omega, show ¬ (j * 3 + 2 = j * 3) by omega, if_false, ef] at z2
      obtain ⟨W3, hW3⟩ : ∃ W3, Hid ((w2.setCell ⟨b, j * 3, none⟩ (.string mt)).setCell ⟨b, j * 3 + 1, none⟩ (.bool ((K + 1) % 3 == 0)) = W3) := ⟨_, rfl⟩
      rw [hW3.out] at M4 z2
      have HO3 : Hid (Mk S B w W3) := hO2.trans M4
      have hBy := markByS_mk hSB B A m c (K + 1 + 1) W3 (hMB.on M4) (by omega) (by omega)
      clear hMt hb hO hO2 hr2 hp hMB r4 M4
      go_wp2_with (rw [hW3.out])
      refine hBy.mono ?_
      rintro e w4 ⟨rfl, hM4⟩
      have HR : Hid (Mk S B w w4) := HO3.out.trans hM4
      clear hBy hM4 HO3
      go_wp2
      go_roundg (n - (j + 1))
      case measure => omega
      case rel => exact ⟨j + 1, K + 1 + 1 + 2 * m, by omega, rfl, by go_num, by go_num, by omega, by push_cast; omega, HR.out⟩
    · obtain rfl : j = n := by omega
      have hjz : ¬ (j : Int) < (j : Int) := by omega
      clear hM
      go_wp2
      go_ret
      exact ⟨K, rfl, hK0, hK1, hO⟩

/-- The types that a table's marks are written into. -/
def S3 (t : TypeId) : Prop := t = 81 ∨ t = 78 ∨ t = 37
set_option maxHeartbeats 4000000 in
theorem markDef_mk (B : Nat) (v : Value) (D : PDef) (w : World) (h : DOwn w B v D) (hf : DFine D) :
    Calls Tryz.prog 37 #[v, .int .i64 1] w fun e w' => ∃ k' : Int, e = .returned (.int .i64 k') ∧ 0 ≤ k' ∧ Mk S3 B w w' := by
  obtain ⟨gc, cc, gp, cp, gi, ci, rfl, hC, hP, hX⟩ := h.marks hf
  have hnc := hC.2.1
  have hnp := hP.2.1
  have hni := hX.2.1
  clear h hf
  have hb0 : Below w.heap.size w (w.alloc (.cells #[.string D.name, .slice (some ⟨gc, 0, none⟩) D.nc cc, .slice (some ⟨gp, 0, none⟩) D.np cp, .slice (some ⟨gi, 0, none⟩) D.ni ci] 28)) := (Below.refl _ _).alloc (Nat.le_refl _) _
  have m0 : Mk S3 B w _ := Mk.ofBelow hb0
  have V0 := World.rowIs_alloc w #[.string D.name, .slice (some ⟨gc, 0, none⟩) D.nc cc, .slice (some ⟨gp, 0, none⟩) D.np cp, .slice (some ⟨gi, 0, none⟩) D.ni ci] 28 (fun j => (#[Value.string D.name, .slice (some ⟨gc, 0, none⟩) D.nc cc, .slice (some ⟨gp, 0, none⟩) D.np cp, .slice (some ⟨gi, 0, none⟩) D.ni ci][j]?).getD default) (fun i hi => by rw [Array.getElem?_eq_getElem hi]; rfl)
  obtain ⟨W0, hW0⟩ : ∃ W0, Hid (w.alloc (.cells #[.string D.name, .slice (some ⟨gc, 0, none⟩) D.nc cc, .slice (some ⟨gp, 0, none⟩) D.np cp, .slice (some ⟨gi, 0, none⟩) D.ni ci] 28) = W0) := ⟨_, rfl⟩
  rw [hW0.out] at m0 V0
  have HBX : Hid (∀ W, Mk S3 B W0 W → W.cell? ⟨w.heap.size, 1, none⟩ = some (.slice (some ⟨gc, 0, none⟩) D.nc cc) ∧ W.cell? ⟨w.heap.size, 2, none⟩ = some (.slice (some ⟨gp, 0, none⟩) D.np cp) ∧ W.cell? ⟨w.heap.size, 3, none⟩ = some (.slice (some ⟨gi, 0, none⟩) D.ni ci)) := by
    intro W hm
    obtain ⟨c, hb, hs, hc⟩ := V0
    have hnS : ¬ S3 28 := by rintro (h | h | h) <;> exact absurd h (by decide)
    have e := hm.other _ _ _ _ hb hnS
    have hr : W.rowIs w.heap.size 28 _ _ := ⟨c, e.trans hb, hs, hc⟩
    exact ⟨hr.cell (i := 1) (by simp), hr.cell (i := 2) (by simp), hr.cell (i := 3) (by simp)⟩
  have h1 := markColS_mk (S := S3) (.inl rfl) B gc D.nc cc 1 W0 (hC.on m0) (by omega) (by omega)
  obtain ⟨x1, x2, x3⟩ := HBX.out W0 (Mk.refl _ _ _)
  have HM : Hid (Mk S3 B w W0) := m0
  clear V0 hb0 hC m0
  obtain ⟨N1, hN1⟩ : ∃ x, Hid (D.nc = x) := ⟨_, rfl⟩
  obtain ⟨N2, hN2⟩ : ∃ x, Hid (D.np = x) := ⟨_, rfl⟩
  obtain ⟨N3, hN3⟩ : ∃ x, Hid (D.ni = x) := ⟨_, rfl⟩
  rw [hN1.out] at h1 hnc
  rw [hN2.out] at hP hnp
  rw [hN3.out] at hX hni
  simp only [hN1.out, hN2.out, hN3.out] at x1 x2 x3 HBX hW0 ⊢
  go_enter Tryz.func37, Tryz.ntmps37
  go_wp2_with (rw [hW0.out])
  refine h1.mono ?_
  rintro e w1 ⟨rfl, m1⟩
  clear x1 x2 x3 h1
  obtain ⟨x1, x2, x3⟩ := HBX.out w1 m1
  have h2 := markByS_mk (S := S3) (.inr (.inl rfl)) B gp N2 cp (1 + 3 * N1) w1 ((hP.on HM.out).on m1) (by omega) (by omega)
  clear hP
  go_wp2_with fail
  refine h2.mono ?_
  rintro e w2 ⟨rfl, m2⟩
  have m12 := m1.trans m2
  clear x1 x2 x3 h2 m1 m2
  obtain ⟨x1, x2, x3⟩ := HBX.out w2 m12
  have h3 := markIndexS_mk (S := S3) (.inr (.inr rfl)) (.inr (.inl rfl)) B gi N3 ci (1 + 3 * N1 + 2 * N2) w2 ((hX.on HM.out).on m12) (by omega) (by omega)
  clear hX
  go_wp2_with fail
  refine h3.mono ?_
  rintro e w3 ⟨k', rfl, hk0, -, m3⟩
  have HR : Hid (Mk S3 B w w3) := HM.out.trans (m12.trans m3)
  clear x1 x2 x3 h3 m12 m3 HBX
  go_wp2
  go_ret
  exact ⟨k', rfl, by omega, HR.out⟩
end Go.Proofs.YtjoimkfpenbkmaaGreatDoor

/-
  Rows of parts of the call's own, that grow by one part at a time.
-/
namespace Go.Proofs.YtjoimkfpenbkmaaGreatDoor
open Go.RowKit
set_option maxRecDepth 4000

/-- The cells of the first k parts. -/
def rowP (gc gt : Nat → Int) (gu gd : Nat → Bool) : Nat → List Value
  | 0 => []
  | k + 1 => rowP gc gt gu gd k ++ [.int .i64 (gc k), .int .i64 (gt k), .bool (gu k), .bool (gd k)]
theorem rowP_len (gc gt : Nat → Int) (gu gd : Nat → Bool) : ∀ k, (rowP gc gt gu gd k).length = k * 4
  | 0 => rfl
  | k + 1 => by rw [rowP, List.length_append, rowP_len gc gt gu gd k]; simp; omega
theorem rowP_get (gc gt : Nat → Int) (gu gd : Nat → Bool) : ∀ k i, i < k → (rowP gc gt gu gd k)[i * 4]? = some (.int .i64 (gc i)) ∧ (rowP gc gt gu gd k)[i * 4 + 1]? = some (.int .i64 (gt i)) ∧ (rowP gc gt gu gd k)[i * 4 + 2]? = some (.bool (gu i)) ∧ (rowP gc gt gu gd k)[i * 4 + 3]? = some (.bool (gd i))
  | k + 1, i, hi => by
    have hl := rowP_len gc gt gu gd k
    by_cases e : i < k
    · obtain ⟨h1, h2, h3, h4⟩ := rowP_get gc gt gu gd k i e
      rw [rowP, List.getElem?_append_left (by omega), List.getElem?_append_left (by omega), List.getElem?_append_left (by omega), List.getElem?_append_left (by omega)]
      exact ⟨h1, h2, h3, h4⟩
    · obtain rfl : i = k := by omega
      rw [rowP, List.getElem?_append_right (by omega), List.getElem?_append_right (by omega), List.getElem?_append_right (by omega), List.getElem?_append_right (by omega), hl]
      simp [show i * 4 + 1 - i * 4 = 1 by omega, show i * 4 + 2 - i * 4 = 2 by omega, show i * 4 + 3 - i * 4 = 3 by omega]
theorem rowP_congr {gc gt : Nat → Int} {gu gd : Nat → Bool} {hc ht : Nat → Int} {hu hd : Nat → Bool} : ∀ {k : Nat}, (∀ i, i < k → gc i = hc i ∧ gt i = ht i ∧ gu i = hu i ∧ gd i = hd i) → rowP gc gt gu gd k = rowP hc ht hu hd k
  | 0, _ => rfl
  | k + 1, e => by
    obtain ⟨h1, h2, h3, h4⟩ := e k (by omega)
    rw [rowP, rowP, rowP_congr (fun i hi => e i (by omega)), h1, h2, h3, h4]

/-- A row of parts of the call's own reads. -/
theorem pview_of_own {w : World} {base : Nat} {v : Value} {N : Nat} {gc gt : Nat → Int} {gu gd : Nat → Bool} (h : w.ownsRow base 39 4 v N (rowP gc gt gu gd N)) : ∃ a c, v = .slice a N c ∧ PView w a N c gc gt gu gd ∧ (v ≠ .slice none 0 0 → ∃ g, a = some ⟨g, 0, none⟩ ∧ base ≤ g) := by
  obtain ⟨hl, h⟩ := h
  rcases h with ⟨rfl, h0⟩ | ⟨g, c, cur, rfl, hb, hg, hnc, _, hcs, ht⟩
  · have hN : N = 0 := by have := h0; have := rowP_len gc gt gu gd N; omega
    subst hN
    exact ⟨none, 0, rfl, ⟨Nat.le_refl _, fun hn => absurd hn (Nat.lt_irrefl _)⟩, fun hne => absurd rfl hne⟩
  · refine ⟨_, c, rfl, ⟨hnc, fun hn => ⟨g, 0, rfl, ?_, fun i hi => ?_⟩⟩, fun _ => ⟨g, rfl, hb⟩⟩
    · exact (Array.getElem?_eq_some_iff.1 hg).1
    · have key : ∀ j x, j < N * 4 → (rowP gc gt gu gd N)[j]? = some x → w.cell? ⟨g, 0 + j, none⟩ = some x := by
        intro j x hj hx
        rw [← ht, List.getElem?_take, if_pos hj] at hx
        simp only [World.cell?, hg, Nat.zero_add]
        simpa using hx
      obtain ⟨h1, h2, h3, h4⟩ := rowP_get gc gt gu gd N i hi
      have k0 := key _ _ (by omega) h1
      have k1 := key _ _ (by omega) h2
      have k2 := key _ _ (by omega) h3
      have k3 := key _ _ (by omega) h4
      simp only [Nat.zero_add] at k0 k1 k2 k3 ⊢
      exact ⟨k0, k1, k2, k3⟩
end Go.Proofs.YtjoimkfpenbkmaaGreatDoor

