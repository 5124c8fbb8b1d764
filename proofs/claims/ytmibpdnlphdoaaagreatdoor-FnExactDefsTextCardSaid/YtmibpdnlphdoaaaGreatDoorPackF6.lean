/-
  Together: CopyDefs, Box44, BytesEq, EqDef
-/
import Derived.Test.YtmibpdnlphdoaaaGreatDoorPackF3
import Derived.Test.YtmibpdnlphdoaaaGreatDoorPackF5
import Derived.Test.YtmibpdnlphdoaaaGreatDoorPackF1
import Derived.Deep.LoopGhost
import Derived.Deep.RegionHeld3
/-
  A row of tables copied into a new one, as the law does it.
-/
namespace Go.Proofs.YtmibpdnlphdoaaaGreatDoor
open Go.RowKit
set_option maxRecDepth 4000

def cellDef (f : Nat → PDef) (V : Nat → Value × Value × Value) (j : Nat) : Value := if j % 4 = 0 then .string (f (j / 4)).name else if j % 4 = 1 then (V (j / 4)).1 else if j % 4 = 2 then (V (j / 4)).2.1 else (V (j / 4)).2.2
def zeroDef (j : Nat) : Value := if j % 4 = 0 then .string ⟨#[]⟩ else .slice none 0 0
theorem makeDef (n : Nat) (h : n ≤ 1048576) (w : World) : (Instr.makeSlice 24 (.int .i64 (n : Int)) (.int .i64 (n : Int))).run Tryz.prog w = .ok (.slice (some ⟨w.heap.size, 0, none⟩) n n) (w.alloc (.cells (madeCells #[.string ⟨#[]⟩, .slice none 0 0, .slice none 0 0, .slice none 0 0] (n * 4)) 35)) := by
  obtain ⟨i, hi, hz, hs, hb⟩ := infoDef
  have hr := run_make (P := Tryz.prog) w 24 35 i _ Tryz.underlying24 hi hz .i64 .i64 n n (by omega) (Int.le_refl _) (by rw [hb]; omega) (by omega)
  simp only [Int.toNat_natCast, hs] at hr
  exact hr

/-- k of the n elements are copied into the new row. -/
structure CopiedDef (w wr : World) (n : Nat) (f : Nat → PDef) (V : Nat → Value × Value × Value) (k : Nat) : Prop where
  below : Below w.heap.size w wr
  size : w.heap.size < wr.heap.size
  row : wr.rowIs w.heap.size 35 (n * 4) (fun j => if j < k * 4 then cellDef f V j else zeroDef j)
  views : ∀ i, i < k → DOwn wr (w.heap.size + 1) (.agg #[.string (f i).name, (V i).1, (V i).2.1, (V i).2.2]) (f i)
theorem copiedDef_start (w : World) (n : Nat) (f : Nat → PDef) (V : Nat → Value × Value × Value) : CopiedDef w (w.alloc (.cells (madeCells #[.string ⟨#[]⟩, .slice none 0 0, .slice none 0 0, .slice none 0 0] (n * 4)) 35)) n f V 0 := by
  have hr := World.rowIs_alloc w (madeCells #[.string ⟨#[]⟩, .slice none 0 0, .slice none 0 0, .slice none 0 0] (n * 4)) 35 zeroDef (fun i hi => by
    rw [size_madeCells] at hi
    simp [madeCells, hi, zeroDef]
    have h3 : i % 4 = 0 ∨ i % 4 = 1 ∨ i % 4 = 2 ∨ i % 4 = 3 := by omega
    rcases h3 with h | h | h | h <;> simp [h])
  rw [size_madeCells] at hr
  exact ⟨(Below.refl _ _).alloc (Nat.le_refl _) _, by simp, hr.congr (fun i _ => by simp), fun i hi => absurd hi (Nat.not_lt_zero _)⟩
theorem CopiedDef.step {w wr w2 : World} {n : Nat} {f : Nat → PDef} {V : Nat → Value × Value × Value} {k : Nat} (h : CopiedDef w wr n f V k) (hb : Below wr.heap.size wr w2) : CopiedDef w w2 n f V k :=
  ⟨h.below.trans (hb.mono h.below.size), Nat.lt_of_lt_of_le h.size hb.size, rowIs_below9 h.row hb h.size, fun i hi => (h.views i hi).below hb⟩
theorem CopiedDef.put {w wr : World} {n : Nat} {f : Nat → PDef} {V : Nat → Value × Value × Value} {k : Nat} (h : CopiedDef w wr n f V k) (hA : DOwn wr (w.heap.size + 1) (.agg #[.string (f k).name, (V k).1, (V k).2.1, (V k).2.2]) (f k)) :
    CopiedDef w ((((wr.setCell ⟨w.heap.size, k * 4, none⟩ (.string (f k).name)).setCell ⟨w.heap.size, k * 4 + 1, none⟩ (V k).1).setCell ⟨w.heap.size, k * 4 + 2, none⟩ (V k).2.1).setCell ⟨w.heap.size, k * 4 + 3, none⟩ (V k).2.2) n f V (k + 1) := by
  refine ⟨((((h.below.setCell (Nat.le_refl _) _).setCell (Nat.le_refl _) _).setCell (Nat.le_refl _) _).setCell (Nat.le_refl _) _), by simpa using h.size, (((((h.row.set _ _).set _ _).set _ _).set _ _).congr (fun i _ => ?_)), fun i hi => ?_⟩
  · by_cases e3 : i = k * 4 + 3
    · subst e3
      have m : (k * 4 + 3) % 4 = 3 := by omega
      have d : (k * 4 + 3) / 4 = k := by omega
      simp [cellDef, m, d, show k * 4 + 3 < (k + 1) * 4 by omega]
    by_cases e2 : i = k * 4 + 2
    · subst e2
      have m : (k * 4 + 2) % 4 = 2 := by omega
      have d : (k * 4 + 2) / 4 = k := by omega
      simp [cellDef, m, d, show k * 4 + 2 < (k + 1) * 4 by omega]
    by_cases e1 : i = k * 4 + 1
    · subst e1
      have m : (k * 4 + 1) % 4 = 1 := by omega
      have d : (k * 4 + 1) / 4 = k := by omega
      simp [cellDef, m, d, show k * 4 + 1 < (k + 1) * 4 by omega]
    by_cases e0 : i = k * 4
    · subst e0
      have m : (k * 4) % 4 = 0 := by omega
      have d : (k * 4) / 4 = k := by omega
      simp [cellDef, m, d, show k * 4 < (k + 1) * 4 by omega]
    simp only [e0, e1, e2, e3, if_false]
    by_cases hlt : i < k * 4
    · rw [if_pos hlt, if_pos (by omega)]
    · rw [if_neg hlt, if_neg (by omega)]
  · have key : ∀ i, i < k + 1 → DOwn wr (w.heap.size + 1) (.agg #[.string (f i).name, (V i).1, (V i).2.1, (V i).2.2]) (f i) := by
      intro i hi
      by_cases e : i < k
      · exact h.views i e
      · obtain rfl : i = k := by omega
        exact hA
    exact ((((key i hi).set (by omega) _ _).set (by omega) _ _).set (by omega) _ _).set (by omega) _ _
theorem CopiedDef.view {w wr : World} {n : Nat} {f : Nat → PDef} {V : Nat → Value × Value × Value} (h : CopiedDef w wr n f V n) : LView wr (some ⟨w.heap.size, 0, none⟩) n n f := by
  refine ⟨Nat.le_refl _, fun _ => ⟨_, 0, rfl, h.size, fun i hi => ?_⟩⟩
  have c0 := h.row.cell (i := i * 4) (by omega)
  have m0 : (i * 4) % 4 = 0 := by omega
  have d0 : (i * 4) / 4 = i := by omega
  simp only [show i * 4 < n * 4 by omega, if_true, cellDef, m0, d0] at c0
  have c1 := h.row.cell (i := i * 4 + 1) (by omega)
  have m1 : (i * 4 + 1) % 4 = 1 := by omega
  have d1 : (i * 4 + 1) / 4 = i := by omega
  simp only [show i * 4 + 1 < n * 4 by omega, if_true, cellDef, m1, d1] at c1
  have c2 := h.row.cell (i := i * 4 + 2) (by omega)
  have m2 : (i * 4 + 2) % 4 = 2 := by omega
  have d2 : (i * 4 + 2) / 4 = i := by omega
  simp only [show i * 4 + 2 < n * 4 by omega, if_true, cellDef, m2, d2] at c2
  have c3 := h.row.cell (i := i * 4 + 3) (by omega)
  have m3 : (i * 4 + 3) % 4 = 3 := by omega
  have d3 : (i * 4 + 3) / 4 = i := by omega
  simp only [show i * 4 + 3 < n * 4 by omega, if_true, cellDef, m3, d3] at c3
  rw [Nat.zero_add]
  exact ⟨_, _, _, by simpa using c0, by simpa using c1, by simpa using c2, by simpa using c3, (h.views i hi).view⟩
/-- The values, with one more. -/
def upV (V : Nat → Value × Value × Value) (k : Nat) (v : Value × Value × Value) : Nat → Value × Value × Value := fun i => if i = k then v else V i
theorem CopiedDef.up {w wr : World} {n : Nat} {f : Nat → PDef} {V : Nat → Value × Value × Value} {k : Nat} (h : CopiedDef w wr n f V k) (v : Value × Value × Value) : CopiedDef w wr n f (upV V k v) k := by
  refine ⟨h.below, h.size, h.row.congr (fun i _ => ?_), fun i hi => ?_⟩
  · by_cases e : i < k * 4
    · have d : i / 4 ≠ k := by omega
      simp [e, cellDef, upV, d]
    · simp [e]
  · have d : i ≠ k := by omega
    have := h.views i hi
    simpa [upV, d] using this

set_option maxHeartbeats 2000000 in
theorem toDefS_any (a : Option Addr) (n cap : Nat) (f : Nat → PDef) (w : World) (h : LView w a n cap f) (hf : LFine n f) :
    Calls Tryz.prog 23 #[.slice a n cap] w fun e w' => e = .returned (.slice (some ⟨w.heap.size, 0, none⟩) n n) ∧ LView w' (some ⟨w.heap.size, 0, none⟩) n n f ∧ Below w.heap.size w w' ∧ w.heap.size < w'.heap.size := by
  have hn := hf.few
  have hmk := fun W => makeDef n hn W
  go_enter Tryz.func23, Tryz.ntmps23
  go_wp2
  clear hmk
  go_loopg [4] n (fun q i wr => ∃ (k : Nat) (V : Nat → Value × Value × Value), k ≤ n ∧ q = n - k ∧ i = .int .i64 k ∧ CopiedDef w wr n f V k)
  case atStart => exact ⟨0, fun _ => (.string ⟨#[]⟩, .string ⟨#[]⟩, .string ⟨#[]⟩), Nat.zero_le _, rfl, rfl, copiedDef_start w n f _⟩
  case round =>
    obtain ⟨k, V, hk, rfl, rfl, hC⟩ := hrel
    by_cases hlt : k < n
    · obtain ⟨b1, o1, rfl, hb1, hc1⟩ := (h.below hC.below).cells (by omega)
      obtain ⟨y1, y2, y3, x0, x1, x2, x3, hv⟩ := hc1 k hlt
      have hkz : (k : Int) < (n : Int) := by omega
      have hV := toDef_any _ (f k) wr hv (hf.at_ k hlt)
      clear hf hv
      go_wp2_with fail
      refine hV.mono ?_
      rintro e w2 ⟨v', rfl, hO, hB2⟩
      have hO' := hO.mono (B' := w.heap.size + 1) hC.size
      obtain ⟨gc, cc, gp, cp, gi, ci, rfl, -, -, -, -, -⟩ := hO.is
      have hC2 := (hC.step hB2).up (.slice (some ⟨gc, 0, none⟩) (f k).nc cc, .slice (some ⟨gp, 0, none⟩) (f k).np cp, .slice (some ⟨gi, 0, none⟩) (f k).ni ci)
      have hup : ∀ v, upV V k v k = v := fun v => by simp [upV]
      have hS0 := hC2.put (by rw [hup]; exact hO')
      rw [hup] at hS0
      have hS : Hid _ := hS0
      have z0 := hC2.row.cell (i := k * 4) (by omega)
      have z1 := hC2.row.cell (i := k * 4 + 1) (by omega)
      have z2 := hC2.row.cell (i := k * 4 + 2) (by omega)
      have z3 := hC2.row.cell (i := k * 4 + 3) (by omega)
      have f0 := hC2.row.frozen (k * 4)
      have f1 := hC2.row.frozen (k * 4 + 1)
      have f2 := hC2.row.frozen (k * 4 + 2)
      have f3 := hC2.row.frozen (k * 4 + 3)
      clear hc1 hC hC2 hB2 hV x0 x1 x2 x3 h hO hO' hup hS0
      go_wp2
      go_roundg (n - (k + 1))
      case measure => omega
      case rel => exact ⟨k + 1, upV V k _, by omega, rfl, by go_num, hS.out⟩
    · have hkn : k = n := by omega
      have hkz : ¬ (k : Int) < (n : Int) := by omega
      rw [hkn] at hC
      have hS : Hid (CopiedDef w wr n f V n) := hC
      clear hC h hf
      go_wp2
      go_ret
      exact ⟨rfl, hS.out.view, hS.out.below, hS.out.size⟩
end Go.Proofs.YtmibpdnlphdoaaaGreatDoor

/-
  Two tables in variables of the call's own.
-/
namespace Go.Proofs.YtmibpdnlphdoaaaGreatDoor
open Go.RowKit
set_option maxRecDepth 4000

theorem bool_ne {a b : Bool} (h : ¬ a = b) : b = !a := by cases a <;> cases b <;> simp at h <;> rfl
/-- Two variables of four cells, one behind the other. -/
theorem box44 {w wr : World} {T U : TypeId} {x0 x1 x2 x3 y0 y1 y2 y3 : Value} (h : Below (w.heap.size + 1 + 1) ((w.alloc (.cells #[x0, x1, x2, x3] T)).alloc (.cells #[y0, y1, y2, y3] U)) wr) :
    (wr.cell? ⟨w.heap.size, 0, none⟩ = some x0 ∧ wr.cell? ⟨w.heap.size, 1, none⟩ = some x1 ∧ wr.cell? ⟨w.heap.size, 2, none⟩ = some x2 ∧ wr.cell? ⟨w.heap.size, 3, none⟩ = some x3)
    ∧ (wr.cell? ⟨w.heap.size + 1, 0, none⟩ = some y0 ∧ wr.cell? ⟨w.heap.size + 1, 1, none⟩ = some y1 ∧ wr.cell? ⟨w.heap.size + 1, 2, none⟩ = some y2 ∧ wr.cell? ⟨w.heap.size + 1, 3, none⟩ = some y3) := by
  refine ⟨⟨?_, ?_, ?_, ?_⟩, ?_, ?_, ?_, ?_⟩
  all_goals (rw [h.cell (by first | (simp; done) | (simp; omega))]; simp [go_sem])
theorem box44_below {w wr : World} {o p : Obj} (h : Below (w.heap.size + 1 + 1) ((w.alloc o).alloc p) wr) : Below w.heap.size w wr ∧ w.heap.size + 2 ≤ wr.heap.size := by
  refine ⟨(((Below.refl _ _).alloc (Nat.le_refl _) _).alloc (by simp) _).trans (h.mono (by omega)), ?_⟩
  have := h.size
  simpa using this
theorem box44_on {w wr w' : World} {o p : Obj} (h : Below (w.heap.size + 1 + 1) ((w.alloc o).alloc p) wr) (h' : Below wr.heap.size wr w') : Below (w.heap.size + 1 + 1) ((w.alloc o).alloc p) w' := h.trans (h'.mono (box44_below h).2)
theorem box3 {w wr : World} {T : TypeId} {x0 x1 x2 : Value} (h : Below (w.heap.size + 1) (w.alloc (.cells #[x0, x1, x2] T)) wr) :
    wr.cell? ⟨w.heap.size, 0, none⟩ = some x0 ∧ wr.cell? ⟨w.heap.size, 1, none⟩ = some x1 ∧ wr.cell? ⟨w.heap.size, 2, none⟩ = some x2 := by
  refine ⟨?_, ?_, ?_⟩
  all_goals (rw [h.cell (by simp)]; simp [go_sem])

end Go.Proofs.YtmibpdnlphdoaaaGreatDoor

/-
  Texts that are held against each other.
-/
namespace Go.Proofs.YtmibpdnlphdoaaaGreatDoor
open Go.RowKit
set_option maxRecDepth 4000

theorem bytes_inj {a b : ByteArray} : a.toList = b.toList ↔ a = b := by
  constructor
  · intro h
    rw [ByteArray.toList_eq, ByteArray.toList_eq] at h
    obtain ⟨⟨x⟩⟩ := a
    obtain ⟨⟨y⟩⟩ := b
    simp only at h
    rw [h]
  · rintro rfl; rfl
theorem bytes_eq {a b : ByteArray} (h : a = b) : (a.toList == b.toList) = true := by rw [h]; exact beq_self_eq_true _
theorem bytes_ne {a b : ByteArray} (h : a ≠ b) : (a.toList == b.toList) = false := by
  cases e : (a.toList == b.toList) with
  | false => rfl
  | true => exact absurd (bytes_inj.1 (eq_of_beq e)) h
end Go.Proofs.YtmibpdnlphdoaaaGreatDoor

/-
  Tables that read alike are alike, as the law holds them against each other.
-/
namespace Go.Proofs.YtmibpdnlphdoaaaGreatDoor
open Go.RowKit
set_option maxRecDepth 4000

set_option maxHeartbeats 1000000 in
theorem eqBy_same (c : Int) (d : Bool) (w : World) :
    Calls Tryz.prog 128 #[.agg #[.int .i64 c, .bool d], .agg #[.int .i64 c, .bool d]] w fun e w' => e = .returned (.bool true) ∧ Below w.heap.size w w' := by
  have e1 : (c != c) = false := bne_self_eq_false _
  have e2 : (d != d) = false := bne_self_eq_false _
  go_enter Tryz.func128, Tryz.ntmps128
  go_wp2
  go_ret
  refine ⟨rfl, ?_⟩
  repeat (first | exact Below.refl _ _ | refine Below.alloc ?_ (by simp <;> omega) _ | refine Below.drew ?_)

set_option maxHeartbeats 1000000 in
theorem eqCol_same (s : ByteArray) (c : Int) (d : Bool) (w : World) :
    Calls Tryz.prog 127 #[.agg #[.string s, .int .i64 c, .bool d], .agg #[.string s, .int .i64 c, .bool d]] w fun e w' => e = .returned (.bool true) ∧ Below w.heap.size w w' := by
  have e0 := bytes_eq (a := s) rfl
  have e1 : (c != c) = false := bne_self_eq_false _
  have e2 : (d != d) = false := bne_self_eq_false _
  go_enter Tryz.func127, Tryz.ntmps127
  go_wp2
  go_ret
  refine ⟨rfl, ?_⟩
  repeat (first | exact Below.refl _ _ | refine Below.alloc ?_ (by simp <;> omega) _ | refine Below.drew ?_)

set_option maxHeartbeats 2000000 in
theorem eqByS_same (a1 a2 : Option Addr) (n c1 c2 : Nat) (f : Nat → PBy) (w : World) (h1 : BView w a1 n c1 f) (h2 : BView w a2 n c2 f) (hn : n ≤ 1048576) :
    Calls Tryz.prog 88 #[.slice a1 n c1, .slice a2 n c2] w fun e w' => e = .returned (.bool true) ∧ Below w.heap.size w w' := by
  go_enter Tryz.func88, Tryz.ntmps88
  go_wp2
  go_loopg [5] n (fun q i wr => ∃ k : Nat, k ≤ n ∧ q = n - k ∧ i = .int .i64 k ∧ Below w.heap.size w wr)
  case atStart => exact ⟨0, Nat.zero_le _, rfl, rfl, Below.refl _ _⟩
  case round =>
    obtain ⟨k, hk, rfl, rfl, hB⟩ := hrel
    by_cases hlt : k < n
    · obtain ⟨b1, o1, rfl, hb1, hc1⟩ := (h1.below hB).cells (by omega)
      obtain ⟨b2, o2, rfl, hb2, hc2⟩ := (h2.below hB).cells (by omega)
      obtain ⟨x0, x1⟩ := hc1 k hlt
      obtain ⟨y0, y1⟩ := hc2 k hlt
      obtain ⟨p0, hp0⟩ : ∃ x, Hid ((f k).col = x) := ⟨_, rfl⟩
      obtain ⟨p1, hp1⟩ : ∃ x, Hid ((f k).desc = x) := ⟨_, rfl⟩
      rw [hp0.out] at x0 y0
      rw [hp1.out] at x1 y1
      have hkz : (k : Int) < (n : Int) := by omega
      have hV := fun W (_ : Below wr.heap.size wr W) => eqBy_same p0 p1 W
      have HWK : Hid (∀ W, Below wr.heap.size wr W → (W.cell? ⟨b1, o1 + k * 2, none⟩ = some (.int .i64 p0) ∧ W.cell? ⟨b1, o1 + k * 2 + 1, none⟩ = some (.bool p1)) ∧ (W.cell? ⟨b2, o2 + k * 2, none⟩ = some (.int .i64 p0) ∧ W.cell? ⟨b2, o2 + k * 2 + 1, none⟩ = some (.bool p1))) := by
        intro W hb
        refine ⟨⟨?_, ?_⟩, ⟨?_, ?_⟩⟩ <;> (rw [hb.cell (by first | exact hb1 | exact hb2)]; assumption)
      clear hc1 hc2 h1 h2
      go_wp2_with fail
      go_region_held3 (fun W => (W.cell? ⟨b1, o1 + k * 2, none⟩ = some (.int .i64 p0) ∧ W.cell? ⟨b1, o1 + k * 2 + 1, none⟩ = some (.bool p1)) ∧ (W.cell? ⟨b2, o2 + k * 2, none⟩ = some (.int .i64 p0) ∧ W.cell? ⟨b2, o2 + k * 2 + 1, none⟩ = some (.bool p1))) (first | assumption | go_keep) (first | (go_at_call 128; refine (hV _ (by repeat (first | exact Below.refl _ _ | refine Below.drew ?_))).mono ?_; rintro e w2 ⟨rfl, hB2⟩; have hcells : (w2.cell? ⟨b1, o1 + k * 2, none⟩ = some (.int .i64 p0) ∧ w2.cell? ⟨b1, o1 + k * 2 + 1, none⟩ = some (.bool p1)) ∧ (w2.cell? ⟨b2, o2 + k * 2, none⟩ = some (.int .i64 p0) ∧ w2.cell? ⟨b2, o2 + k * 2 + 1, none⟩ = some (.bool p1)) := HWK.out _ (Below.trans (by repeat (first | exact Below.refl _ _ | refine Below.drew ?_)) hB2)))
      all_goals
        have hB3 : Hid (Below w.heap.size w w2) := hB.trans (Below.trans (by repeat (first | exact Below.refl _ _ | refine Below.drew ?_)) (hB2.mono (by have := hB.size; exact this)))
        clear hcells HWK hV
        go_wp2
        go_roundg (n - (k + 1))
        case measure => omega
        case rel => exact ⟨k + 1, by omega, rfl, by go_num, by first | exact hB3.out | exact hB3.out.drew⟩
    · clear h1 h2
      go_wp2
      go_ret
      exact ⟨rfl, hB⟩

set_option maxHeartbeats 2000000 in
theorem eqColS_same (a1 a2 : Option Addr) (n c1 c2 : Nat) (f : Nat → PCol) (w : World) (h1 : CView w a1 n c1 f) (h2 : CView w a2 n c2 f) (hn : n ≤ 1048576) :
    Calls Tryz.prog 87 #[.slice a1 n c1, .slice a2 n c2] w fun e w' => e = .returned (.bool true) ∧ Below w.heap.size w w' := by
  go_enter Tryz.func87, Tryz.ntmps87
  go_wp2
  go_loopg [5] n (fun q i wr => ∃ k : Nat, k ≤ n ∧ q = n - k ∧ i = .int .i64 k ∧ Below w.heap.size w wr)
  case atStart => exact ⟨0, Nat.zero_le _, rfl, rfl, Below.refl _ _⟩
  case round =>
    obtain ⟨k, hk, rfl, rfl, hB⟩ := hrel
    by_cases hlt : k < n
    · obtain ⟨b1, o1, rfl, hb1, hc1⟩ := (h1.below hB).cells (by omega)
      obtain ⟨b2, o2, rfl, hb2, hc2⟩ := (h2.below hB).cells (by omega)
      obtain ⟨x0, x1, x2⟩ := hc1 k hlt
      obtain ⟨y0, y1, y2⟩ := hc2 k hlt
      obtain ⟨p0, hp0⟩ : ∃ x, Hid ((f k).name = x) := ⟨_, rfl⟩
      obtain ⟨p1, hp1⟩ : ∃ x, Hid ((f k).type = x) := ⟨_, rfl⟩
      obtain ⟨p2, hp2⟩ : ∃ x, Hid ((f k).null = x) := ⟨_, rfl⟩
      rw [hp0.out] at x0 y0
      rw [hp1.out] at x1 y1
      rw [hp2.out] at x2 y2
      have hkz : (k : Int) < (n : Int) := by omega
      have hV := fun W (_ : Below wr.heap.size wr W) => eqCol_same p0 p1 p2 W
      have HWK : Hid (∀ W, Below wr.heap.size wr W → (W.cell? ⟨b1, o1 + k * 3, none⟩ = some (.string p0) ∧ W.cell? ⟨b1, o1 + k * 3 + 1, none⟩ = some (.int .i64 p1) ∧ W.cell? ⟨b1, o1 + k * 3 + 2, none⟩ = some (.bool p2)) ∧ (W.cell? ⟨b2, o2 + k * 3, none⟩ = some (.string p0) ∧ W.cell? ⟨b2, o2 + k * 3 + 1, none⟩ = some (.int .i64 p1) ∧ W.cell? ⟨b2, o2 + k * 3 + 2, none⟩ = some (.bool p2))) := by
        intro W hb
        refine ⟨⟨?_, ?_, ?_⟩, ⟨?_, ?_, ?_⟩⟩ <;> (rw [hb.cell (by first | exact hb1 | exact hb2)]; assumption)
      clear hc1 hc2 h1 h2
      go_wp2_with fail
      go_region_held3 (fun W => (W.cell? ⟨b1, o1 + k * 3, none⟩ = some (.string p0) ∧ W.cell? ⟨b1, o1 + k * 3 + 1, none⟩ = some (.int .i64 p1) ∧ W.cell? ⟨b1, o1 + k * 3 + 2, none⟩ = some (.bool p2)) ∧ (W.cell? ⟨b2, o2 + k * 3, none⟩ = some (.string p0) ∧ W.cell? ⟨b2, o2 + k * 3 + 1, none⟩ = some (.int .i64 p1) ∧ W.cell? ⟨b2, o2 + k * 3 + 2, none⟩ = some (.bool p2))) (first | assumption | go_keep) (first | (go_at_call 127; refine (hV _ (by repeat (first | exact Below.refl _ _ | refine Below.drew ?_))).mono ?_; rintro e w2 ⟨rfl, hB2⟩; have hcells : (w2.cell? ⟨b1, o1 + k * 3, none⟩ = some (.string p0) ∧ w2.cell? ⟨b1, o1 + k * 3 + 1, none⟩ = some (.int .i64 p1) ∧ w2.cell? ⟨b1, o1 + k * 3 + 2, none⟩ = some (.bool p2)) ∧ (w2.cell? ⟨b2, o2 + k * 3, none⟩ = some (.string p0) ∧ w2.cell? ⟨b2, o2 + k * 3 + 1, none⟩ = some (.int .i64 p1) ∧ w2.cell? ⟨b2, o2 + k * 3 + 2, none⟩ = some (.bool p2)) := HWK.out _ (Below.trans (by repeat (first | exact Below.refl _ _ | refine Below.drew ?_)) hB2)))
      all_goals
        have hB3 : Hid (Below w.heap.size w w2) := hB.trans (Below.trans (by repeat (first | exact Below.refl _ _ | refine Below.drew ?_)) (hB2.mono (by have := hB.size; exact this)))
        clear hcells HWK hV
        go_wp2
        go_roundg (n - (k + 1))
        case measure => omega
        case rel => exact ⟨k + 1, by omega, rfl, by go_num, by first | exact hB3.out | exact hB3.out.drew⟩
    · clear h1 h2
      go_wp2
      go_ret
      exact ⟨rfl, hB⟩

set_option maxHeartbeats 2000000 in
theorem eqIndex_same (s : ByteArray) (u : Bool) (a1 a2 : Option Addr) (n c1 c2 : Nat) (f : Nat → PBy) (w : World) (h1 : BView w a1 n c1 f) (h2 : BView w a2 n c2 f) (hn : n ≤ 1048576) :
    Calls Tryz.prog 129 #[.agg #[.string s, .bool u, .slice a1 n c1], .agg #[.string s, .bool u, .slice a2 n c2]] w fun e w' => e = .returned (.bool true) ∧ Below w.heap.size w w' := by
  have e0 := bytes_eq (a := s) rfl
  have e2 : (u != u) = false := bne_self_eq_false _
  have hV := fun W (hb : Below w.heap.size w W) => eqByS_same a1 a2 n c1 c2 f W (h1.below hb) (h2.below hb) hn
  have hb0 : Below w.heap.size w ((w.alloc (.cells #[.string s, .bool u, .slice a1 n c1] 73)).alloc (.cells #[.string s, .bool u, .slice a2 n c2] 73)) := ((Below.refl _ _).alloc (Nat.le_refl _) _).alloc (by simp) _
  clear h1 h2
  go_enter Tryz.func129, Tryz.ntmps129
  go_wp2_with fail
  refine (hV _ hb0).mono ?_
  rintro e w2 ⟨rfl, hb2⟩
  have HB : Hid (Below w.heap.size w w2) := hb0.trans (hb2.mono (by simp; omega))
  clear hV hb0 hb2
  go_wp2
  go_ret
  exact ⟨rfl, HB.out⟩

set_option maxHeartbeats 2000000 in
theorem eqIndexS_same (a1 a2 : Option Addr) (n c1 c2 : Nat) (f : Nat → PIdx) (w : World) (h1 : IView w a1 n c1 f) (h2 : IView w a2 n c2 f) (hn : n ≤ 1048576) (hz : ∀ i, i < n → (f i).n ≤ 1048576) :
    Calls Tryz.prog 89 #[.slice a1 n c1, .slice a2 n c2] w fun e w' => e = .returned (.bool true) ∧ Below w.heap.size w w' := by
  go_enter Tryz.func89, Tryz.ntmps89
  go_wp2
  go_loopg [5] n (fun q i wr => ∃ k : Nat, k ≤ n ∧ q = n - k ∧ i = .int .i64 k ∧ Below w.heap.size w wr)
  case atStart => exact ⟨0, Nat.zero_le _, rfl, rfl, Below.refl _ _⟩
  case round =>
    obtain ⟨k, hk, rfl, rfl, hB⟩ := hrel
    by_cases hlt : k < n
    · obtain ⟨b1, o1, rfl, hb1, hc1⟩ := (h1.below hB).cells (by omega)
      obtain ⟨b2, o2, rfl, hb2, hc2⟩ := (h2.below hB).cells (by omega)
      obtain ⟨x0, x1, a1, c1, x2, hv1⟩ := hc1 k hlt
      obtain ⟨y0, y1, a2, c2, y2, hv2⟩ := hc2 k hlt
      have hV := fun W (hb : Below wr.heap.size wr W) => eqIndex_same (f k).name (f k).uniq a1 a2 (f k).n c1 c2 (f k).part W (hv1.below hb) (hv2.below hb) (hz k hlt)
      obtain ⟨p0, hp0⟩ : ∃ x, Hid ((f k).name = x) := ⟨_, rfl⟩
      obtain ⟨p1, hp1⟩ : ∃ x, Hid ((f k).uniq = x) := ⟨_, rfl⟩
      obtain ⟨p2, hp2⟩ : ∃ x, Hid ((f k).n = x) := ⟨_, rfl⟩
      simp only [hp0.out, hp1.out, hp2.out] at hV
      rw [hp0.out] at x0 y0
      rw [hp1.out] at x1 y1
      rw [hp2.out] at x2 y2
      have hkz : (k : Int) < (n : Int) := by omega

      have HWK : Hid (∀ W, Below wr.heap.size wr W → (W.cell? ⟨b1, o1 + k * 3, none⟩ = some (.string p0) ∧ W.cell? ⟨b1, o1 + k * 3 + 1, none⟩ = some (.bool p1) ∧ W.cell? ⟨b1, o1 + k * 3 + 2, none⟩ = some (.slice a1 p2 c1)) ∧ (W.cell? ⟨b2, o2 + k * 3, none⟩ = some (.string p0) ∧ W.cell? ⟨b2, o2 + k * 3 + 1, none⟩ = some (.bool p1) ∧ W.cell? ⟨b2, o2 + k * 3 + 2, none⟩ = some (.slice a2 p2 c2))) := by
        intro W hb
        refine ⟨⟨?_, ?_, ?_⟩, ⟨?_, ?_, ?_⟩⟩ <;> (rw [hb.cell (by first | exact hb1 | exact hb2)]; assumption)
      clear hc1 hc2 h1 h2 hz hv1 hv2
      go_wp2_with fail
      go_region_held3 (fun W => (W.cell? ⟨b1, o1 + k * 3, none⟩ = some (.string p0) ∧ W.cell? ⟨b1, o1 + k * 3 + 1, none⟩ = some (.bool p1) ∧ W.cell? ⟨b1, o1 + k * 3 + 2, none⟩ = some (.slice a1 p2 c1)) ∧ (W.cell? ⟨b2, o2 + k * 3, none⟩ = some (.string p0) ∧ W.cell? ⟨b2, o2 + k * 3 + 1, none⟩ = some (.bool p1) ∧ W.cell? ⟨b2, o2 + k * 3 + 2, none⟩ = some (.slice a2 p2 c2))) (first | assumption | go_keep) (first | (go_at_call 129; refine (hV _ (by repeat (first | exact Below.refl _ _ | refine Below.drew ?_))).mono ?_; rintro e w2 ⟨rfl, hB2⟩; have hcells : (w2.cell? ⟨b1, o1 + k * 3, none⟩ = some (.string p0) ∧ w2.cell? ⟨b1, o1 + k * 3 + 1, none⟩ = some (.bool p1) ∧ w2.cell? ⟨b1, o1 + k * 3 + 2, none⟩ = some (.slice a1 p2 c1)) ∧ (w2.cell? ⟨b2, o2 + k * 3, none⟩ = some (.string p0) ∧ w2.cell? ⟨b2, o2 + k * 3 + 1, none⟩ = some (.bool p1) ∧ w2.cell? ⟨b2, o2 + k * 3 + 2, none⟩ = some (.slice a2 p2 c2)) := HWK.out _ (Below.trans (by repeat (first | exact Below.refl _ _ | refine Below.drew ?_)) hB2)))
      all_goals
        have hB3 : Hid (Below w.heap.size w w2) := hB.trans (Below.trans (by repeat (first | exact Below.refl _ _ | refine Below.drew ?_)) (hB2.mono (by have := hB.size; exact this)))
        clear hcells HWK hV
        go_wp2
        go_roundg (n - (k + 1))
        case measure => omega
        case rel => exact ⟨k + 1, by omega, rfl, by go_num, by first | exact hB3.out | exact hB3.out.drew⟩
    · clear h1 h2
      go_wp2
      go_ret
      exact ⟨rfl, hB⟩

set_option maxHeartbeats 2000000 in
theorem eqDef_same (u v : Value) (D : PDef) (w : World) (h1 : DView w u D) (h2 : DView w v D) (hf : DFine D) :
    Calls Tryz.prog 49 #[u, v] w fun e w' => e = .returned (.bool true) ∧ Below w.heap.size w w' := by
  obtain ⟨ac, cc, ap, cp, ai, ci, rfl, hc1, hp1, hi1⟩ := h1.is
  obtain ⟨bc, dc, bp, dp, bi, di, rfl, hc2, hp2, hi2⟩ := h2.is
  clear h1 h2
  have e0 := bytes_eq (a := D.name) rfl
  have hB0 : Below (w.heap.size + 1 + 1) ((w.alloc (.cells #[.string D.name, .slice ac D.nc cc, .slice ap D.np cp, .slice ai D.ni ci] 35)).alloc (.cells #[.string D.name, .slice bc D.nc dc, .slice bp D.np dp, .slice bi D.ni di] 35)) ((w.alloc (.cells #[.string D.name, .slice ac D.nc cc, .slice ap D.np cp, .slice ai D.ni ci] 35)).alloc (.cells #[.string D.name, .slice bc D.nc dc, .slice bp D.np dp, .slice bi D.ni di] 35)) := Below.refl _ _
  obtain ⟨hBw0, -⟩ := box44_below hB0
  have hV1 := eqColS_same ac bc D.nc cc dc D.col _ (hc1.below hBw0) (hc2.below hBw0) hf.nc
  go_enter Tryz.func49, Tryz.ntmps49
  go_wp2_with fail
  refine hV1.mono ?_
  rintro e w1 ⟨rfl, hb1⟩
  have hB1 := box44_on hB0 hb1
  obtain ⟨hBw1, hs1⟩ := box44_below hB1
  obtain ⟨⟨x0, x1, x2, x3⟩, y0, y1, y2, y3⟩ := box44 hB1
  have hV2 := eqByS_same ap bp D.np cp dp D.pri w1 (hp1.below hBw1) (hp2.below hBw1) hf.np
  clear hV1 hb1 hB0 hBw0 hc1 hc2
  go_wp2_with fail
  refine hV2.mono ?_
  rintro e w2 ⟨rfl, hb2⟩
  have hB2 := box44_on hB1 hb2
  obtain ⟨hBw2, hs2⟩ := box44_below hB2
  clear x0 x1 x2 x3 y0 y1 y2 y3
  obtain ⟨⟨x0, x1, x2, x3⟩, y0, y1, y2, y3⟩ := box44 hB2
  have hV3 := eqIndexS_same ai bi D.ni ci di D.idx w2 (hi1.below hBw2) (hi2.below hBw2) hf.ni (fun i hi => (hf.idx i hi).2)
  clear hV2 hb2 hB1 hBw1 hp1 hp2 hs1
  go_wp2_with fail
  refine hV3.mono ?_
  rintro e w3 ⟨rfl, hb3⟩
  have HB : Hid (Below w.heap.size w w3) := (box44_below (box44_on hB2 hb3)).1
  clear hV3 hb3 hB2 hBw2 hi1 hi2 hf
  go_wp2
  go_ret
  exact ⟨rfl, HB.out⟩
end Go.Proofs.YtmibpdnlphdoaaaGreatDoor

