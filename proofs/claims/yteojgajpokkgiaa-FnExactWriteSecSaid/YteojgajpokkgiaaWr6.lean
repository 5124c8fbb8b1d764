/-
  Together: BeginI, DiskPlain, DiskMS2, FlushS, ReadPlainD, WritePlain, DiskOwnC
-/
import Derived.Test.YteojgajpokkgiaaWr5
import Derived.Test.YteojgajpokkgiaaWr2
import Derived.Test.YteojgajpokkgiaaWr1
import Derived.Test.YteojgajpokkgiaaWr4
/-
  The program's begin and isStopped.
-/
namespace Go.Proofs.Yteojgajpokkgiaa
open Go.RowKit
set_option maxRecDepth 4000

/-- Of what was there block X alone may have turned. -/
structure ButX (X : Nat) (w w' : World) : Prop where
  os : w'.os = w.os
  tape : w'.tape = w.tape
  output : w'.output = w.output
  size : w.heap.size ≤ w'.heap.size
  block : ∀ k, k < w.heap.size → k ≠ X → w'.heap[k]? = w.heap[k]?
theorem ButX.refl (X : Nat) (w : World) : ButX X w w := ⟨rfl, rfl, rfl, Nat.le_refl _, fun _ _ _ => rfl⟩
theorem ButX.trans {X : Nat} {a b c : World} (h : ButX X a b) (k : ButX X b c) : ButX X a c := ⟨k.os.trans h.os, k.tape.trans h.tape, k.output.trans h.output, Nat.le_trans h.size k.size, fun i hi ho => (k.block i (Nat.lt_of_lt_of_le hi h.size) ho).trans (h.block i hi ho)⟩
theorem ButX.on {X : Nat} {w w' w2 : World} (h : ButX X w w') (hb : Below w'.heap.size w' w2) : ButX X w w2 := h.trans ⟨hb.os, hb.tape, hb.output, hb.size, fun k hk _ => hb.block k hk⟩
theorem ButX.set {X i : Nat} {w w' : World} (h : ButX X w w') (u : Value) : ButX X w (w'.setCell ⟨X, i, none⟩ u) := ⟨h.os, h.tape, h.output, by simpa using h.size, fun k hk ho => (Below.heap_setCell _ _ _ _ (show k ≠ X from ho)).trans (h.block k hk ho)⟩
theorem ButX.new {X C i : Nat} {w w' : World} (h : ButX X w w') (hC : w.heap.size ≤ C) (u : Value) : ButX X w (w'.setCell ⟨C, i, none⟩ u) := ⟨h.os, h.tape, h.output, by simpa using h.size, fun k hk ho => (Below.heap_setCell _ _ _ _ (show k ≠ C by omega)).trans (h.block k hk ho)⟩
theorem ButX.keep {X : Nat} {w w' : World} {ys : List Value} (h : ButX X w w') (hX : VN w X 28 ys) : KeepT (fun t => t = 28) w w' := by
  intro b c t z hb ht
  refine h.block b (Array.getElem?_eq_some_iff.1 hb).1 (fun e => ?_)
  unfold VN at hX
  rw [e, hX] at hb
  cases hb
  exact ht rfl
theorem fview_rl {w : World} {B : Nat} {a : Option Addr} {cap : Nat} {l : List PFault} (h : RL 70 w B a (fcells l)) (hl : l.length ≤ cap) (hn : a = none → cap = 0) : FView w a cap l := by
  refine ⟨hl, hn, fun hp => ?_⟩
  obtain ⟨g', ea, -, hlt, hc⟩ := h.cell (by rw [fcells_len]; omega)
  subst ea
  refine ⟨g', 0, rfl, hlt, fun i x hi => ⟨fEl x, rfl, fun j u hj => ?_⟩⟩
  have hj3 : j < 3 := (List.getElem?_eq_some_iff.1 hj).1
  have g0 := fcells_get hi hj3
  rw [hj] at g0
  simpa using hc _ _ g0

set_option maxHeartbeats 1000000 in
theorem isStopped_any (v : Value) (D : PDisk) (w : World) (h : KView w v D) :
    Calls Try.prog 53 #[v] w fun e w' => ∃ r : Bool, e = .returned (.bool r) ∧ (r = true ↔ D.down = true ∨ 100000 ≤ D.ops) ∧ Below w.heap.size w w' := by
  obtain ⟨sa, sc, ca, cc, fa, fc, rfl, -, -, -⟩ := h.is
  clear h
  have hb : Below w.heap.size w (w.alloc (.cells #[.slice sa D.secs.length sc, .slice ca D.cache.length cc, .int .i64 D.ops, .slice fa D.faults.length fc, .bool D.down] 28)) := (Below.refl _ _).alloc (Nat.le_refl _) _
  obtain ⟨dn, hdn⟩ := hidEx D.down
  rw [hdn.out] at hb ⊢
  cases dn
  · go_enter Try.func53, Try.ntmps53
    go_wp2
    go_ret
    exact ⟨decide (100000 ≤ D.ops), rfl, by simp, hb⟩
  · go_enter Try.func53, Try.ntmps53
    go_wp2
    go_ret
    exact ⟨true, rfl, by simp, hb⟩

/-- What begin comes to. -/
def BeginTo (w : World) (X : Nat) (s c : Value) (ops : Int) (fa : Option Addr) (fc : Nat) (l : List PFault) (b : Value) (e : Ending) (w' : World) : Prop :=
  ButX X w w' ∧ VN w' X 28 [s, c, .int .i64 (ops + 1), .slice fa l.length fc, b] ∧ ((∃ f : PFault, findF l ops = some f ∧ e = .returned (.tuple #[.agg #[.int .i64 f.pos, .int .i64 f.keep, .int .i64 f.cut], .bool true])) ∨ (findF l ops = none ∧ e = .returned (.tuple #[.agg #[.int .i64 0, .int .i64 0, .int .i64 0], .bool false])))

set_option maxHeartbeats 8000000 in
theorem begin_any (X B : Nat) (s c : Value) (ops : Int) (fa : Option Addr) (fc : Nat) (l : List PFault) (b : Value) (w : World) (hX : VN w X 28 [s, c, .int .i64 ops, .slice fa l.length fc, b]) (hF : RL 70 w B fa (fcells l)) (hle : l.length ≤ fc) (hnil : fa = none → fc = 0) (hn : l.length ≤ 1048576) (h0 : 0 ≤ ops) (h1 : ops ≤ 1000000) :
    Calls Try.prog 54 #[.pointer (some ⟨X, 0, none⟩)] w (BeginTo w X s c ops fa fc l b) := by
  have hXlt := hX.lt
  have x2 : w.cell? ⟨X, 2, none⟩ = some (.int .i64 ops) := hX.cell 2
  have q2 := hX.fz 2
  have X1 := hX.set 2 (.int .i64 (ops + 1))
  simp only [List.set] at X1
  have hsz1 : (w.setCell ⟨X, 2, none⟩ (.int .i64 (ops + 1))).heap.size = w.heap.size := by simp
  have hbA : Below (w.setCell ⟨X, 2, none⟩ (.int .i64 (ops + 1))).heap.size (w.setCell ⟨X, 2, none⟩ (.int .i64 (ops + 1))) ((w.setCell ⟨X, 2, none⟩ (.int .i64 (ops + 1))).alloc (.cells #[.int .i64 0, .int .i64 0, .int .i64 0] 70)) := (Below.refl _ _).alloc (Nat.le_refl _) _
  have X2 := X1.below hbA
  have R2 := VN.new (w.setCell ⟨X, 2, none⟩ (.int .i64 (ops + 1))) 70 [.int .i64 0, .int .i64 0, .int .i64 0]
  rw [hsz1] at R2
  have hw1 : IntKind.i64.wrap (ops + 1) = ops + 1 := by rw [IntKind.wrap_i64]; omega
  have hBX : ButX X w ((w.setCell ⟨X, 2, none⟩ (.int .i64 (ops + 1))).alloc (.cells #[.int .i64 0, .int .i64 0, .int .i64 0] 70)) := ((ButX.refl X w).set _).on hbA
  have x3 : ((w.setCell ⟨X, 2, none⟩ (.int .i64 (ops + 1))).alloc (.cells #[.int .i64 0, .int .i64 0, .int .i64 0] 70)).cell? ⟨X, 3, none⟩ = some (.slice fa l.length fc) := X2.cell 3
  have HF : Hid (∀ W, ButX X w W → FView W fa fc l) := fun W hb => fview_rl (hF.keepT (hb.keep hX) (by decide)) hle hnil
  clear X1 hX hF hbA
  have x2a : (w.alloc (.cells #[.int .i64 0, .int .i64 0, .int .i64 0] 70)).cell? ⟨X, 2, none⟩ = some (.int .i64 ops) := by
    rw [((Below.refl w.heap.size w).alloc (Nat.le_refl _) (.cells #[.int .i64 0, .int .i64 0, .int .i64 0] 70)).cell (p := ⟨X, 2, none⟩) hXlt]
    exact x2
  have q2a : (w.alloc (.cells #[.int .i64 0, .int .i64 0, .int .i64 0] 70)).frozen? ⟨X, 2, none⟩ = false := by
    rw [((Below.refl w.heap.size w).alloc (Nat.le_refl _) (.cells #[.int .i64 0, .int .i64 0, .int .i64 0] 70)).frozen (p := ⟨X, 2, none⟩) hXlt]
    exact q2
  go_enter Try.func54, Try.ntmps54
  go_wp2
  go_loopg [23] l.length (fun q i wr => ∃ k : Nat, k ≤ l.length ∧ q = l.length - k ∧ i = .int .i64 k ∧ ButX X w wr ∧ VN wr X 28 [s, c, .int .i64 (ops + 1), .slice fa l.length fc, b] ∧ VN wr w.heap.size 70 [.int .i64 0, .int .i64 0, .int .i64 0] ∧ Hid (∀ i (h : i < l.length), i < k → (l[i]).pos ≠ ops))
  case atStart => exact ⟨0, Nat.zero_le _, rfl, rfl, hBX, X2, R2, fun i _ hi => absurd hi (Nat.not_lt_zero _)⟩
  case round =>
    clear hBX X2 R2 x3 x2 q2 x2a q2a
    obtain ⟨k, hk, rfl, rfl, hB, hX, hR, HN⟩ := hrel
    by_cases hlt : k < l.length
    · obtain ⟨b1, o1, e1, hb1, x0, x1, x2⟩ := fview_at (HF.out wr hB) hlt
      subst e1
      have hkz : (k : Int) < (l.length : Int) := by omega
      have HHIT : Hid ((l[k]).pos = ops → findF l ops = some l[k]) := fun e => findF_hit hlt e HN.out
      have HMISS : Hid (¬ (l[k]).pos = ops → ∀ i (h : i < l.length), i < k + 1 → (l[i]).pos ≠ ops) := by
        intro hp i h hi
        by_cases e : i < k
        · exact HN.out i h e
        · obtain rfl : i = k := by omega
          exact hp
      obtain ⟨p0, hp0⟩ := hidEx (l[k]).pos
      obtain ⟨p1, hp1⟩ := hidEx (l[k]).keep
      obtain ⟨p2, hp2⟩ := hidEx (l[k]).cut
      have HP : Hid ((l[k]).pos = p0 ∧ (l[k]).keep = p1 ∧ (l[k]).cut = p2) := ⟨hp0.out, hp1.out, hp2.out⟩
      rw [hp0.out] at x0 HHIT HMISS
      rw [hp1.out] at x1
      rw [hp2.out] at x2
      clear HN
      have hbB : Below wr.heap.size wr (wr.alloc (.cells #[.int .i64 p0, .int .i64 p1, .int .i64 p2] 70)) := (Below.refl _ _).alloc (Nat.le_refl _) _
      replace hR := hR.below hbB
      replace hX := hX.below hbB
      replace hB := hB.on hbB
      by_cases hN : p0 = ops
      · subst hN
        have hq : (p0 == p0) = true := beq_self_eq_true _
        have HR : Hid (findF l p0 = some l[k]) := HHIT.out rfl
        have r0 : (wr.alloc (.cells #[.int .i64 p0, .int .i64 p1, .int .i64 p2] 70)).cell? ⟨w.heap.size, 0, none⟩ = some (.int .i64 0) := hR.cell 0
        have r1 : (wr.alloc (.cells #[.int .i64 p0, .int .i64 p1, .int .i64 p2] 70)).cell? ⟨w.heap.size, 1, none⟩ = some (.int .i64 0) := hR.cell 1
        have r2 : (wr.alloc (.cells #[.int .i64 p0, .int .i64 p1, .int .i64 p2] 70)).cell? ⟨w.heap.size, 2, none⟩ = some (.int .i64 0) := hR.cell 2
        have q0 := hR.fz 0
        have q1 := hR.fz 1
        have q2 := hR.fz 2
        have R3 := ((hR.set 0 (.int .i64 p0)).set 1 (.int .i64 p1)).set 2 (.int .i64 p2)
        simp only [List.set] at R3
        have X3 := ((hX.other (C := w.heap.size) (i := 0) (u := .int .i64 p0) (by omega)).other (C := w.heap.size) (i := 1) (u := .int .i64 p1) (by omega)).other (C := w.heap.size) (i := 2) (u := .int .i64 p2) (by omega)
        have B3 := ((hB.new (C := w.heap.size) (i := 0) (Nat.le_refl _) (.int .i64 p0)).new (C := w.heap.size) (i := 1) (Nat.le_refl _) (.int .i64 p1)).new (C := w.heap.size) (i := 2) (Nat.le_refl _) (.int .i64 p2)
        have m0 : ((((wr.alloc (.cells #[.int .i64 p0, .int .i64 p1, .int .i64 p2] 70)).setCell ⟨w.heap.size, 0, none⟩ (.int .i64 p0)).setCell ⟨w.heap.size, 1, none⟩ (.int .i64 p1)).setCell ⟨w.heap.size, 2, none⟩ (.int .i64 p2)).cell? ⟨w.heap.size, 0, none⟩ = some (.int .i64 p0) := R3.cell 0
        have m1 : ((((wr.alloc (.cells #[.int .i64 p0, .int .i64 p1, .int .i64 p2] 70)).setCell ⟨w.heap.size, 0, none⟩ (.int .i64 p0)).setCell ⟨w.heap.size, 1, none⟩ (.int .i64 p1)).setCell ⟨w.heap.size, 2, none⟩ (.int .i64 p2)).cell? ⟨w.heap.size, 1, none⟩ = some (.int .i64 p1) := R3.cell 1
        have m2 : ((((wr.alloc (.cells #[.int .i64 p0, .int .i64 p1, .int .i64 p2] 70)).setCell ⟨w.heap.size, 0, none⟩ (.int .i64 p0)).setCell ⟨w.heap.size, 1, none⟩ (.int .i64 p1)).setCell ⟨w.heap.size, 2, none⟩ (.int .i64 p2)).cell? ⟨w.heap.size, 2, none⟩ = some (.int .i64 p2) := R3.cell 2
        have HE : Hid (ButX X w ((((wr.alloc (.cells #[.int .i64 p0, .int .i64 p1, .int .i64 p2] 70)).setCell ⟨w.heap.size, 0, none⟩ (.int .i64 p0)).setCell ⟨w.heap.size, 1, none⟩ (.int .i64 p1)).setCell ⟨w.heap.size, 2, none⟩ (.int .i64 p2)) ∧ VN ((((wr.alloc (.cells #[.int .i64 p0, .int .i64 p1, .int .i64 p2] 70)).setCell ⟨w.heap.size, 0, none⟩ (.int .i64 p0)).setCell ⟨w.heap.size, 1, none⟩ (.int .i64 p1)).setCell ⟨w.heap.size, 2, none⟩ (.int .i64 p2)) X 28 [s, c, .int .i64 (p0 + 1), .slice (some ⟨b1, o1, none⟩) l.length fc, b]) := ⟨B3, X3⟩
        clear R3 X3 B3 hR hX hB hbB HHIT HMISS HF
        go_wp2
        exact bodyPost_ret (v := .tuple #[.agg #[.int .i64 p0, .int .i64 p1, .int .i64 p2], .bool true]) (by simp [results, Try.results54, go_sem, m0, m1, m2]) rfl ⟨HE.out.1, HE.out.2, .inl ⟨l[k], HR.out, by rw [HP.out.1, HP.out.2.1, HP.out.2.2]⟩⟩
      · have HN2 : Hid (∀ i (h : i < l.length), i < k + 1 → (l[i]).pos ≠ ops) := HMISS.out hN
        have hq : (p0 == ops) = false := beq_eq_false_iff_ne.2 hN
        clear HHIT HMISS
        go_wp2
        go_roundg (l.length - (k + 1))
        case measure => omega
        case rel => exact ⟨k + 1, by omega, rfl, by go_num, hB, hX, hR, HN2⟩
    · have hkz : ¬ (k : Int) < (l.length : Int) := by omega
      have HR : Hid (findF l ops = none) := findF_none (fun i h => HN.out i h (by omega))
      have r0 : wr.cell? ⟨w.heap.size, 0, none⟩ = some (.int .i64 0) := hR.cell 0
      have r1 : wr.cell? ⟨w.heap.size, 1, none⟩ = some (.int .i64 0) := hR.cell 1
      have r2 : wr.cell? ⟨w.heap.size, 2, none⟩ = some (.int .i64 0) := hR.cell 2
      have q0 := hR.fz 0
      have q1 := hR.fz 1
      have q2 := hR.fz 2
      have R3 := ((hR.set 0 (.int .i64 0)).set 1 (.int .i64 0)).set 2 (.int .i64 0)
      simp only [List.set] at R3
      have X3 := ((hX.other (C := w.heap.size) (i := 0) (u := .int .i64 0) (by omega)).other (C := w.heap.size) (i := 1) (u := .int .i64 0) (by omega)).other (C := w.heap.size) (i := 2) (u := .int .i64 0) (by omega)
      have B3 := ((hB.new (C := w.heap.size) (i := 0) (Nat.le_refl _) (.int .i64 0)).new (C := w.heap.size) (i := 1) (Nat.le_refl _) (.int .i64 0)).new (C := w.heap.size) (i := 2) (Nat.le_refl _) (.int .i64 0)
      have m0 : (((wr.setCell ⟨w.heap.size, 0, none⟩ (.int .i64 0)).setCell ⟨w.heap.size, 1, none⟩ (.int .i64 0)).setCell ⟨w.heap.size, 2, none⟩ (.int .i64 0)).cell? ⟨w.heap.size, 0, none⟩ = some (.int .i64 0) := R3.cell 0
      have m1 : (((wr.setCell ⟨w.heap.size, 0, none⟩ (.int .i64 0)).setCell ⟨w.heap.size, 1, none⟩ (.int .i64 0)).setCell ⟨w.heap.size, 2, none⟩ (.int .i64 0)).cell? ⟨w.heap.size, 1, none⟩ = some (.int .i64 0) := R3.cell 1
      have m2 : (((wr.setCell ⟨w.heap.size, 0, none⟩ (.int .i64 0)).setCell ⟨w.heap.size, 1, none⟩ (.int .i64 0)).setCell ⟨w.heap.size, 2, none⟩ (.int .i64 0)).cell? ⟨w.heap.size, 2, none⟩ = some (.int .i64 0) := R3.cell 2
      have HE : Hid (ButX X w (((wr.setCell ⟨w.heap.size, 0, none⟩ (.int .i64 0)).setCell ⟨w.heap.size, 1, none⟩ (.int .i64 0)).setCell ⟨w.heap.size, 2, none⟩ (.int .i64 0)) ∧ VN (((wr.setCell ⟨w.heap.size, 0, none⟩ (.int .i64 0)).setCell ⟨w.heap.size, 1, none⟩ (.int .i64 0)).setCell ⟨w.heap.size, 2, none⟩ (.int .i64 0)) X 28 [s, c, .int .i64 (ops + 1), .slice fa l.length fc, b]) := ⟨B3, X3⟩
      clear R3 X3 B3 hR hX hB HN HF
      go_wp2
      exact bodyPost_ret (v := .tuple #[.agg #[.int .i64 0, .int .i64 0, .int .i64 0], .bool false]) (by simp [results, Try.results54, go_sem, m0, m1, m2]) rfl ⟨HE.out.1, HE.out.2, .inr ⟨HR.out, rfl⟩⟩
end Go.Proofs.Yteojgajpokkgiaa

/-
  What a right disk is, plainly.
-/
namespace Go.Proofs.Yteojgajpokkgiaa
open Go.RowKit
set_option maxRecDepth 4000

def Short (l : List (List Int)) : Prop := ∀ i (h : i < l.length), (l[i]).length ≤ 256
def SecsOk (l : List (List Int)) : Prop := 4 ≤ l.length ∧ l.length ≤ 48 ∧ Short l
def CacheOk (n : Nat) (l : List (Int × List Int)) : Prop := l.length ≤ 60 ∧ ∀ i (h : i < l.length), 0 ≤ (l[i]).1 ∧ (l[i]).1 < n ∧ (l[i]).2.length ≤ 256
def FOk (x : PFault) : Prop := (0 ≤ x.pos ∧ x.pos ≤ 100000) ∧ (0 ≤ x.keep ∧ x.keep ≤ 1048575) ∧ (0 ≤ x.cut ∧ x.cut ≤ 256)
def FAt (l : List PFault) (i : Nat) : Prop := ∀ h : i < l.length, FOk l[i] ∧ ∀ h1 : 0 < i, (l[i - 1]).pos < (l[i]).pos
def FaultsOk (l : List PFault) : Prop := l.length ≤ 20 ∧ ∀ i, FAt l i
def OpsOk (x : Int) : Prop := 0 ≤ x ∧ x ≤ 100000
def OkD (D : PDisk) : Prop := SecsOk D.secs ∧ CacheOk D.secs.length D.cache ∧ OpsOk D.ops ∧ FaultsOk D.faults ∧ ¬ (D.down = true ∧ 0 < D.cache.length)
/-- A question is answered. -/
def Says (w : World) (P : Prop) (e : Ending) (w' : World) : Prop := ∃ r : Bool, e = .returned (.bool r) ∧ (r = true ↔ P) ∧ Below w.heap.size w w'
theorem Says.yes {w w' : World} {P : Prop} (h : P) (hb : Below w.heap.size w w') : Says w P (.returned (.bool true)) w' := ⟨true, rfl, by simp [h], hb⟩
theorem Says.no {w w' : World} {P : Prop} (h : ¬ P) (hb : Below w.heap.size w w') : Says w P (.returned (.bool false)) w' := ⟨false, rfl, by simp [h], hb⟩
end Go.Proofs.Yteojgajpokkgiaa

/-
  A disk in a variable of the model's reads; the operation counts.
-/
namespace Go.Proofs.Yteojgajpokkgiaa
open Go.RowKit
set_option maxRecDepth 4000

/-- Lengths and capacities. -/
structure ML (D : PDisk) (sc : Nat) (ca : Option Addr) (cc : Nat) (fa : Option Addr) (fc : Nat) : Prop where
  s : D.secs.length ≤ sc
  c : D.cache.length ≤ cc
  cn : ca = none → cc = 0
  f : D.faults.length ≤ fc
  fn : fa = none → fc = 0
theorem MS.wview {w : World} {B X gs sc : Nat} {ca : Option Addr} {cc : Nat} {fa : Option Addr} {fc : Nat} {ss cs : List Value} {D : PDisk} {S : List (List Int)} (h : MS w B X gs sc ca cc fa fc ss cs D S) (hl : ML D sc ca cc fa fc) : WView w ca cc D.cache := by
  refine ⟨hl.c, hl.cn, fun hn => ?_⟩
  have hln : (wcells D.cache cs).length = D.cache.length * 2 := wcells_len h.nc
  obtain ⟨g, ea, -, hlt, hc⟩ := h.cache.cell (by omega)
  refine ⟨g, 0, ea, hlt, fun i x hi => ?_⟩
  have hi1 := (List.getElem?_eq_some_iff.1 hi).1
  have hi' : i < cs.length := by rw [h.nc]; exact hi1
  have hv := List.getElem?_eq_getElem hi'
  obtain ⟨g0, g1⟩ := wcells_get hi hv
  refine ⟨[.int .i64 x.1, cs[i]], ⟨cs[i], rfl, (h.cb i _ x.2 hv (by simp [hi])).lv⟩, fun j u hj => ?_⟩
  match j, hj with
  | 0, hj => cases hj; simpa using hc _ _ g0
  | 1, hj => cases hj; simpa using hc _ _ g1
theorem MS.kview {w : World} {B X gs sc : Nat} {ca : Option Addr} {cc : Nat} {fa : Option Addr} {fc : Nat} {ss cs : List Value} {D : PDisk} (h : MS w B X gs sc ca cc fa fc ss cs D D.secs) (hl : ML D sc ca cc fa fc) (hp : 0 < D.secs.length) : KView w (.agg #[.slice (some ⟨gs, 0, none⟩) D.secs.length sc, .slice ca D.cache.length cc, .int .i64 D.ops, .slice fa D.faults.length fc, .bool D.down]) D :=
  ⟨_, _, _, _, _, _, rfl, h.view hl.s hp, h.wview hl, fview_rl h.faults hl.f hl.fn⟩
/-- The operation counts. -/
theorem MS.ops {w : World} {B X gs sc : Nat} {ca : Option Addr} {cc : Nat} {fa : Option Addr} {fc : Nat} {ss cs : List Value} {D : PDisk} {S : List (List Int)} (h : MS w B X gs sc ca cc fa fc ss cs D S) (x : Int) : MS (w.setCell ⟨X, 2, none⟩ (.int .i64 x)) B X gs sc ca cc fa fc ss cs { D with ops := x } S := by
  have hk := keep_vn (P := fun t => t = 28) (i := 2) (u := .int .i64 x) h.x rfl
  have hX := h.x.set 2 (.int .i64 x)
  simp only [List.set] at hX
  exact ⟨hX, h.secs.keepT hk (by decide), h.ns, h.len, fun i v l h1 h2 => (h.ob i v l h1 h2).keepT hk (by decide), h.cache.keepT hk (by decide), h.nc, fun i v l h1 h2 => (h.cb i v l h1 h2).keepT hk (by decide), h.faults.keepT hk (by decide)⟩
/-- What is flushed. -/
noncomputable def flushF (D : PDisk) : PDisk × Int := open Classical in
  if D.down = true ∨ 100000 ≤ D.ops then (D, 9) else match findF D.faults D.ops with
    | some f => (loseD { D with ops := D.ops + 1 } f, 9)
    | none => (calmD { D with ops := D.ops + 1 }, 0)
theorem flushF_down {D : PDisk} (h : D.down = true ∨ 100000 ≤ D.ops) : flushF D = (D, 9) := by unfold flushF; rw [if_pos h]
theorem flushF_lose {D : PDisk} (h : ¬ (D.down = true ∨ 100000 ≤ D.ops)) {f : PFault} (hf : findF D.faults D.ops = some f) : flushF D = (loseD { D with ops := D.ops + 1 } f, 9) := by unfold flushF; rw [if_neg h, hf]
theorem flushF_calm {D : PDisk} (h : ¬ (D.down = true ∨ 100000 ≤ D.ops)) (hf : findF D.faults D.ops = none) : flushF D = (calmD { D with ops := D.ops + 1 }, 0) := by unfold flushF; rw [if_neg h, hf]
theorem OkD.fine {D : PDisk} (h : OkD D) : KFine D := by
  obtain ⟨⟨h1, h2, h3⟩, ⟨h4, h5⟩, -, ⟨h6, -⟩, -⟩ := h
  refine ⟨by omega, fun x hx => ?_, by omega, fun x hx => ?_, by omega⟩
  · obtain ⟨i, hi, rfl⟩ := List.getElem_of_mem hx
    have := h3 i hi; omega
  · obtain ⟨i, hi, rfl⟩ := List.getElem_of_mem hx
    have := (h5 i hi).2.2; omega
theorem findF_ok {D : PDisk} (h : OkD D) {f : PFault} (hf : findF D.faults D.ops = some f) : FOk f := by
  obtain ⟨-, -, -, ⟨-, h7⟩, -⟩ := h
  obtain ⟨i, hi, rfl⟩ := List.getElem_of_mem (List.mem_of_find?_eq_some hf)
  exact (h7 i hi).1
end Go.Proofs.Yteojgajpokkgiaa

/-
  The model's l12Flush.
-/
namespace Go.Proofs.Yteojgajpokkgiaa
open Go.RowKit
set_option maxRecDepth 4000

/-- What an operation on a disk in a variable comes to. -/
def OpTo (w : World) (B X gs sc : Nat) (fa : Option Addr) (fc : Nat) (D : PDisk) (code : Int) (e : Ending) (w' : World) : Prop := e = .returned (.int .i64 code) ∧ (∃ ca cc ss cs, MS w' B X gs sc ca cc fa fc ss cs D D.secs ∧ ML D sc ca cc fa fc) ∧ Below B w w'

set_option maxHeartbeats 8000000 in
theorem l12Flush_any (B X gs sc : Nat) (ca : Option Addr) (cc : Nat) (fa : Option Addr) (fc : Nat) (ss cs : List Value) (D0 : PDisk) (w : World) (h : MS w B X gs sc ca cc fa fc ss cs D0 D0.secs) (hl : ML D0 sc ca cc fa fc) (hok : OkD D0) (hBw : B ≤ w.heap.size) (hBX : B ≤ X) :
    Calls Try.prog 67 #[.pointer (some ⟨X, 0, none⟩)] w (OpTo w B X gs sc fa fc (flushF D0).1 (flushF D0).2) := by
  have hf := hok.fine
  have HOK : Hid (OkD D0) := hok
  have hp : 0 < D0.secs.length := by have := hok.1.1; omega
  have hops : 0 ≤ D0.ops ∧ D0.ops ≤ 100000 := hok.2.2.1
  have x2 : w.cell? ⟨X, 2, none⟩ = some (.int .i64 D0.ops) := h.x.cell 2
  have x4 : w.cell? ⟨X, 4, none⟩ = some (.bool D0.down) := h.x.cell 4
  clear hok
  by_cases hdn : D0.down = true ∨ 100000 ≤ D0.ops
  · have HF : Hid (flushF D0 = (D0, 9)) := flushF_down hdn
    have HR : Hid (OpTo w B X gs sc fa fc (flushF D0).1 (flushF D0).2 (.returned (.int .i64 9)) w) := by
      rw [HF.out]
      exact ⟨rfl, ⟨ca, cc, ss, cs, h, hl⟩, Below.refl _ _⟩
    clear h hl hf
    by_cases hd1 : D0.down = true
    · rw [hd1] at x4
      go_enter Try.func67, Try.ntmps67
      go_wp2
      go_ret
      exact HR.out
    · have hd2 : D0.down = false := by simpa using hd1
      have hd3 : (100000 : Int) ≤ D0.ops := hdn.resolve_left hd1
      rw [hd2] at x4
      go_enter Try.func67, Try.ntmps67
      go_wp2
      go_ret
      exact HR.out
  have hd2 : D0.down = false := by
    cases hx : D0.down with
    | false => rfl
    | true => exact absurd (.inl hx) hdn
  have hd3 : ¬ (100000 : Int) ≤ D0.ops := fun hx => hdn (.inr hx)
  have x0 : w.cell? ⟨X, 0, none⟩ = some (.slice (some ⟨gs, 0, none⟩) D0.secs.length sc) := h.x.cell 0
  have x1 : w.cell? ⟨X, 1, none⟩ = some (.slice ca D0.cache.length cc) := h.x.cell 1
  have x3 : w.cell? ⟨X, 3, none⟩ = some (.slice fa D0.faults.length fc) := h.x.cell 3
  have hFt := l12Fault_any _ D0 w (h.kview hl hp) hf
  have HM : Hid (MS w B X gs sc ca cc fa fc ss cs D0 D0.secs ∧ ML D0 sc ca cc fa fc) := ⟨h, hl⟩
  have HDN : Hid (¬ (D0.down = true ∨ 100000 ≤ D0.ops)) := hdn
  have hw1 : IntKind.i64.wrap (D0.ops + 1) = D0.ops + 1 := by rw [IntKind.wrap_i64]; omega
  clear h hl hdn hf
  obtain ⟨dv, hdv⟩ := hidEx D0.down
  rw [hd2] at hdv
  rw [hd2] at x4 hFt
  go_enter Try.func67, Try.ntmps67
  go_wp2_with fail
  refine hFt.mono ?_
  rintro e w1 ⟨hb1, hres⟩
  clear hFt x0 x1 x2 x3 x4
  rcases hres with ⟨f, hff, rfl⟩ | ⟨hff, rfl⟩
  · have HF : Hid (flushF D0 = (loseD { D0 with ops := D0.ops + 1 } f, 9)) := flushF_lose HDN.out hff
    have hfo := findF_ok HOK.out hff
    obtain ⟨p, q, c⟩ := f
    obtain ⟨-, ⟨hq0, hq1⟩, hc0, hc1⟩ := hfo
    dsimp only at hq0 hq1 hc0 hc1 ⊢
    obtain ⟨r, rfl⟩ := Int.eq_ofNat_of_zero_le hc0
    have hbA : Below w1.heap.size w1 (w1.alloc (.cells #[.int .i64 p, .int .i64 q, .int .i64 (r : Int)] 70)) := (Below.refl _ _).alloc (Nat.le_refl _) _
    have hMA := (HM.out.1.on hb1).on hbA
    have hBA : Below B w (w1.alloc (.cells #[.int .i64 p, .int .i64 q, .int .i64 (r : Int)] 70)) := (hb1.mono hBw).trans (hbA.mono (by have := hb1.size; omega))
    have hFA := VN.new w1 70 [.int .i64 p, .int .i64 q, .int .i64 (r : Int)]
    have y2 : (w1.alloc (.cells #[.int .i64 p, .int .i64 q, .int .i64 (r : Int)] 70)).cell? ⟨X, 2, none⟩ = some (.int .i64 D0.ops) := hMA.x.cell 2
    have z2 := hMA.x.fz 2
    have hM2 := hMA.ops (D0.ops + 1)
    have hB2 : Below B w ((w1.alloc (.cells #[.int .i64 p, .int .i64 q, .int .i64 (r : Int)] 70)).setCell ⟨X, 2, none⟩ (.int .i64 (D0.ops + 1))) := hBA.setCell (p := ⟨X, 2, none⟩) hBX _
    have hF2 := hFA.block ((keep_vn (P := fun t => t = 28) (i := 2) (u := .int .i64 (D0.ops + 1)) hMA.x rfl) _ _ _ _ hFA (by decide))
    have hsz2 : B ≤ ((w1.alloc (.cells #[.int .i64 p, .int .i64 q, .int .i64 (r : Int)] 70)).setCell ⟨X, 2, none⟩ (.int .i64 (D0.ops + 1))).heap.size := by have h1 := hb1.size; simp; omega
    obtain ⟨W2, hW2⟩ := hidEx ((w1.alloc (.cells #[.int .i64 p, .int .i64 q, .int .i64 (r : Int)] 70)).setCell ⟨X, 2, none⟩ (.int .i64 (D0.ops + 1)))
    rw [hW2.out] at hM2 hB2 hF2 hsz2
    have f0 : W2.cell? ⟨w1.heap.size, 0, none⟩ = some (.int .i64 p) := hF2.cell 0
    have f1 : W2.cell? ⟨w1.heap.size, 1, none⟩ = some (.int .i64 q) := hF2.cell 1
    have f2 : W2.cell? ⟨w1.heap.size, 2, none⟩ = some (.int .i64 (r : Int)) := hF2.cell 2
    have hL := l12Lose_any B X gs sc ca cc fa fc ss cs { D0 with ops := D0.ops + 1 } p q r W2 hM2 hp (fun i hi => ⟨(HOK.out.2.1.2 i hi).1, (HOK.out.2.1.2 i hi).2.1⟩) (by have := HOK.out.2.1.1; show D0.cache.length ≤ _; omega) HOK.out.fine.cache hq0 hq1 (by omega) hsz2 hBX
    have HML : Hid (ML D0 sc ca cc fa fc) := HM.out.2
    clear hMA hBA hFA hM2 hF2 HM hb1 hbA
    go_wp2_with (rw [hW2.out])
    refine hL.mono ?_
    rintro e w3 ⟨rfl, ⟨ga, s3, hM3⟩, hb3⟩
    have HR : Hid (OpTo w B X gs sc fa fc (flushF D0).1 (flushF D0).2 (.returned (.int .i64 9)) w3) := by
      rw [HF.out]
      refine ⟨rfl, ⟨ga, 0, s3, [], hM3, ?_, Nat.le_refl _, fun _ => rfl, HML.out.f, HML.out.fn⟩, hB2.trans hb3⟩
      show (settleL D0.secs _).length ≤ sc
      rw [settleL_len]; exact HML.out.s
    clear hL hM3 hb3 hB2
    go_wp2
    go_ret
    exact HR.out
  · have HF : Hid (flushF D0 = (calmD { D0 with ops := D0.ops + 1 }, 0)) := flushF_calm HDN.out hff
    have hbA : Below w1.heap.size w1 (w1.alloc (.cells #[.int .i64 0, .int .i64 0, .int .i64 0] 70)) := (Below.refl _ _).alloc (Nat.le_refl _) _
    have hMA := (HM.out.1.on hb1).on hbA
    have hBA : Below B w (w1.alloc (.cells #[.int .i64 0, .int .i64 0, .int .i64 0] 70)) := (hb1.mono hBw).trans (hbA.mono (by have := hb1.size; omega))
    have y2 : (w1.alloc (.cells #[.int .i64 0, .int .i64 0, .int .i64 0] 70)).cell? ⟨X, 2, none⟩ = some (.int .i64 D0.ops) := hMA.x.cell 2
    have z2 := hMA.x.fz 2
    have hM2 := hMA.ops (D0.ops + 1)
    have hB2 : Below B w ((w1.alloc (.cells #[.int .i64 0, .int .i64 0, .int .i64 0] 70)).setCell ⟨X, 2, none⟩ (.int .i64 (D0.ops + 1))) := hBA.setCell (p := ⟨X, 2, none⟩) hBX _
    obtain ⟨W2, hW2⟩ := hidEx ((w1.alloc (.cells #[.int .i64 0, .int .i64 0, .int .i64 0] 70)).setCell ⟨X, 2, none⟩ (.int .i64 (D0.ops + 1)))
    rw [hW2.out] at hM2 hB2
    have HML : Hid (ML D0 sc ca cc fa fc) := HM.out.2
    have HNN : Hid (∀ i (h : i < D0.cache.length), 0 ≤ (D0.cache[i]).1 ∧ (D0.cache[i]).1 < D0.secs.length) := fun i hi => ⟨(HOK.out.2.1.2 i hi).1, (HOK.out.2.1.2 i hi).2.1⟩
    have hcl : D0.cache.length ≤ 60 := HOK.out.2.1.1
    obtain ⟨D, hD⟩ := hidEx ({ D0 with ops := D0.ops + 1 } : PDisk)
    have e1 : D0.cache = D.cache := by rw [← hD.out]
    have e2 : D0.secs = D.secs := by rw [← hD.out]
    have e3 : D0.faults = D.faults := by rw [← hD.out]
    rw [hD.out] at hM2 HF
    rw [e1] at hcl
    rw [e1, e2] at HNN
    rw [e2] at hp
    have hM2' : MS W2 B X gs sc ca cc fa fc ss cs D D.secs := by rw [← e2]; exact hM2
    replace HML : Hid (ML D sc ca cc fa fc) := ⟨by rw [← e2]; exact HML.out.s, by rw [← e1]; exact HML.out.c, HML.out.cn, by rw [← e3]; exact HML.out.f, HML.out.fn⟩
    clear hMA hBA hM2 HM hb1 hbA e1 e2 e3
    go_wp2_with (rw [hW2.out])
    go_loopg [5] D.cache.length (fun g i wr => ∃ k : Nat, k ≤ D.cache.length ∧ g = D.cache.length - k ∧ i = .int .i64 k ∧ ∃ s1, MS wr B X gs sc ca cc fa fc s1 cs D (settleL D.secs (D.cache.take k)) ∧ Below B w wr)
    case atStart => exact ⟨0, Nat.zero_le _, rfl, rfl, ss, hM2', hB2⟩
    case round =>
      clear hM2' hB2
      obtain ⟨k, hk, rfl, rfl, s1, hM, hB⟩ := hrel
      have hx1 : wr.cell? ⟨X, 1, none⟩ = some (.slice ca D.cache.length cc) := hM.x.cell 1
      by_cases hlt : k < D.cache.length
      · have hkz : (k : Int) < (D.cache.length : Int) := by omega
        obtain ⟨gl, el, -, hgl, hcl'⟩ := hM.cache.cell (by rw [wcells_len hM.nc]; omega)
        subst el
        have hv := List.getElem?_eq_getElem (l := cs) (i := k) (by rw [hM.nc]; omega)
        obtain ⟨w0, w1'⟩ := wcells_get (List.getElem?_eq_getElem hlt) hv
        have hOB := hM.cb k _ (D.cache[k]).2 hv (by simp [hlt])
        obtain ⟨ua, uc, eu, -, -, -, -⟩ := hOB.is
        obtain ⟨hN0, hN1⟩ := HNN.out k hlt
        obtain ⟨mi, hmi⟩ : ∃ m : Nat, (D.cache[k]).1 = m := ⟨(D.cache[k]).1.toNat, by omega⟩
        have hmn : mi < D.secs.length := by omega
        have hmz : (mi : Int) < (D.secs.length : Int) := by omega
        have HNX : Hid (settleL D.secs (D.cache.take (k + 1)) = (settleL D.secs (D.cache.take k)).set mi (D.cache[k]).2) := by
          show _ = _
          rw [settleL_one hlt, hmi]
          simp
        rw [hmi] at w0
        rw [eu] at w1' hOB
        obtain ⟨pl, hpl⟩ := hidEx (D.cache[k]).2
        rw [hpl.out] at hOB HNX w1'
        obtain ⟨un, hun⟩ := hidEx pl.length
        rw [hun.out] at hOB w1'
        have HWC : Hid ((wcells D.cache cs)[k * 2]? = some (.int .i64 (mi : Int)) ∧ (wcells D.cache cs)[k * 2 + 1]? = some (.slice ua un uc)) := ⟨w0, w1'⟩
        have y0 := hcl' _ _ w0
        have y1 := hcl' _ _ w1'
        clear hcl' w0 w1' hv eu hmi hN0 hN1
        go_wp2_with fail
        refine wp_region_held_drew (S := fun W => W.cell? ⟨X, 0, none⟩ = some (.slice (some ⟨gs, 0, none⟩) D.secs.length sc) ∧ W.cell? ⟨X, 1, none⟩ = some (.slice (some ⟨gl, 0, none⟩) D.cache.length cc) ∧ W.cell? ⟨gl, k * 2, none⟩ = some (.int .i64 (mi : Int)) ∧ W.cell? ⟨gl, k * 2 + 1, none⟩ = some (.slice ua un uc)) (by kernel_rfl) ⟨hM.x.cell 0, hM.x.cell 1, y0, y1⟩ (fun hHeld => ?_)
        have hbd : Below wr.heap.size wr wr.drew := (Below.refl _ _).drew
        replace hM := hM.on hbd
        replace hB := hB.trans (hbd.mono (by have := hB.size; omega))
        replace hOB := hOB.up (Up.ofBelow hbd)
        clear hbd y0 y1 hx1
        obtain ⟨wd, hwd⟩ := hidEx wr.drew
        rw [hwd.out] at hM hB hOB hHeld ⊢
        refine' wpAnyH_take (i := 0) (v := _) rfl (by kernel_rfl) (by kernel_rfl) (by kernel_rfl) (fun _ _ _ h => h) (Or.inl ⟨by kernel_rfl, ?hfl1⟩) (by assumption) ?rfl1
        case hfl1 => intro W hW; obtain ⟨c0, c1, c2, c3⟩ := hW; go_simp; all_goals with_reducible rfl
        change wpAnyH _ _ _ _ _ _ _ (Act.put _ (some 45) _) _
        simp only [Act.put, List.setIfInBounds_toArray, List.set_cons_zero, List.set_cons_succ]
        refine' wpAnyH_take (i := 1) (v := _) rfl (by kernel_rfl) (by kernel_rfl) (by kernel_rfl) (fun _ _ _ h => h) (Or.inl ⟨by kernel_rfl, ?hfl2⟩) (by assumption) ?rfl2
        case hfl2 => intro W hW; obtain ⟨c0, c1, c2, c3⟩ := hW; go_simp; all_goals with_reducible rfl
        change wpAnyH _ _ _ _ _ _ _ (Act.put _ (some 46) _) _
        simp only [Act.put, List.setIfInBounds_toArray, List.set_cons_zero, List.set_cons_succ]
        refine' wpAnyH_take (i := 2) (v := _) rfl (by kernel_rfl) (by kernel_rfl) (by kernel_rfl) (fun _ _ _ h => h) (Or.inl ⟨by kernel_rfl, ?hfl3⟩) (by assumption) ?rfl3
        case hfl3 => intro W hW; obtain ⟨c0, c1, c2, c3⟩ := hW; go_simp; all_goals with_reducible rfl
        change wpAnyH _ _ _ _ _ _ _ (Act.put _ (some 47) _) _
        simp only [Act.put, List.setIfInBounds_toArray, List.set_cons_zero, List.set_cons_succ]
        refine' wpAnyH_take (i := 3) (v := _) rfl (by kernel_rfl) (by kernel_rfl) (by kernel_rfl) (fun _ _ _ h => h) (Or.inl ⟨by kernel_rfl, ?hfl4⟩) (by assumption) ?rfl4
        case hfl4 => intro W hW; obtain ⟨c0, c1, c2, c3⟩ := hW; go_simp; all_goals with_reducible rfl
        change wpAnyH _ _ _ _ _ _ _ (Act.put _ (some 48) _) _
        simp only [Act.put, List.setIfInBounds_toArray, List.set_cons_zero, List.set_cons_succ]
        refine' wpAnyH_take (i := 4) (v := _) rfl (by kernel_rfl) (by kernel_rfl) (by kernel_rfl) (fun _ _ _ h => h) (Or.inl ⟨by kernel_rfl, ?hfl5⟩) (by assumption) ?rfl5
        case hfl5 => intro W hW; obtain ⟨c0, c1, c2, c3⟩ := hW; go_simp; all_goals with_reducible rfl
        change wpAnyH _ _ _ _ _ _ _ (Act.put _ (some 49) _) _
        simp only [Act.put, List.setIfInBounds_toArray, List.set_cons_zero, List.set_cons_succ]
        refine' wpAnyH_take (i := 5) (v := _) rfl (by kernel_rfl) (by kernel_rfl) (by kernel_rfl) (fun _ _ _ h => h) (Or.inl ⟨by kernel_rfl, ?hfl6⟩) (by assumption) ?rfl6
        case hfl6 => intro W hW; obtain ⟨c0, c1, c2, c3⟩ := hW; go_simp; all_goals with_reducible rfl
        change wpAnyH _ _ _ _ _ _ _ (Act.put _ (some 50) _) _
        simp only [Act.put, List.setIfInBounds_toArray, List.set_cons_zero, List.set_cons_succ]
        refine' wpAnyH_take (i := 6) (v := _) rfl (by kernel_rfl) (by kernel_rfl) (by kernel_rfl) (fun _ _ _ h => h) (Or.inl ⟨by kernel_rfl, ?hfl7⟩) (by assumption) ?rfl7
        case hfl7 => intro W hW; obtain ⟨c0, c1, c2, c3⟩ := hW; go_simp; all_goals with_reducible rfl
        change wpAnyH _ _ _ _ _ _ _ (Act.put _ (some 51) _) _
        simp only [Act.put, List.setIfInBounds_toArray, List.set_cons_zero, List.set_cons_succ]
        refine' wpAnyH_take (i := 7) (v := _) rfl (by kernel_rfl) (by kernel_rfl) (by kernel_rfl) (fun _ _ _ h => h) (Or.inl ⟨by kernel_rfl, ?hfl8⟩) (by assumption) ?rfl8
        case hfl8 => intro W hW; obtain ⟨c0, c1, c2, c3⟩ := hW; go_simp; all_goals with_reducible rfl
        change wpAnyH _ _ _ _ _ _ _ (Act.put _ (some 52) _) _
        simp only [Act.put, List.setIfInBounds_toArray, List.set_cons_zero, List.set_cons_succ]
        refine' wpAnyH_take (i := 8) (v := _) rfl (by kernel_rfl) (by kernel_rfl) (by kernel_rfl) (fun _ _ _ h => h) (Or.inl ⟨by kernel_rfl, ?hfl9⟩) (by assumption) ?rfl9
        case hfl9 => intro W hW; obtain ⟨c0, c1, c2, c3⟩ := hW; go_simp; all_goals with_reducible rfl
        change wpAnyH _ _ _ _ _ _ _ (Act.put _ (some 53) _) _
        simp only [Act.put, List.setIfInBounds_toArray, List.set_cons_zero, List.set_cons_succ]
        refine' wpAnyH_take (i := 9) (v := _) rfl (by kernel_rfl) (by kernel_rfl) (by kernel_rfl) (fun _ _ _ h => h) (Or.inl ⟨by kernel_rfl, ?hfl10⟩) (by assumption) ?rfl10
        case hfl10 => intro W hW; obtain ⟨c0, c1, c2, c3⟩ := hW; go_simp; all_goals with_reducible rfl
        change wpAnyH _ _ _ _ _ _ _ (Act.put _ (some 54) _) _
        simp only [Act.put, List.setIfInBounds_toArray, List.set_cons_zero, List.set_cons_succ]
        refine' wpAnyH_take (i := 10) (v := _) rfl (by kernel_rfl) (by kernel_rfl) (by kernel_rfl) (fun _ _ _ h => h) (Or.inl ⟨by kernel_rfl, ?hfl11⟩) (by assumption) ?rfl11
        case hfl11 => intro W hW; obtain ⟨c0, c1, c2, c3⟩ := hW; go_simp; all_goals with_reducible rfl
        change wpAnyH _ _ _ _ _ _ _ (Act.put _ (some 55) _) _
        simp only [Act.put, List.setIfInBounds_toArray, List.set_cons_zero, List.set_cons_succ]
        refine' wpAnyH_take (i := 11) (v := _) rfl (by kernel_rfl) (by kernel_rfl) (by kernel_rfl) (fun _ _ _ h => h) (Or.inl ⟨by kernel_rfl, ?hfl12⟩) (by assumption) ?rfl12
        case hfl12 => intro W hW; obtain ⟨c0, c1, c2, c3⟩ := hW; go_simp; all_goals with_reducible rfl
        change wpAnyH _ _ _ _ _ _ _ (Act.put _ (some 56) _) _
        simp only [Act.put, List.setIfInBounds_toArray, List.set_cons_zero, List.set_cons_succ]
        refine' wpAnyH_take (i := 12) (v := _) rfl (by kernel_rfl) (by kernel_rfl) (by kernel_rfl) (fun _ _ _ h => h) (Or.inl ⟨by kernel_rfl, ?hfl13⟩) (by assumption) ?rfl13
        case hfl13 => intro W hW; obtain ⟨c0, c1, c2, c3⟩ := hW; go_simp; all_goals with_reducible rfl
        change wpAnyH _ _ _ _ _ _ _ (Act.put _ (some 57) _) _
        simp only [Act.put, List.setIfInBounds_toArray, List.set_cons_zero, List.set_cons_succ]
        refine' wpAnyH_take (i := 13) (v := _) rfl (by kernel_rfl) (by kernel_rfl) (by kernel_rfl) (fun _ _ _ h => h) (Or.inl ⟨by kernel_rfl, ?hfl14⟩) (by assumption) ?rfl14
        case hfl14 => intro W hW; obtain ⟨c0, c1, c2, c3⟩ := hW; go_simp; all_goals with_reducible rfl
        change wpAnyH _ _ _ _ _ _ _ (Act.put _ (some 58) _) _
        simp only [Act.put, List.setIfInBounds_toArray, List.set_cons_zero, List.set_cons_succ]
        refine' wpAnyH_take (i := 14) (v := _) rfl (by kernel_rfl) (by kernel_rfl) (by kernel_rfl) (fun _ _ _ h => h) (Or.inl ⟨by kernel_rfl, ?hfl15⟩) (by assumption) ?rfl15
        case hfl15 => intro W hW; obtain ⟨c0, c1, c2, c3⟩ := hW; go_simp; all_goals with_reducible rfl
        change wpAnyH _ _ _ _ _ _ _ (Act.put _ (some 59) _) _
        simp only [Act.put, List.setIfInBounds_toArray, List.set_cons_zero, List.set_cons_succ]
        refine' wpAnyH_take (i := 15) (v := _) rfl (by kernel_rfl) (by kernel_rfl) (by kernel_rfl) (fun _ _ _ h => h) (Or.inl ⟨by kernel_rfl, ?hfl16⟩) (by assumption) ?rfl16
        case hfl16 => intro W hW; obtain ⟨c0, c1, c2, c3⟩ := hW; go_simp; all_goals with_reducible rfl
        change wpAnyH _ _ _ _ _ _ _ (Act.put _ (some 60) _) _
        simp only [Act.put, List.setIfInBounds_toArray, List.set_cons_zero, List.set_cons_succ]
        refine' wpAnyH_take (i := 16) (v := _) rfl (by kernel_rfl) (by kernel_rfl) (by kernel_rfl) (fun _ _ _ h => h) (Or.inl ⟨by kernel_rfl, ?hfl17⟩) (by assumption) ?rfl17
        case hfl17 => intro W hW; obtain ⟨c0, c1, c2, c3⟩ := hW; go_simp; all_goals with_reducible rfl
        change wpAnyH _ _ _ _ _ _ _ (Act.put _ (some 61) _) _
        simp only [Act.put, List.setIfInBounds_toArray, List.set_cons_zero, List.set_cons_succ]
        refine' wpAnyH_take (i := 17) (v := _) rfl (by kernel_rfl) (by kernel_rfl) (by kernel_rfl) (fun _ _ _ h => h) (Or.inl ⟨by kernel_rfl, ?hfl18⟩) (by assumption) ?rfl18
        case hfl18 => intro W hW; obtain ⟨c0, c1, c2, c3⟩ := hW; go_simp; all_goals with_reducible rfl
        change wpAnyH _ _ _ _ _ _ _ (Act.put _ (some 62) _) _
        simp only [Act.put, List.setIfInBounds_toArray, List.set_cons_zero, List.set_cons_succ]
        refine' wpAnyH_take (i := 18) (v := _) rfl (by kernel_rfl) (by kernel_rfl) (by kernel_rfl) (fun _ _ _ h => h) (Or.inl ⟨by kernel_rfl, ?hfl19⟩) (by assumption) ?rfl19
        case hfl19 => intro W hW; obtain ⟨c0, c1, c2, c3⟩ := hW; go_simp; all_goals with_reducible rfl
        change wpAnyH _ _ _ _ _ _ _ (Act.put _ (some 63) _) _
        simp only [Act.put, List.setIfInBounds_toArray, List.set_cons_zero, List.set_cons_succ]
        refine' wpAnyH_take (i := 19) (v := _) rfl (by kernel_rfl) (by kernel_rfl) (by kernel_rfl) (fun _ _ _ h => h) (Or.inl ⟨by kernel_rfl, ?hfl20⟩) (by assumption) ?rfl20
        case hfl20 => intro W hW; obtain ⟨c0, c1, c2, c3⟩ := hW; go_simp; all_goals with_reducible rfl
        change wpAnyH _ _ _ _ _ _ _ (Act.put _ (some 64) _) _
        simp only [Act.put, List.setIfInBounds_toArray, List.set_cons_zero, List.set_cons_succ]
        refine' wpAnyH_take (i := 20) (v := _) rfl (by kernel_rfl) (by kernel_rfl) (by kernel_rfl) (fun _ _ _ h => h) (Or.inl ⟨by kernel_rfl, ?hfl21⟩) (by assumption) ?rfl21
        case hfl21 => intro W hW; obtain ⟨c0, c1, c2, c3⟩ := hW; go_simp; all_goals with_reducible rfl
        change wpAnyH _ _ _ _ _ _ _ (Act.put _ (some 65) _) _
        simp only [Act.put, List.setIfInBounds_toArray, List.set_cons_zero, List.set_cons_succ]
        refine wpAnyH_ready (rs := [21]) (by kernel_rfl) (by simp) ?_
        refine AllReadyH.cons rfl (fun KK hK => ?_) AllReadyH.nil
        have hz := hM.secs.cellFz (by rw [hM.ns]; omega) mi
        obtain ⟨g9, e9, hg9, -, hc9⟩ := hM.secs.cell (by rw [hM.ns]; omega)
        cases e9
        have hcm := hc9 mi _ (List.getElem?_eq_getElem (by rw [hM.ns]; omega))
        go_simp
        have hM9 := hM.put hmn hOB
        have hB9 : Below B w (wd.setCell ⟨gs, mi, none⟩ (.slice ua un uc)) := hB.setCell (p := ⟨gs, mi, none⟩) hg9 _
        obtain ⟨gl2, el2, -, -, hcl2⟩ := hM9.cache.cell (by rw [wcells_len hM9.nc]; omega)
        cases el2
        have y0 := hcl2 _ _ HWC.out.1
        have y1 := hcl2 _ _ HWC.out.2
        clear hz hc9 hcm hcl2
        refine hK.out _ _ ⟨hM9.x.cell 0, hM9.x.cell 1, y0, y1⟩ (fun hHeld => ?_)
        clear hK KK
        try simp only [Act.put, List.setIfInBounds_toArray, List.set_cons_zero, List.set_cons_succ]
        refine wpAnyH_done (by kernel_rfl) ?_ _
        have HR : Hid (MS (wd.setCell ⟨gs, mi, none⟩ (.slice ua un uc)) B X gs sc (some ⟨gl, 0, none⟩) cc fa fc (s1.set mi (.slice ua un uc)) cs D (settleL D.secs (D.cache.take (k + 1))) ∧ Below B w (wd.setCell ⟨gs, mi, none⟩ (.slice ua un uc))) := ⟨by rw [HNX.out]; exact hM9, hB9⟩
        clear hM hM9 hB hB9 hOB y0 y1 hHeld
        go_wp2
        go_roundg (D.cache.length - (k + 1))
        case measure => omega
        case rel => exact ⟨k + 1, by omega, rfl, by go_num, _, HR.out.1, HR.out.2⟩
      · obtain rfl : k = D.cache.length := by omega
        have hkz : ¬ (D.cache.length : Int) < (D.cache.length : Int) := by omega
        have hbW : Below wr.heap.size wr (wr.alloc (.cells #[] 41)) := (Below.refl _ _).alloc (Nat.le_refl _) _
        have hMW := hM.on hbW
        have hBW := hB.trans (hbW.mono (by have := hB.size; omega))
        have x1' : (wr.alloc (.cells #[] 41)).cell? ⟨X, 1, none⟩ = some (.slice ca D.cache.length cc) := hMW.x.cell 1
        have z1' := hMW.x.fz 1
        have hX2 := hMW.x.set 1 (.slice (some ⟨wr.heap.size, 0, none⟩) 0 0)
        simp only [List.set] at hX2
        have hkk := keep_vn (P := fun t => t = 28) (i := 1) (u := .slice (some ⟨wr.heap.size, 0, none⟩) 0 0) hMW.x rfl
        have hBZ : Below B w ((wr.alloc (.cells #[] 41)).setCell ⟨X, 1, none⟩ (.slice (some ⟨wr.heap.size, 0, none⟩) 0 0)) := hBW.setCell (p := ⟨X, 1, none⟩) hBX _
        have hlS : (calmD D).secs = settleL D.secs (D.cache.take D.cache.length) := by rw [List.take_length]; rfl
        have HR : Hid (OpTo w B X gs sc fa fc (flushF D0).1 (flushF D0).2 (.returned (.int .i64 0)) ((wr.alloc (.cells #[] 41)).setCell ⟨X, 1, none⟩ (.slice (some ⟨wr.heap.size, 0, none⟩) 0 0))) := by
          rw [HF.out]
          refine ⟨rfl, ⟨some ⟨wr.heap.size, 0, none⟩, 0, s1, [], ⟨?_, hMW.secs.keepT hkk (by decide), ?_, rfl, fun i v l h1 h2 => ?_, .inl rfl, rfl, fun i v l h1 h2 => by simp at h1, hMW.faults.keepT hkk (by decide)⟩, ?_, Nat.le_refl _, fun _ => rfl, HML.out.f, HML.out.fn⟩, hBZ⟩
          · have e : (calmD D).secs.length = D.secs.length := by rw [hlS]; exact settleL_len _ _
            rw [e]
            exact hX2
          · rw [hlS, settleL_len]; exact hMW.ns
          · rw [hlS] at h2
            exact (hMW.ob i v l h1 h2).keepT hkk (by decide)
          · rw [hlS, settleL_len]; exact HML.out.s
        clear hM hB hMW hBW hX2 hkk hBZ hlS
        go_wp2
        go_ret
        exact HR.out
end Go.Proofs.Yteojgajpokkgiaa

/-
  What a sector reads as, plainly.
-/
namespace Go.Proofs.Yteojgajpokkgiaa
open Go.RowKit
set_option maxRecDepth 4000

/-- What the last of the first k writes of this sector has. -/
def lastW (l : List (Int × List Int)) (n : Int) : Nat → Option (List Int)
  | 0 => none
  | k + 1 => if (l[k]?).map (·.1) = some n then (l[k]?).map (·.2) else lastW l n k
theorem lastW_hit {l : List (Int × List Int)} {n : Int} {k : Nat} (h : k < l.length) (e : (l[k]).1 = n) : lastW l n (k + 1) = some (l[k]).2 := by
  rw [lastW, List.getElem?_eq_getElem h]
  simp [e]
theorem lastW_miss {l : List (Int × List Int)} {n : Int} {k : Nat} (h : k < l.length) (e : (l[k]).1 ≠ n) : lastW l n (k + 1) = lastW l n k := by
  rw [lastW, List.getElem?_eq_getElem h]
  simp [e]
def readB (D : PDisk) (n : Int) : List Int := if 0 ≤ n ∧ n < D.secs.length then (lastW D.cache n D.cache.length).getD (D.secs.getD n.toNat []) else []
def HasS (D : PDisk) (n : Int) : Prop := 0 ≤ n ∧ n < D.secs.length
theorem readB_none {D : PDisk} {n : Int} (h : ¬ HasS D n) : readB D n = [] := by unfold readB; rw [if_neg (show ¬ (0 ≤ n ∧ n < D.secs.length) from h)]
theorem readB_hit {D : PDisk} {n : Int} (h : HasS D n) {b : List Int} (e : lastW D.cache n D.cache.length = some b) : readB D n = b := by unfold readB; rw [if_pos (show 0 ≤ n ∧ n < D.secs.length from h), e]; rfl
theorem readB_sec {D : PDisk} {n : Int} (h : HasS D n) (e : lastW D.cache n D.cache.length = none) (hi : n.toNat < D.secs.length) : readB D n = D.secs[n.toNat] := by
  unfold readB
  rw [if_pos (show 0 ≤ n ∧ n < D.secs.length from h), e]
  simp [hi]
end Go.Proofs.Yteojgajpokkgiaa

/-
  What WriteSec comes to, plainly.
-/
namespace Go.Proofs.Yteojgajpokkgiaa
open Go.RowKit
set_option maxRecDepth 4000

/-- One more write, the operation counted. -/
def moreD (D : PDisk) (n : Int) (l : List Int) : PDisk := { D with ops := D.ops + 1, cache := D.cache ++ [(n, l)] }
noncomputable def writeF (D : PDisk) (n : Int) (l : List Int) : PDisk × Int := open Classical in
  if D.down = true ∨ 100000 ≤ D.ops then (D, 9) else match findF D.faults D.ops with
    | some f => (loseD (moreD D n l) f, 9)
    | none => (moreD D n l, 0)
def MayW (D : PDisk) (n : Int) (l : List Int) : Prop := OkD D ∧ HasS D n ∧ l.length ≤ 256 ∧ D.cache.length < 60
noncomputable def writeD (D : PDisk) (n : Int) (l : List Int) : PDisk × Int := open Classical in if MayW D n l then writeF D n l else (D, 1)
theorem writeD_no {D : PDisk} {n : Int} {l : List Int} (h : ¬ MayW D n l) : writeD D n l = (D, 1) := by unfold writeD; rw [if_neg h]
theorem writeD_ok {D : PDisk} {n : Int} {l : List Int} (h : MayW D n l) : writeD D n l = writeF D n l := by unfold writeD; rw [if_pos h]
theorem writeF_down {D : PDisk} {n : Int} {l : List Int} (h : D.down = true ∨ 100000 ≤ D.ops) : writeF D n l = (D, 9) := by unfold writeF; rw [if_pos h]
theorem writeF_lose {D : PDisk} {n : Int} {l : List Int} (h : ¬ (D.down = true ∨ 100000 ≤ D.ops)) {f : PFault} (hf : findF D.faults D.ops = some f) : writeF D n l = (loseD (moreD D n l) f, 9) := by unfold writeF; rw [if_neg h, hf]
theorem writeF_good {D : PDisk} {n : Int} {l : List Int} (h : ¬ (D.down = true ∨ 100000 ≤ D.ops)) (hf : findF D.faults D.ops = none) : writeF D n l = (moreD D n l, 0) := by unfold writeF; rw [if_neg h, hf]
theorem moreD_ok {D : PDisk} {n : Int} {l : List Int} (h : MayW D n l) (hd : ¬ (D.down = true ∨ 100000 ≤ D.ops)) : OkD (moreD D n l) := by
  obtain ⟨⟨h1, ⟨h2, h3⟩, h4, h5, h6⟩, h7, h8, h9⟩ := h
  have hn : ¬ 100000 ≤ D.ops := fun x => hd (.inr x)
  refine ⟨h1, ⟨?_, fun i hi => ?_⟩, ⟨?_, ?_⟩, h5, fun hx => hd (.inl hx.1)⟩
  · show (D.cache ++ [(n, l)]).length ≤ 60
    simp; omega
  · have hi' : i < (D.cache ++ [(n, l)]).length := hi
    show 0 ≤ ((D.cache ++ [(n, l)])[i]).1 ∧ ((D.cache ++ [(n, l)])[i]).1 < D.secs.length ∧ ((D.cache ++ [(n, l)])[i]).2.length ≤ 256
    by_cases e : i < D.cache.length
    · rw [List.getElem_append_left e]
      exact h3 i e
    · have e' : i = D.cache.length := by simp at hi'; omega
      subst e'
      simp only [List.getElem_append_right (Nat.le_refl _), Nat.sub_self, List.getElem_cons_zero]
      exact ⟨h7.1, h7.2, h8⟩
  · show 0 ≤ D.ops + 1; have := h4.1; omega
  · show D.ops + 1 ≤ 100000; omega
end Go.Proofs.Yteojgajpokkgiaa

/-
  A disk of the call's own whose cache may grow in place.
-/
namespace Go.Proofs.Yteojgajpokkgiaa
open Go.RowKit
set_option maxRecDepth 4000

def KOC (w : World) (B : Nat) (v : Value) (D : PDisk) : Prop := ∃ sa sc ca cc fa fc ss cs, v = dval D sa sc ca cc fa fc ∧ KO w B sa sc ca cc fa fc ss cs D ∧ w.ownsRow B 41 2 (.slice ca D.cache.length cc) D.cache.length (wcells D.cache cs)
theorem KOC.own {w : World} {B : Nat} {v : Value} {D : PDisk} (h : KOC w B v D) : KOwn w B v D := by
  obtain ⟨sa, sc, ca, cc, fa, fc, ss, cs, e, hk, -⟩ := h
  exact ⟨sa, sc, ca, cc, fa, fc, ss, cs, e, hk⟩
end Go.Proofs.Yteojgajpokkgiaa

