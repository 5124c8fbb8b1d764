/-
  Together: BestI, BestS, DiskOkImpl
-/
import Derived.Test.YtdhfbblameiloaaBE22
import Derived.Deep.LoopGhost
import Derived.Test.YtdhfbblameiloaaBE21
import Derived.Test.YtdhfbblameiloaaBE5
import Derived.Test.YtdhfbblameiloaaBE3
import Derived.Deep.RegionHeld3
/-
  The program's BestMeta.
-/
namespace Go.Proofs.Ytdhfbblameiloaa
open Go.RowKit
set_option maxRecDepth 4000

theorem eqM2 (a r b s : Int) (W : World) : (binOp .eql 64 (.agg #[.int .i64 a, .int .i64 r]) (.agg #[.int .i64 b, .int .i64 s])).run Try.prog W = .ok (.bool (decide (a = b) && decide (r = s))) W := by
  by_cases h1 : a = b <;> by_cases h2 : r = s <;> simp [go_sem, h1, h2]
/-- The best root so far, as the program holds it. -/
def heldB (b : Int × Int × Bool) : Int × Int := if b.2.2 = true then (b.1, b.2.1) else (-1, 0)
theorem heldB_newer {b r : Int × Int × Bool} (hb : Sound b) (hr : Sound r) : heldB (newerP b r) = if r.2.2 = true ∧ (heldB b).1 < r.1 then (r.1, r.2.1) else heldB b := by
  obtain ⟨b1, b2, b3⟩ := b
  obtain ⟨r1, r2, r3⟩ := r
  rcases hr with ⟨h1, h2, -⟩ | h1
  · dsimp only at h1 h2
    subst h1
    rcases hb with ⟨k1, k2, -⟩ | k1
    · dsimp only at k1 k2
      subst k1
      unfold newerP heldB
      dsimp only
      by_cases h : b1 < r1
      · simp [h]
      · simp [h]
    · cases k1
      unfold newerP heldB
      dsimp only
      simp
      omega
  · cases h1
    unfold newerP heldB
    simp

/-- What the loop keeps. -/
structure BL (w : World) (D : PDisk) (v : Value) (cs : List Value) (R N B : Nat) (k : Nat) (W : World) : Prop where
  x : VN W w.heap.size 32 cs
  r : MBox W R 0 0
  no : MBox W N (-1) 0
  best : MBox W B (heldB (bestP D k)).1 (heldB (bestP D k)).2
  below : Below w.heap.size w W
  lo : w.heap.size < R
  rn : R < N
  nb : N < B
theorem BL.on {w : World} {D : PDisk} {v : Value} {cs : List Value} {R N B : Nat} {k : Nat} {W W' : World} (h : BL w D v cs R N B k W) (hb : Below W.heap.size W W') : BL w D v cs R N B k W' :=
  ⟨h.x.below hb, h.r.below hb, h.no.below hb, h.best.below hb, h.below.trans (hb.mono h.below.size), h.lo, h.rn, h.nb⟩

set_option maxHeartbeats 8000000 in
theorem implBest_any (v : Value) (D : PDisk) (w : World) (h : KView w v D) (hf : KFine D) (hy : ∀ n : Int, ∀ i, i < (readB D n).length → 0 ≤ bf (readB D n) i ∧ bf (readB D n) i ≤ 255) :
    Calls Try.prog 46 #[v] w (MeTo w (bestP D 2)) := by
  have hkv := h
  have HF : Hid (KFine D) := hf
  have HKV := hkv
  have HS : Hid (∀ k, Sound (bestP D k)) := bestP_sound hy
  have HSR : Hid (∀ n, Sound (rootP D n)) := fun n => rootP_sound (hy n)
  obtain ⟨sa, sc, ca, cc, fa, fc, rfl, -, -, -⟩ := h.is
  replace HKV : Hid (KView w _ D) := HKV
  clear h hf hy
  obtain ⟨cs, hcs⟩ : ∃ cs : List Value, Hid (cs = [.slice sa D.secs.length sc, .slice ca D.cache.length cc, .int .i64 D.ops, .slice fa D.faults.length fc, .bool D.down]) := ⟨_, rfl⟩
  have hX := VN.new w 32 [.slice sa D.secs.length sc, .slice ca D.cache.length cc, .int .i64 D.ops, .slice fa D.faults.length fc, .bool D.down]
  have hb1 : Below w.heap.size w (w.alloc (.cells #[.slice sa D.secs.length sc, .slice ca D.cache.length cc, .int .i64 D.ops, .slice fa D.faults.length fc, .bool D.down] 32)) := (Below.refl _ _).alloc (Nat.le_refl _) _
  have s1 : (w.alloc (.cells #[.slice sa D.secs.length sc, .slice ca D.cache.length cc, .int .i64 D.ops, .slice fa D.faults.length fc, .bool D.down] 32)).heap.size = w.heap.size + 1 := by simp
  obtain ⟨W1, hW1⟩ : ∃ x, Hid (w.alloc (.cells #[.slice sa D.secs.length sc, .slice ca D.cache.length cc, .int .i64 D.ops, .slice fa D.faults.length fc, .bool D.down] 32) = x) := ⟨_, rfl⟩
  rw [hW1.out] at hX hb1 s1
  have hb2 : Below W1.heap.size W1 (W1.alloc (.cells #[.int .i64 0, .int .i64 0] 64)) := (Below.refl _ _).alloc (Nat.le_refl _) _
  have s2 : (W1.alloc (.cells #[.int .i64 0, .int .i64 0] 64)).heap.size = w.heap.size + 2 := by simp [s1]
  have hR := MBox.new W1 0 0
  obtain ⟨W2, hW2⟩ : ∃ x, Hid (W1.alloc (.cells #[.int .i64 0, .int .i64 0] 64) = x) := ⟨_, rfl⟩
  rw [hW2.out] at hR hb2 s2
  have hb3 : Below W2.heap.size W2 (W2.alloc (.cells #[.int .i64 (-1), .int .i64 0] 64)) := (Below.refl _ _).alloc (Nat.le_refl _) _
  have s3 : (W2.alloc (.cells #[.int .i64 (-1), .int .i64 0] 64)).heap.size = w.heap.size + 3 := by simp [s2]
  have hN := MBox.new W2 (-1) 0
  obtain ⟨W3, hW3⟩ : ∃ x, Hid (W2.alloc (.cells #[.int .i64 (-1), .int .i64 0] 64) = x) := ⟨_, rfl⟩
  rw [hW3.out] at hN hb3 s3
  have hb4 : Below W3.heap.size W3 (W3.alloc (.cells #[.int .i64 (-1), .int .i64 0] 64)) := (Below.refl _ _).alloc (Nat.le_refl _) _
  have hBst := MBox.new W3 (-1) 0
  obtain ⟨W4, hW4⟩ : ∃ x, Hid (W3.alloc (.cells #[.int .i64 (-1), .int .i64 0] 64) = x) := ⟨_, rfl⟩
  rw [hW4.out] at hBst hb4
  obtain ⟨n0, n1⟩ := hN.cells
  have hB12 := hb2.trans (hb3.mono hb2.size)
  have hB14 := hB12.trans (hb4.mono hB12.size)
  obtain ⟨R, hRe⟩ : ∃ x, Hid (W1.heap.size = x) := ⟨_, rfl⟩
  obtain ⟨N, hNe⟩ : ∃ x, Hid (W2.heap.size = x) := ⟨_, rfl⟩
  obtain ⟨B, hBe⟩ : ∃ x, Hid (W3.heap.size = x) := ⟨_, rfl⟩
  have hRo := hRe.out
  have hNo := hNe.out
  have hBo := hBe.out
  have hL : BL w D (.agg #[.slice sa D.secs.length sc, .slice ca D.cache.length cc, .int .i64 D.ops, .slice fa D.faults.length fc, .bool D.down]) cs R N B 0 W4 :=
    ⟨by rw [hcs.out]; exact hX.below hB14, by rw [← hRo]; exact hR.below (hb3.trans (hb4.mono hb3.size)), by rw [← hNo]; exact hN.below hb4, by rw [← hBo]; exact hBst, hb1.trans (hB14.mono hb1.size), by omega, by omega, by omega⟩
  have HL : Hid _ := hL
  clear hRo hNo hBo
  clear hL hBst hN hR hX hb1 hb2 hb3 hb4 hB12 hB14 hkv s1 s2 s3
  go_enter Try.func46, Try.ntmps46
  go_wp2_with (first | rw [hW1.out] | rw [hW2.out] | rw [hW3.out] | rw [hW4.out])
  rw [hRe.out, hNe.out, hBe.out]
  clear hW1 hW2 hW3 hW4 hRe hNe hBe n0 n1
  go_loopg [11] 2 (fun q i wr => ∃ k : Nat, k ≤ 2 ∧ q = 2 - k ∧ i = .int .i64 k ∧ BL w D (.agg #[.slice sa D.secs.length sc, .slice ca D.cache.length cc, .int .i64 D.ops, .slice fa D.faults.length fc, .bool D.down]) cs R N B k wr)
  case atStart => exact ⟨0, Nat.zero_le _, rfl, rfl, HL.out⟩
  case round =>
    clear HL
    obtain ⟨k, hk, rfl, rfl, hL⟩ := hrel
    by_cases hlt : k < 2
    · have hkz : (k : Int) < 2 := by omega
      have hR := rootIn_any _ D k wr (HKV.out.below hL.below) HF.out
      have HNX : Hid (heldB (bestP D (k + 1)) = if (rootP D k).2.2 = true ∧ (heldB (bestP D k)).1 < (rootP D k).1 then ((rootP D k).1, (rootP D k).2.1) else heldB (bestP D k)) := heldB_newer (HS.out k) (HSR.out k)
      have x0 : wr.cell? ⟨w.heap.size, 0, none⟩ = some (.slice sa D.secs.length sc) := by have := hL.x.cell 0; rw [hcs.out] at this; exact this
      have x1 : wr.cell? ⟨w.heap.size, 1, none⟩ = some (.slice ca D.cache.length cc) := by have := hL.x.cell 1; rw [hcs.out] at this; exact this
      have x2 : wr.cell? ⟨w.heap.size, 2, none⟩ = some (.int .i64 D.ops) := by have := hL.x.cell 2; rw [hcs.out] at this; exact this
      have x3 : wr.cell? ⟨w.heap.size, 3, none⟩ = some (.slice fa D.faults.length fc) := by have := hL.x.cell 3; rw [hcs.out] at this; exact this
      have x4 : wr.cell? ⟨w.heap.size, 4, none⟩ = some (.bool D.down) := by have := hL.x.cell 4; rw [hcs.out] at this; exact this
      obtain ⟨g, r, is, hP⟩ : ∃ g r is, Hid (rootP D k = (g, r, is)) := ⟨_, _, _, rfl⟩
      rw [hP.out] at hR HNX
      go_wp2_with fail
      refine hR.mono ?_
      rintro e w5 ⟨rfl, hb5⟩
      replace hL := hL.on hb5
      have hBM := hL.best.lt
      have hbM : Below w5.heap.size w5 (w5.alloc (.cells #[.int .i64 g, .int .i64 r] 64)) := (Below.refl _ _).alloc (Nat.le_refl _) _
      have hM := MBox.new w5 g r
      replace hL := hL.on hbM
      obtain ⟨W6, hW6⟩ : ∃ x, Hid (w5.alloc (.cells #[.int .i64 g, .int .i64 r] 64) = x) := ⟨_, rfl⟩
      rw [hW6.out] at hL hM
      obtain ⟨m0, m1⟩ := hM.cells
      obtain ⟨b0, b1⟩ := hL.best.cells
      obtain ⟨f0, f1⟩ := hL.best.frozen
      clear hR hP hb5 hbM x0 x1 x2 x3 x4
      obtain ⟨p, q, hpq⟩ : ∃ p q, Hid (heldB (bestP D k) = (p, q)) := ⟨_, _, rfl⟩
      rw [hpq.out] at b0 b1 HNX
      dsimp only at b0 b1 HNX
      have hnb := hL.nb
      have hrn := hL.rn
      have hlo := hL.lo
      by_cases hc : is = true ∧ p < g
      · have hnx : heldB (bestP D (k + 1)) = (g, r) := by rw [HNX.out, if_pos hc]
        have HL : Hid (BL w D (.agg #[.slice sa D.secs.length sc, .slice ca D.cache.length cc, .int .i64 D.ops, .slice fa D.faults.length fc, .bool D.down]) cs R N B (k + 1) ((W6.setCell ⟨B, 0, none⟩ (.int .i64 g)).setCell ⟨B, 1, none⟩ (.int .i64 r))) :=
          ⟨(hL.x.other (by omega)).other (by omega), (hL.r.other (by omega) _).other (by omega) _, (hL.no.other (by omega) _).other (by omega) _, by rw [hnx]; exact (hL.best.set0 g).set1 r, (hL.below.setCell (p := ⟨B, 0, none⟩) (by show _ ≤ B; omega) _).setCell (p := ⟨B, 1, none⟩) (by show _ ≤ B; omega) _, hlo, hrn, hnb⟩
        obtain ⟨rfl, hlt2⟩ := hc
        clear HNX hnx hL hM
        go_wp2_with (rw [hW6.out])
        go_roundg (2 - (k + 1))
        case measure => omega
        case rel => exact ⟨k + 1, by omega, rfl, by go_num, HL.out⟩
      · have hnx : heldB (bestP D (k + 1)) = heldB (bestP D k) := by rw [HNX.out, if_neg hc, hpq.out]
        have HL : Hid (BL w D (.agg #[.slice sa D.secs.length sc, .slice ca D.cache.length cc, .int .i64 D.ops, .slice fa D.faults.length fc, .bool D.down]) cs R N B (k + 1) W6) :=
          ⟨hL.x, hL.r, hL.no, by rw [hnx]; exact hL.best, hL.below, hlo, hrn, hnb⟩
        clear HNX hnx hL hM
        cases is with
        | false =>
          clear hc
          go_wp2_with (rw [hW6.out])
          go_roundg (2 - (k + 1))
          case measure => omega
          case rel => exact ⟨k + 1, by omega, rfl, by go_num, HL.out⟩
        | true =>
          have hlt2 : ¬ p < g := fun h => hc ⟨rfl, h⟩
          clear hc
          go_wp2_with (rw [hW6.out])
          go_roundg (2 - (k + 1))
          case measure => omega
          case rel => exact ⟨k + 1, by omega, rfl, by go_num, HL.out⟩
    · obtain rfl : k = 2 := by omega
      have hkz : ¬ ((2 : Nat) : Int) < 2 := by omega
      obtain ⟨b0, b1⟩ := hL.best.cells
      obtain ⟨n0, n1⟩ := hL.no.cells
      obtain ⟨r0, r1⟩ := hL.r.cells
      obtain ⟨f0, f1⟩ := hL.r.frozen
      have hrn := hL.rn
      have hnb := hL.nb
      have hlo := hL.lo
      have hB := hL.below
      have hs2 := HS.out 2
      obtain ⟨g, r, is, hP⟩ : ∃ g r is, Hid (bestP D 2 = (g, r, is)) := ⟨_, _, _, rfl⟩
      rw [hP.out] at b0 b1 hs2
      clear hL
      cases is with
      | true =>
        have hg : 0 ≤ g := by rcases hs2 with h | h; exact h.2.1; cases h
        simp only [heldB, if_true] at b0 b1
        have heq := fun W => eqM2 g r (-1) 0 W
        rw [show (decide (g = -1) && decide (r = 0)) = false by rw [decide_eq_false (by omega)]; rfl] at heq
        have hgs := stored2 (.int .i64 g) (.int .i64 r) r0 r1
        have HB : Hid (Below w.heap.size w ((wr.setCell ⟨R, 0, none⟩ (.int .i64 g)).setCell ⟨R, 1, none⟩ (.int .i64 r))) := (hB.setCell (p := ⟨R, 0, none⟩) (by show _ ≤ R; omega) _).setCell (p := ⟨R, 1, none⟩) (by show _ ≤ R; omega) _
        clear hB hs2
        go_wp2
        exact bodyPost_ret (v := .tuple #[.agg #[.int .i64 g, .int .i64 r], .bool true]) (by simp [results, Try.results46, go_sem, hgs]) rfl (by rw [hP.out]; exact ⟨rfl, HB.out⟩)
      | false =>
        obtain ⟨rfl, rfl⟩ : g = 0 ∧ r = 0 := by
          rcases hs2 with h | h
          · cases h.1
          · cases h; exact ⟨rfl, rfl⟩
        simp only [heldB] at b0 b1
        have heq := fun W => eqM2 (-1) 0 (-1) 0 W
        rw [show (decide ((-1 : Int) = -1) && decide ((0 : Int) = 0)) = true by decide] at heq
        have hgs := stored2 (.int .i64 0) (.int .i64 0) r0 r1
        have HB : Hid (Below w.heap.size w ((wr.setCell ⟨R, 0, none⟩ (.int .i64 0)).setCell ⟨R, 1, none⟩ (.int .i64 0))) := (hB.setCell (p := ⟨R, 0, none⟩) (by show _ ≤ R; omega) _).setCell (p := ⟨R, 1, none⟩) (by show _ ≤ R; omega) _
        clear hB hs2
        go_wp2
        exact bodyPost_ret (v := .tuple #[.agg #[.int .i64 0, .int .i64 0], .bool false]) (by simp [results, Try.results46, go_sem, hgs]) rfl (by rw [hP.out]; exact ⟨rfl, HB.out⟩)
end Go.Proofs.Ytdhfbblameiloaa

/-
  The model's BestMeta.
-/
namespace Go.Proofs.Ytdhfbblameiloaa
open Go.RowKit
set_option maxRecDepth 4000

/-- What the loop keeps. -/
structure BS (w : World) (cs : List Value) (R B : Nat) (g r : Int) (W : World) : Prop where
  x : VN W w.heap.size 32 cs
  ret : MBox W R 0 0
  best : MBox W B g r
  below : Below w.heap.size w W
  lo : w.heap.size < R
  rb : R < B
theorem BS.on {w : World} {cs : List Value} {R B : Nat} {g r : Int} {W W' : World} (h : BS w cs R B g r W) (hb : Below W.heap.size W W') : BS w cs R B g r W' :=
  ⟨h.x.below hb, h.ret.below hb, h.best.below hb, h.below.trans (hb.mono h.below.size), h.lo, h.rb⟩
theorem newerP_hit {p q : Int} {b : Bool} {g r : Int} {is : Bool} {D : PDisk} {k : Int} {ok : Bool} {gg rr : Int} {ii : Bool} (hr : rootP D k = (g, r, is)) (hM : getMe (readB D k).length (bf (readB D k)) = (gg, rr, ii)) (hok : hasB D k = ok) :
    newerP (p, q, b) (g, r, is) = if ok = true ∧ ii = true ∧ gg % 2 = k ∧ (b = false ∨ p < gg) then (gg, rr, true) else (p, q, b) := by
  cases ok with
  | false =>
    rw [rootP_none hok] at hr
    cases hr
    simp [newerP]
  | true =>
    unfold rootP at hr
    rw [hM] at hr
    dsimp only at hr
    by_cases h : ii = true ∧ gg % 2 = k
    · rw [if_pos h] at hr
      cases hr
      obtain ⟨rfl, h2⟩ := h
      simp [newerP, h2]
    · rw [if_neg h] at hr
      cases hr
      rw [if_neg (fun hh => h ⟨hh.2.1, hh.2.2.1⟩)]
      simp [newerP]

set_option maxHeartbeats 8000000 in
theorem specBest_any (v : Value) (D : PDisk) (w : World) (h : KView w v D) (hf : KFine D) (hy : ∀ n : Int, ∀ i, i < (readB D n).length → 0 ≤ bf (readB D n) i ∧ bf (readB D n) i ≤ 255) :
    Calls Try.prog 50 #[v] w (MeTo w (bestP D 2)) := by
  have hkv := h
  have HF : Hid (KFine D) := hf
  have HY : Hid (∀ n : Int, ∀ i, i < (readB D n).length → 0 ≤ bf (readB D n) i ∧ bf (readB D n) i ≤ 255) := hy
  have HKV := hkv
  obtain ⟨sa, sc, ca, cc, fa, fc, rfl, -, -, -⟩ := h.is
  replace HKV : Hid (KView w _ D) := HKV
  clear h hf hy
  obtain ⟨cs, hcs⟩ : ∃ cs : List Value, Hid (cs = [.slice sa D.secs.length sc, .slice ca D.cache.length cc, .int .i64 D.ops, .slice fa D.faults.length fc, .bool D.down]) := ⟨_, rfl⟩
  have hX := VN.new w 32 [.slice sa D.secs.length sc, .slice ca D.cache.length cc, .int .i64 D.ops, .slice fa D.faults.length fc, .bool D.down]
  have hb1 : Below w.heap.size w (w.alloc (.cells #[.slice sa D.secs.length sc, .slice ca D.cache.length cc, .int .i64 D.ops, .slice fa D.faults.length fc, .bool D.down] 32)) := (Below.refl _ _).alloc (Nat.le_refl _) _
  have s1 : (w.alloc (.cells #[.slice sa D.secs.length sc, .slice ca D.cache.length cc, .int .i64 D.ops, .slice fa D.faults.length fc, .bool D.down] 32)).heap.size = w.heap.size + 1 := by simp
  obtain ⟨W1, hW1⟩ : ∃ x, Hid (w.alloc (.cells #[.slice sa D.secs.length sc, .slice ca D.cache.length cc, .int .i64 D.ops, .slice fa D.faults.length fc, .bool D.down] 32) = x) := ⟨_, rfl⟩
  rw [hW1.out] at hX hb1 s1
  have hb2 : Below W1.heap.size W1 (W1.alloc (.cells #[.int .i64 0, .int .i64 0] 64)) := (Below.refl _ _).alloc (Nat.le_refl _) _
  have s2 : (W1.alloc (.cells #[.int .i64 0, .int .i64 0] 64)).heap.size = w.heap.size + 2 := by simp [s1]
  have hR := MBox.new W1 0 0
  obtain ⟨W2, hW2⟩ : ∃ x, Hid (W1.alloc (.cells #[.int .i64 0, .int .i64 0] 64) = x) := ⟨_, rfl⟩
  rw [hW2.out] at hR hb2 s2
  have hb3 : Below W2.heap.size W2 (W2.alloc (.cells #[.int .i64 0, .int .i64 0] 64)) := (Below.refl _ _).alloc (Nat.le_refl _) _
  have hBst := MBox.new W2 0 0
  obtain ⟨W3, hW3⟩ : ∃ x, Hid (W2.alloc (.cells #[.int .i64 0, .int .i64 0] 64) = x) := ⟨_, rfl⟩
  rw [hW3.out] at hBst hb3
  have hB13 := hb2.trans (hb3.mono hb2.size)
  obtain ⟨R, hRe⟩ : ∃ x, Hid (W1.heap.size = x) := ⟨_, rfl⟩
  obtain ⟨B, hBe⟩ : ∃ x, Hid (W2.heap.size = x) := ⟨_, rfl⟩
  have hRo := hRe.out
  have hBo := hBe.out
  have HL : Hid (BS w cs R B 0 0 W3) :=
    ⟨by rw [hcs.out]; exact hX.below hB13, by rw [← hRo]; exact hR.below hb3, by rw [← hBo]; exact hBst, hb1.trans (hB13.mono hb1.size), by omega, by omega⟩
  clear hRo hBo hBst hR hX hb1 hb2 hb3 hB13 hkv s1 s2
  go_enter Try.func50, Try.ntmps50
  go_wp2_with (first | rw [hW1.out] | rw [hW2.out])
  rw [hW3.out, hRe.out, hBe.out]
  clear hW1 hW2 hW3 hRe hBe
  go_loopg [5, 6] 2 (fun q u i wr => ∃ k : Nat, k ≤ 2 ∧ q = 2 - k ∧ i = .int .i64 k ∧ u = .bool (bestP D k).2.2 ∧ BS w cs R B (bestP D k).1 (bestP D k).2.1 wr)
  case atStart => exact ⟨0, Nat.zero_le _, rfl, rfl, rfl, HL.out⟩
  case round =>
    clear HL
    obtain ⟨k, hk, rfl, rfl, rfl, hL⟩ := hrel
    obtain ⟨p, q, b, hb⟩ : ∃ p q b, Hid (bestP D k = (p, q, b)) := ⟨_, _, _, rfl⟩
    rw [hb.out] at hL ⊢
    dsimp only at hL ⊢
    by_cases hlt : k < 2
    · have hkz : (k : Int) < 2 := by omega
      have hR := (specReadSec_any _ D k wr (HKV.out.below hL.below) HF.out).mono (fun _ _ h => h.bto)
      have x0 : wr.cell? ⟨w.heap.size, 0, none⟩ = some (.slice sa D.secs.length sc) := by have := hL.x.cell 0; rw [hcs.out] at this; exact this
      have x1 : wr.cell? ⟨w.heap.size, 1, none⟩ = some (.slice ca D.cache.length cc) := by have := hL.x.cell 1; rw [hcs.out] at this; exact this
      have x2 : wr.cell? ⟨w.heap.size, 2, none⟩ = some (.int .i64 D.ops) := by have := hL.x.cell 2; rw [hcs.out] at this; exact this
      have x3 : wr.cell? ⟨w.heap.size, 3, none⟩ = some (.slice fa D.faults.length fc) := by have := hL.x.cell 3; rw [hcs.out] at this; exact this
      have x4 : wr.cell? ⟨w.heap.size, 4, none⟩ = some (.bool D.down) := by have := hL.x.cell 4; rw [hcs.out] at this; exact this
      have hlen := readB_len HF.out k
      obtain ⟨g0, r0, is0, hP⟩ : ∃ g r is, Hid (rootP D k = (g, r, is)) := ⟨_, _, _, rfl⟩
      obtain ⟨g, r, is, hM⟩ : ∃ g r is, Hid (getMe (readB D k).length (bf (readB D k)) = (g, r, is)) := ⟨_, _, _, rfl⟩
      have hcs2 := getMe_cases (HY.out k)
      obtain ⟨ok, hok⟩ := hidEx (hasB D k)
      have HNX : Hid (bestP D (k + 1) = if ok = true ∧ is = true ∧ g % 2 = k ∧ (b = false ∨ p < g) then (g, r, true) else (p, q, b)) := by
        show newerP (bestP D k) (rootP D k) = _
        rw [hb.out, hP.out]
        exact newerP_hit hP.out hM.out hok.out
      obtain ⟨l, hl⟩ := hidEx (readB D k)
      rw [hl.out, hok.out] at hR
      rw [hl.out] at hlen hM hcs2
      rw [hM.out] at hcs2
      clear hP hl hok
      go_wp2_with fail
      refine hR.mono ?_
      rintro e w5 ⟨v5, rfl, hoz, hb5⟩
      replace hL := hL.on hb5
      obtain ⟨a, c, e3, h1, h2, h3, h4⟩ := hoz.is
      obtain ⟨a', c', e4, hv⟩ := oz_view hoz
      subst e3
      cases e4
      have hG := specGetMeta_any a l.length c (bf l) w5 (fun h4' => by
        rcases h4 with h4 | ⟨g, e, -, -⟩
        · subst h4; simp at h4'
        · exact ⟨g, e⟩) hv hlen
      rw [hM.out] at hG
      clear hR hoz hb5 h1 h2 h3 h4 hv hM x0 x1 x2 x3 x4
      go_wp2_with fail
      refine hG.mono ?_
      rintro e w6 ⟨rfl, hb6⟩
      replace hL := hL.on hb6
      have hBM := hL.best.lt
      have hbM : Below w6.heap.size w6 (w6.alloc (.cells #[.int .i64 g, .int .i64 r] 64)) := (Below.refl _ _).alloc (Nat.le_refl _) _
      have hM := MBox.new w6 g r
      replace hL := hL.on hbM
      obtain ⟨W7, hW7⟩ : ∃ x, Hid (w6.alloc (.cells #[.int .i64 g, .int .i64 r] 64) = x) := ⟨_, rfl⟩
      rw [hW7.out] at hL hM
      obtain ⟨m0, m1⟩ := hM.cells
      obtain ⟨b0, b1⟩ := hL.best.cells
      obtain ⟨f0, f1⟩ := hL.best.frozen
      have hrb := hL.rb
      have hlo := hL.lo
      clear hG hb6 hbM hM
      by_cases hc : ok = true ∧ is = true ∧ g % 2 = k ∧ (b = false ∨ p < g)
      · have hnx : bestP D (k + 1) = (g, r, true) := by rw [HNX.out, if_pos hc]
        have HL : Hid (BS w cs R B (bestP D (k + 1)).1 (bestP D (k + 1)).2.1 ((W7.setCell ⟨B, 0, none⟩ (.int .i64 g)).setCell ⟨B, 1, none⟩ (.int .i64 r))) :=
          ⟨(hL.x.other (by omega)).other (by omega), (hL.ret.other (by omega) _).other (by omega) _, by rw [hnx]; exact (hL.best.set0 g).set1 r, (hL.below.setCell (p := ⟨B, 0, none⟩) (by show _ ≤ B; omega) _).setCell (p := ⟨B, 1, none⟩) (by show _ ≤ B; omega) _, hlo, hrb⟩
        have HT : Hid (Value.bool true = Value.bool (bestP D (k + 1)).2.2) := by show _ = _; rw [hnx]
        obtain ⟨rfl, rfl, hg2, hor⟩ := hc
        have hq : (g % 2 == (k : Int)) = true := by rw [hg2]; exact beq_self_eq_true _
        have hg0 : 0 ≤ g := by rcases hcs2 with h | h; exact h.2.1; cases h
        clear HNX hnx hL hcs2 hb
        cases b with
        | false =>
          clear hor
          go_wp2_with (rw [hW7.out])
          go_roundg (2 - (k + 1))
          case measure => omega
          case rel => exact ⟨k + 1, by omega, rfl, by go_num, HT.out, HL.out⟩
        | true =>
          have hlt2 : p < g := by rcases hor with h | h; cases h; exact h
          clear hor
          go_wp2_with (rw [hW7.out])
          go_roundg (2 - (k + 1))
          case measure => omega
          case rel => exact ⟨k + 1, by omega, rfl, by go_num, HT.out, HL.out⟩
      · have hnx : bestP D (k + 1) = (p, q, b) := by rw [HNX.out, if_neg hc]
        have HL : Hid (BS w cs R B (bestP D (k + 1)).1 (bestP D (k + 1)).2.1 W7) := by rw [hnx]; exact ⟨hL.x, hL.ret, hL.best, hL.below, hlo, hrb⟩
        have HT : Hid (Value.bool b = Value.bool (bestP D (k + 1)).2.2) := by show _ = _; rw [hnx]
        clear HNX hnx hL hb
        cases ok with
        | false =>
          clear hc hcs2
          go_wp2_with (rw [hW7.out])
          go_roundg (2 - (k + 1))
          case measure => omega
          case rel => exact ⟨k + 1, by omega, rfl, by go_num, HT.out, HL.out⟩
        | true =>
          cases is with
          | false =>
            clear hc hcs2
            go_wp2_with (rw [hW7.out])
            go_roundg (2 - (k + 1))
            case measure => omega
            case rel => exact ⟨k + 1, by omega, rfl, by go_num, HT.out, HL.out⟩
          | true =>
            have hg0 : 0 ≤ g := by rcases hcs2 with h | h; exact h.2.1; cases h
            by_cases hg2 : g % 2 = (k : Int)
            · have hq : (g % 2 == (k : Int)) = true := by rw [hg2]; exact beq_self_eq_true _
              cases b with
              | false => exact absurd ⟨rfl, rfl, hg2, .inl rfl⟩ hc
              | true =>
                have hlt2 : ¬ p < g := fun h => hc ⟨rfl, rfl, hg2, .inr h⟩
                clear hc hcs2
                go_wp2_with (rw [hW7.out])
                go_roundg (2 - (k + 1))
                case measure => omega
                case rel => exact ⟨k + 1, by omega, rfl, by go_num, HT.out, HL.out⟩
            · have hq : (g % 2 == (k : Int)) = false := beq_eq_false_iff_ne.2 hg2
              clear hc hcs2
              go_wp2_with (rw [hW7.out])
              go_roundg (2 - (k + 1))
              case measure => omega
              case rel => exact ⟨k + 1, by omega, rfl, by go_num, HT.out, HL.out⟩
    · obtain rfl : k = 2 := by omega
      have hkz : ¬ ((2 : Nat) : Int) < 2 := by omega
      obtain ⟨b0, b1⟩ := hL.best.cells
      obtain ⟨r0, r1⟩ := hL.ret.cells
      obtain ⟨f0, f1⟩ := hL.ret.frozen
      have hlo := hL.lo
      have hrb := hL.rb
      have hB := hL.below
      have hgs := stored2 (.int .i64 p) (.int .i64 q) r0 r1
      have HB : Hid (Below w.heap.size w ((wr.setCell ⟨R, 0, none⟩ (.int .i64 p)).setCell ⟨R, 1, none⟩ (.int .i64 q))) := (hB.setCell (p := ⟨R, 0, none⟩) (by show _ ≤ R; omega) _).setCell (p := ⟨R, 1, none⟩) (by show _ ≤ R; omega) _
      clear hB hL
      go_wp2
      exact bodyPost_ret (v := .tuple #[.agg #[.int .i64 p, .int .i64 q], .bool b]) (by simp [results, Try.results50, go_sem, hgs]) rfl (by rw [hb.out]; exact ⟨rfl, HB.out⟩)
end Go.Proofs.Ytdhfbblameiloaa

/-
  The program's DiskOk.
-/
namespace Go.Proofs.Ytdhfbblameiloaa
open Go.RowKit
set_option maxRecDepth 4000

set_option maxHeartbeats 1000000 in
theorem passesSec_any (a : Option Addr) (n cap : Nat) (w : World) :
    Calls Try.prog 63 #[.slice a n cap] w fun e w' => e = .returned (.bool (decide ((256 : Int) < n))) ∧ w = w' := by
  go_enter Try.func63, Try.ntmps63
  go_wp2
  go_ret
  exact ⟨rfl, rfl⟩
set_option maxHeartbeats 1000000 in
theorem inside_any (x m : Int) (w : World) :
    Calls Try.prog 85 #[.int .i64 x, .int .i64 m] w fun e w' => e = .returned (.bool (decide (0 ≤ x) && decide (x ≤ m))) ∧ w = w' := by
  go_enter Try.func85, Try.ntmps85
  by_cases h : 0 ≤ x
  · have e1 : decide (0 ≤ x) = true := by simpa using h
    go_wp2
    go_ret
    exact ⟨by simp [h], rfl⟩
  · have e1 : decide (0 ≤ x) = false := by simpa using h
    go_wp2
    go_ret
    exact ⟨by simp, rfl⟩
theorem inside_yes (x m : Int) (w : World) (h1 : 0 ≤ x) (h2 : x ≤ m) :
    Calls Try.prog 85 #[.int .i64 x, .int .i64 m] w fun e w' => e = .returned (.bool true) ∧ w = w' := by
  have h := inside_any x m w
  rw [decide_eq_true h1, decide_eq_true h2] at h
  exact h
theorem inside_no (x m : Int) (w : World) (h1 : ¬ (0 ≤ x ∧ x ≤ m)) :
    Calls Try.prog 85 #[.int .i64 x, .int .i64 m] w fun e w' => e = .returned (.bool false) ∧ w = w' := by
  have h := inside_any x m w
  have e : (decide (0 ≤ x) && decide (x ≤ m)) = false := by
    rcases Classical.em (0 ≤ x) with h1' | h1'
    · rw [decide_eq_false (p := x ≤ m) (fun h2 => h1 ⟨h1', h2⟩), Bool.and_false]
    · rw [decide_eq_false h1', Bool.false_and]
  rw [e] at h
  exact h

set_option maxHeartbeats 2000000 in
theorem indexPass_any (a : Option Addr) (cap : Nat) (l : List (List Int)) (w : World) (h : SView w a cap l) (hn : l.length ≤ 1048576) :
    Calls Try.prog 135 #[.slice a l.length cap, .func (.func 63) #[] #[]] w fun e w' => ∃ r : Int, e = .returned (.int .i64 r) ∧ (0 ≤ r ↔ ¬ Short l) ∧ Below w.heap.size w w' := by
  go_enter Try.func135, Try.ntmps135
  go_wp2
  go_loopg [8] l.length (fun q i wr => ∃ k : Nat, k ≤ l.length ∧ q = l.length - k ∧ i = .int .i64 k ∧ Below w.heap.size w wr ∧ Hid (∀ i (h : i < l.length), i < k → (l[i]).length ≤ 256))
  case atStart => exact ⟨0, Nat.zero_le _, rfl, rfl, Below.refl _ _, fun i _ hi => absurd hi (Nat.not_lt_zero _)⟩
  case round =>
    obtain ⟨k, hk, rfl, rfl, hB, HA⟩ := hrel
    by_cases hlt : k < l.length
    · obtain ⟨b1, o1, a', c', rfl, hb1, x0, -, -⟩ := sview_at (sview_below h hB) hlt
      have hkz : (k : Int) < (l.length : Int) := by omega
      have HN : Hid ((l[k]).length ≤ 256 → ∀ i (h : i < l.length), i < k + 1 → (l[i]).length ≤ 256) := by
        intro hp i h hi
        by_cases e : i < k
        · exact HA.out i h e
        · obtain rfl : i = k := by omega
          exact hp
      have HNO : Hid (¬ (l[k]).length ≤ 256 → ¬ Short l) := fun h1 h2 => h1 (h2 k hlt)
      clear h HA
      obtain ⟨p0, hp0⟩ := hidEx (l[k]).length
      rw [hp0.out] at x0 HN HNO
      have hV := fun W => passesSec_any a' p0 c' W
      go_wp2_with fail
      refine (hV _).mono ?_
      rintro e w1 ⟨rfl, rfl⟩
      clear hV
      by_cases hp : p0 ≤ 256
      · have e1 : decide ((256 : Int) < p0) = false := decide_eq_false (by omega)
        have HN2 : Hid (∀ i (h : i < l.length), i < k + 1 → (l[i]).length ≤ 256) := HN.out hp
        clear HN HNO
        rw [e1]
        go_wp2
        go_roundg (l.length - (k + 1))
        case measure => omega
        case rel => exact ⟨k + 1, by omega, rfl, by go_num, hB, HN2⟩
      · have e1 : decide ((256 : Int) < p0) = true := decide_eq_true (by omega)
        have HN2 : Hid (¬ Short l) := HNO.out hp
        clear HN HNO
        rw [e1]
        go_wp2
        go_ret
        exact ⟨_, rfl, ⟨fun _ => HN2.out, fun _ => by omega⟩, hB⟩
    · have hkz : ¬ (k : Int) < (l.length : Int) := by omega
      clear h
      go_wp2
      go_ret
      exact ⟨_, rfl, ⟨fun h => by omega, fun h => absurd (fun i h => HA.out i h (by omega)) h⟩, hB⟩
set_option maxHeartbeats 1000000 in
theorem containsPass_any (a : Option Addr) (cap : Nat) (l : List (List Int)) (w : World) (h : SView w a cap l) (hn : l.length ≤ 1048576) :
    Calls Try.prog 125 #[.slice a l.length cap, .func (.func 63) #[] #[]] w (Says w (¬ Short l)) := by
  have hV := indexPass_any a cap l w h hn
  clear h
  go_enter Try.func125, Try.ntmps125
  go_wp2_with fail
  refine hV.mono ?_
  rintro e w1 ⟨r, rfl, hr, hb⟩
  have HR : Hid (0 ≤ r ↔ ¬ Short l) := hr
  clear hr hV
  by_cases h0 : 0 ≤ r
  · have e1 : decide (0 ≤ r) = true := decide_eq_true h0
    go_wp2
    go_ret
    exact Says.yes (HR.out.1 h0) hb
  · have e1 : decide (0 ≤ r) = false := decide_eq_false h0
    go_wp2
    go_ret
    exact Says.no (fun h => by have := HR.out.2 h; omega) hb
set_option maxHeartbeats 1000000 in
theorem secsOk_any (a : Option Addr) (cap : Nat) (l : List (List Int)) (w : World) (h : SView w a cap l) (hn : l.length ≤ 1048576) :
    Calls Try.prog 83 #[.slice a l.length cap] w (Says w (SecsOk l)) := by
  by_cases h4 : (4 : Int) ≤ l.length
  case neg =>
    clear h
    go_enter Try.func83, Try.ntmps83
    go_wp2
    go_ret
    exact Says.no (fun h => by have := h.1; omega) (Below.refl _ _)
  by_cases h48 : (l.length : Int) ≤ 48
  case neg =>
    clear h
    go_enter Try.func83, Try.ntmps83
    go_wp2
    go_ret
    exact Says.no (fun h => by have := h.2.1; omega) (Below.refl _ _)
  have hV := containsPass_any a cap l w h hn
  clear h
  go_enter Try.func83, Try.ntmps83
  go_wp2_with fail
  refine hV.mono ?_
  rintro e w1 ⟨r, rfl, hr, hb⟩
  have HR : Hid (r = true ↔ ¬ Short l) := hr
  clear hr hV
  cases r
  · go_wp2
    go_ret
    refine Says.yes ⟨by omega, by omega, ?_⟩ hb
    have := HR.out
    simp only [Bool.false_eq_true, false_iff, Classical.not_not] at this
    exact this
  · go_wp2
    go_ret
    exact Says.no (fun h => (HR.out.1 (by simp)) h.2.2) hb

set_option maxHeartbeats 2000000 in
theorem cacheOk_any (a : Option Addr) (cap : Nat) (l : List (Int × List Int)) (n : Nat) (w : World) (h : WView w a cap l) (hn : l.length ≤ 1048576) :
    Calls Try.prog 84 #[.slice a l.length cap, .int .i64 n] w (Says w (CacheOk n l)) := by
  by_cases h60 : (60 : Int) < l.length
  · clear h
    go_enter Try.func84, Try.ntmps84
    go_wp2
    go_ret
    exact Says.no (fun h => by have := h.1; omega) (Below.refl _ _)
  go_enter Try.func84, Try.ntmps84
  go_wp2
  go_loopg [12] l.length (fun q i wr => ∃ k : Nat, k ≤ l.length ∧ q = l.length - k ∧ i = .int .i64 k ∧ Below w.heap.size w wr ∧ Hid (∀ i (h : i < l.length), i < k → 0 ≤ (l[i]).1 ∧ (l[i]).1 < n ∧ (l[i]).2.length ≤ 256))
  case atStart => exact ⟨0, Nat.zero_le _, rfl, rfl, Below.refl _ _, fun i _ hi => absurd hi (Nat.not_lt_zero _)⟩
  case round =>
    obtain ⟨k, hk, rfl, rfl, hB, HA⟩ := hrel
    by_cases hlt : k < l.length
    · obtain ⟨b1, o1, a', c', rfl, hb1, x0, x1, -, -⟩ := wview_at (wview_below h hB) hlt
      have hkz : (k : Int) < (l.length : Int) := by omega
      have HN : Hid ((0 ≤ (l[k]).1 ∧ (l[k]).1 < n ∧ (l[k]).2.length ≤ 256) → ∀ i (h : i < l.length), i < k + 1 → 0 ≤ (l[i]).1 ∧ (l[i]).1 < n ∧ (l[i]).2.length ≤ 256) := by
        intro hp i h hi
        by_cases e : i < k
        · exact HA.out i h e
        · obtain rfl : i = k := by omega
          exact hp
      have HNO : Hid (¬ (0 ≤ (l[k]).1 ∧ (l[k]).1 < n ∧ (l[k]).2.length ≤ 256) → ¬ CacheOk n l) := fun h1 h2 => h1 (h2.2 k hlt)
      clear h HA
      obtain ⟨p0, hp0⟩ := hidEx (l[k]).2.length
      obtain ⟨p1, hp1⟩ := hidEx (l[k]).1
      rw [hp0.out] at x1 HN HNO
      rw [hp1.out] at x0 HN HNO
      have hbA : Below w.heap.size w (wr.alloc (.cells #[.int .i64 p1, .slice a' p0 c'] 51)) := hB.alloc hB.size _
      by_cases h1 : p1 < 0
      · have HN2 : Hid (¬ CacheOk n l) := HNO.out (fun h => by omega)
        clear HN HNO
        go_wp2
        go_ret
        exact Says.no HN2.out hbA
      by_cases h2 : (n : Int) ≤ p1
      · have HN2 : Hid (¬ CacheOk n l) := HNO.out (fun h => by omega)
        clear HN HNO
        go_wp2
        go_ret
        exact Says.no HN2.out hbA
      have hV := fun W => passesSec_any a' p0 c' W
      go_wp2_with fail
      refine (hV _).mono ?_
      rintro e w1 ⟨rfl, rfl⟩
      clear hV
      by_cases hp : p0 ≤ 256
      · have e1 : decide ((256 : Int) < p0) = false := decide_eq_false (by omega)
        have HN2 := HN.out ⟨by omega, by omega, hp⟩
        have HN3 : Hid (∀ i (h : i < l.length), i < k + 1 → 0 ≤ (l[i]).1 ∧ (l[i]).1 < n ∧ (l[i]).2.length ≤ 256) := HN2
        clear HN HNO HN2
        rw [e1]
        go_wp2
        go_roundg (l.length - (k + 1))
        case measure => omega
        case rel => exact ⟨k + 1, by omega, rfl, by go_num, hbA, HN3⟩
      · have e1 : decide ((256 : Int) < p0) = true := decide_eq_true (by omega)
        have HN2 : Hid (¬ CacheOk n l) := HNO.out (fun h => by omega)
        clear HN HNO
        rw [e1]
        go_wp2
        go_ret
        exact Says.no HN2.out hbA
    · have hkz : ¬ (k : Int) < (l.length : Int) := by omega
      clear h
      go_wp2
      go_ret
      exact Says.yes ⟨by omega, fun i h => HA.out i h (by omega)⟩ hB

set_option maxHeartbeats 4000000 in
theorem faultsOk_any (a : Option Addr) (cap : Nat) (l : List PFault) (w : World) (h : FView w a cap l) (hn : l.length ≤ 1048576) :
    Calls Try.prog 86 #[.slice a l.length cap] w (Says w (FaultsOk l)) := by
  by_cases h20 : (20 : Int) < l.length
  · clear h
    go_enter Try.func86, Try.ntmps86
    go_wp2
    go_ret
    exact Says.no (fun h => by have := h.1; omega) (Below.refl _ _)
  go_enter Try.func86, Try.ntmps86
  go_wp2
  go_loopg [10] l.length (fun q i wr => ∃ k : Nat, k ≤ l.length ∧ q = l.length - k ∧ i = .int .i64 k ∧ Below w.heap.size w wr ∧ Hid (∀ i, i < k → FAt l i))
  case atStart => exact ⟨0, Nat.zero_le _, rfl, rfl, Below.refl _ _, fun i hi => absurd hi (Nat.not_lt_zero _)⟩
  case round =>
    obtain ⟨k, hk, rfl, rfl, hB, HA⟩ := hrel
    by_cases hlt : k < l.length
    · obtain ⟨b1, o1, e1', hb1, x0, x1, x2⟩ := fview_at (fview_below h hB) hlt
      subst e1'
      have hkz : (k : Int) < (l.length : Int) := by omega
      have HX : Hid (0 < k → ∃ y0, wr.cell? ⟨b1, o1 + (k - 1) * 3, none⟩ = some (.int .i64 y0) ∧ y0 = (l[k - 1]).pos) := by
        intro h0
        obtain ⟨b2, o2, e2, hb2, z0, z1, z2⟩ := fview_at (fview_below h hB) (show k - 1 < l.length by omega)
        cases e2
        exact ⟨_, z0, rfl⟩
      have HN : Hid (FOk l[k] ∧ (∀ h1 : 0 < k, (l[k - 1]).pos < (l[k]).pos) → ∀ i, i < k + 1 → FAt l i) := by
        intro hp i hi
        by_cases e : i < k
        · exact HA.out i e
        · obtain rfl : i = k := by omega
          exact fun _ => hp
      have HNO : Hid (¬ (FOk l[k] ∧ (∀ h1 : 0 < k, (l[k - 1]).pos < (l[k]).pos)) → ¬ FaultsOk l) := fun h1 h2 => h1 (h2.2 k hlt)
      clear h HA
      obtain ⟨p0, hp0⟩ := hidEx (l[k]).pos
      obtain ⟨p1, hp1⟩ := hidEx (l[k]).keep
      obtain ⟨p2, hp2⟩ := hidEx (l[k]).cut
      obtain ⟨F0, hF0⟩ := hidEx (FOk l[k])
      have HF : Hid (F0 ↔ (0 ≤ p0 ∧ p0 ≤ 100000) ∧ (0 ≤ p1 ∧ p1 ≤ 1048575) ∧ (0 ≤ p2 ∧ p2 ≤ 256)) := by
        show F0 ↔ _
        rw [← hF0.out, ← hp0.out, ← hp1.out, ← hp2.out]
        exact Iff.rfl
      rw [hF0.out, hp0.out] at HN HNO
      rw [hp0.out] at x0
      rw [hp1.out] at x1
      rw [hp2.out] at x2
      have hbA : Below w.heap.size w (wr.alloc (.cells #[.int .i64 p0, .int .i64 p1, .int .i64 p2] 79)) := hB.alloc hB.size _
      by_cases hFo : (0 ≤ p0 ∧ p0 ≤ 100000) ∧ (0 ≤ p1 ∧ p1 ≤ 1048575) ∧ (0 ≤ p2 ∧ p2 ≤ 256)
      case neg =>
        have HN2 : Hid (¬ FaultsOk l) := HNO.out (fun h => hFo (HF.out.1 h.1))
        clear HN HNO HX HF
        by_cases h0 : 0 ≤ p0 ∧ p0 ≤ 100000
        case neg =>
          have hV := fun W => inside_no p0 100000 W h0
          go_wp2_with fail
          refine (hV _).mono ?_
          rintro e w1 ⟨rfl, rfl⟩
          clear hV
          go_wp2
          go_ret
          exact Says.no HN2.out hbA
        have hV := fun W => inside_yes p0 100000 W h0.1 h0.2
        go_wp2_with fail
        refine (hV _).mono ?_
        rintro e w1 ⟨rfl, rfl⟩
        clear hV
        by_cases h1 : 0 ≤ p1 ∧ p1 ≤ 1048575
        case neg =>
          have hV := fun W => inside_no p1 1048575 W h1
          go_wp2_with fail
          refine (hV _).mono ?_
          rintro e w1 ⟨rfl, rfl⟩
          clear hV
          go_wp2
          go_ret
          exact Says.no HN2.out hbA
        have hV := fun W => inside_yes p1 1048575 W h1.1 h1.2
        go_wp2_with fail
        refine (hV _).mono ?_
        rintro e w1 ⟨rfl, rfl⟩
        clear hV
        have h2 : ¬ (0 ≤ p2 ∧ p2 ≤ 256) := fun h2 => hFo ⟨h0, h1, h2⟩
        have hV := fun W => inside_no p2 256 W h2
        go_wp2_with fail
        refine (hV _).mono ?_
        rintro e w1 ⟨rfl, rfl⟩
        clear hV
        go_wp2
        go_ret
        exact Says.no HN2.out hbA
      have HF1 : F0 := HF.out.2 hFo
      obtain ⟨h0, h1, h2⟩ := hFo
      clear HF
      have hV := fun W => inside_yes p0 100000 W h0.1 h0.2
      go_wp2_with fail
      refine (hV _).mono ?_
      rintro e w1 ⟨rfl, rfl⟩
      clear hV
      have hV := fun W => inside_yes p1 1048575 W h1.1 h1.2
      go_wp2_with fail
      refine (hV _).mono ?_
      rintro e w1 ⟨rfl, rfl⟩
      clear hV
      have hV := fun W => inside_yes p2 256 W h2.1 h2.2
      go_wp2_with fail
      refine (hV _).mono ?_
      rintro e w1 ⟨rfl, rfl⟩
      clear hV
      have hbD : Below w.heap.size w ((wr.alloc (.cells #[.int .i64 p0, .int .i64 p1, .int .i64 p2] 79)).drew) := hbA.drew
      have q0 : (wr.alloc (.cells #[.int .i64 p0, .int .i64 p1, .int .i64 p2] 79)).cell? ⟨wr.heap.size, 0, none⟩ = some (.int .i64 p0) := by simp [go_sem]
      by_cases hk0 : 0 < k
      case neg =>
        have hkn : ¬ (0 : Int) < k := by omega
        have HN3 : Hid (∀ i, i < k + 1 → FAt l i) := HN.out ⟨HF1, fun h => absurd h hk0⟩
        clear HN HNO HX
        go_wp2_with fail
        refine wp_region_held_drew (S := fun _ => True) (by kernel_rfl) trivial (fun hHeld => ?_)
        refine' wpAnyH_take (i := 0) (v := _) rfl (by kernel_rfl) (by kernel_rfl) (by kernel_rfl) (fun _ _ _ h => h) (Or.inl ⟨by kernel_rfl, ?hta1⟩) (by assumption) ?rta1
        case hta1 => intro W hW; go_simp; all_goals with_reducible rfl
        change wpAnyH _ _ _ _ _ _ _ (Act.put _ (some 31) _) _
        simp only [Act.put, List.setIfInBounds_toArray, List.set_cons_zero, List.set_cons_succ]
        refine' wpAnyH_take (i := 1) (v := _) rfl (by kernel_rfl) (by kernel_rfl) (by kernel_rfl) (fun _ _ _ h => h) (Or.inl ⟨by kernel_rfl, ?hta2⟩) (by assumption) ?rta2
        case hta2 => intro W hW; go_simp; all_goals with_reducible rfl
        change wpAnyH _ _ _ _ _ _ _ (Act.put _ (some 32) _) _
        simp only [Act.put, List.setIfInBounds_toArray, List.set_cons_zero, List.set_cons_succ]
        refine' wpAnyH_take (i := 2) (v := _) rfl (by kernel_rfl) (by kernel_rfl) (by kernel_rfl) (fun _ _ _ h => h) (Or.inl ⟨by kernel_rfl, ?hta3⟩) (by assumption) ?rta3
        case hta3 => intro W hW; go_simp; all_goals with_reducible rfl
        change wpAnyH _ _ _ _ _ _ _ (Act.put _ (some 33) _) _
        simp only [Act.put, List.setIfInBounds_toArray, List.set_cons_zero, List.set_cons_succ]
        refine wpAnyH_take (i := 3) (v := undef) rfl (by kernel_rfl) (by kernel_rfl) (by kernel_rfl) (fun _ _ _ h => h) (Or.inr ⟨by kernel_rfl, rfl⟩) (by assumption) ?_
        change wpAnyH _ _ _ _ _ _ _ (Act.put _ (some 34) _) _
        simp only [Act.put, List.setIfInBounds_toArray, List.set_cons_zero, List.set_cons_succ]
        refine wpAnyH_take (i := 4) (v := undef) rfl (by kernel_rfl) (by kernel_rfl) (by kernel_rfl) (fun _ _ _ h => h) (Or.inr ⟨by kernel_rfl, rfl⟩) (by assumption) ?_
        change wpAnyH _ _ _ _ _ _ _ (Act.put _ (some 35) _) _
        simp only [Act.put, List.setIfInBounds_toArray, List.set_cons_zero, List.set_cons_succ]
        refine wpAnyH_take (i := 5) (v := undef) rfl (by kernel_rfl) (by kernel_rfl) (by kernel_rfl) (fun _ _ _ h => h) (Or.inr ⟨by kernel_rfl, rfl⟩) (by assumption) ?_
        change wpAnyH _ _ _ _ _ _ _ (Act.put _ (some 36) _) _
        simp only [Act.put, List.setIfInBounds_toArray, List.set_cons_zero, List.set_cons_succ]
        refine wpAnyH_take (i := 6) (v := undef) rfl (by kernel_rfl) (by kernel_rfl) (by kernel_rfl) (fun _ _ _ h => h) (Or.inr ⟨by kernel_rfl, rfl⟩) (by assumption) ?_
        change wpAnyH _ _ _ _ _ _ _ (Act.put _ (some 37) _) _
        simp only [Act.put, List.setIfInBounds_toArray, List.set_cons_zero, List.set_cons_succ]
        refine wpAnyH_take (i := 7) (v := undef) rfl (by kernel_rfl) (by kernel_rfl) (by kernel_rfl) (fun _ _ _ h => h) (Or.inr ⟨by kernel_rfl, rfl⟩) (by assumption) ?_
        change wpAnyH _ _ _ _ _ _ _ (Act.put _ (some 38) _) _
        simp only [Act.put, List.setIfInBounds_toArray, List.set_cons_zero, List.set_cons_succ]
        refine wpAnyH_take (i := 8) (v := undef) rfl (by kernel_rfl) (by kernel_rfl) (by kernel_rfl) (fun _ _ _ h => h) (Or.inr ⟨by kernel_rfl, rfl⟩) (by assumption) ?_
        change wpAnyH _ _ _ _ _ _ _ (Act.put _ (some 39) _) _
        simp only [Act.put, List.setIfInBounds_toArray, List.set_cons_zero, List.set_cons_succ]
        refine wpAnyH_take (i := 9) (v := undef) rfl (by kernel_rfl) (by kernel_rfl) (by kernel_rfl) (fun _ _ _ h => h) (Or.inr ⟨by kernel_rfl, rfl⟩) (by assumption) ?_
        change wpAnyH _ _ _ _ _ _ _ (Act.put _ (some 40) _) _
        simp only [Act.put, List.setIfInBounds_toArray, List.set_cons_zero, List.set_cons_succ]
        refine wpAnyH_take (i := 10) (v := undef) rfl (by kernel_rfl) (by kernel_rfl) (by kernel_rfl) (fun _ _ _ h => h) (Or.inr ⟨by kernel_rfl, rfl⟩) (by assumption) ?_
        change wpAnyH _ _ _ _ _ _ _ (Act.put _ (some 41) _) _
        simp only [Act.put, List.setIfInBounds_toArray, List.set_cons_zero, List.set_cons_succ]
        refine wpAnyH_take (i := 11) (v := undef) rfl (by kernel_rfl) (by kernel_rfl) (by kernel_rfl) (fun _ _ _ h => h) (Or.inr ⟨by kernel_rfl, rfl⟩) (by assumption) ?_
        change wpAnyH _ _ _ _ _ _ _ (Act.put _ (some 42) _) _
        simp only [Act.put, List.setIfInBounds_toArray, List.set_cons_zero, List.set_cons_succ]
        refine' wpAnyH_take (i := 12) (v := _) rfl (by kernel_rfl) (by kernel_rfl) (by kernel_rfl) (fun _ _ _ h => h) (Or.inl ⟨by kernel_rfl, ?hta13⟩) (by assumption) ?rta13
        case hta13 => intro W hW; go_simp; all_goals with_reducible rfl
        change wpAnyH _ _ _ _ _ _ _ (Act.put _ (some 43) _) _
        simp only [Act.put, List.setIfInBounds_toArray, List.set_cons_zero, List.set_cons_succ]
        refine wpAnyH_done (by kernel_rfl) ?_ _
        clear hHeld
        go_wp2
        go_roundg (l.length - (k + 1))
        case measure => omega
        case rel => exact ⟨k + 1, by omega, rfl, by go_num, hbD, HN3⟩

      have hk1 : (0 : Int) < k := by omega
      obtain ⟨y0, hy0, hy⟩ := HX.out hk0
      have hs : ((k : Int) - 1).toNat = k - 1 := by omega
      have hs1 : IntKind.i64.wrap ((k : Int) - 1) = (k : Int) - 1 := by rw [IntKind.wrap_i64]; omega
      have y1 : (wr.alloc (.cells #[.int .i64 p0, .int .i64 p1, .int .i64 p2] 79)).cell? ⟨b1, o1 + (k - 1) * 3, none⟩ = some (.int .i64 y0) := by
        rw [(show Below wr.heap.size wr (wr.alloc (.cells #[.int .i64 p0, .int .i64 p1, .int .i64 p2] 79)) from (Below.refl _ _).alloc (Nat.le_refl _) _).cell (p := ⟨b1, o1 + (k - 1) * 3, none⟩) hb1]
        exact hy0
      have hn0 : (1 : Int) ≤ (k : Int) := by omega
      have hn1 : (k : Int) - 1 < (l.length : Int) := by omega
      replace HN : Hid (F0 ∧ y0 < p0 → ∀ i, i < k + 1 → FAt l i) := fun h => HN.out ⟨h.1, fun _ => by rw [← hy]; exact h.2⟩
      replace HNO : Hid (¬ (F0 ∧ y0 < p0) → ¬ FaultsOk l) := fun h => HNO.out (fun h2 => h ⟨h2.1, by rw [hy]; exact h2.2 hk0⟩)
      clear HX hy hy0
      go_wp2_with fail
      refine wp_region_held_drew (S := fun W => W.cell? ⟨wr.heap.size, 0, none⟩ = some (.int .i64 p0) ∧ W.cell? ⟨b1, o1 + (k - 1) * 3, none⟩ = some (.int .i64 y0)) (by kernel_rfl) ⟨q0, y1⟩ (fun hHeld => ?_)
      refine' wpAnyH_take (i := 0) (v := _) rfl (by kernel_rfl) (by kernel_rfl) (by kernel_rfl) (fun _ _ _ h => h) (Or.inl ⟨by kernel_rfl, ?htb1⟩) (by assumption) ?rtb1
      case htb1 => intro W hW; obtain ⟨c0, c1⟩ := hW; go_simp; all_goals with_reducible rfl
      change wpAnyH _ _ _ _ _ _ _ (Act.put _ (some 31) _) _
      simp only [Act.put, List.setIfInBounds_toArray, List.set_cons_zero, List.set_cons_succ]
      refine' wpAnyH_take (i := 1) (v := _) rfl (by kernel_rfl) (by kernel_rfl) (by kernel_rfl) (fun _ _ _ h => h) (Or.inl ⟨by kernel_rfl, ?htb2⟩) (by assumption) ?rtb2
      case htb2 => intro W hW; obtain ⟨c0, c1⟩ := hW; go_simp; all_goals with_reducible rfl
      change wpAnyH _ _ _ _ _ _ _ (Act.put _ (some 32) _) _
      simp only [Act.put, List.setIfInBounds_toArray, List.set_cons_zero, List.set_cons_succ]
      refine' wpAnyH_take (i := 2) (v := _) rfl (by kernel_rfl) (by kernel_rfl) (by kernel_rfl) (fun _ _ _ h => h) (Or.inl ⟨by kernel_rfl, ?htb3⟩) (by assumption) ?rtb3
      case htb3 => intro W hW; obtain ⟨c0, c1⟩ := hW; go_simp; all_goals with_reducible rfl
      change wpAnyH _ _ _ _ _ _ _ (Act.put _ (some 33) _) _
      simp only [Act.put, List.setIfInBounds_toArray, List.set_cons_zero, List.set_cons_succ]
      refine' wpAnyH_take (i := 3) (v := _) rfl (by kernel_rfl) (by kernel_rfl) (by kernel_rfl) (fun _ _ _ h => h) (Or.inl ⟨by kernel_rfl, ?htb4⟩) (by assumption) ?rtb4
      case htb4 => intro W hW; obtain ⟨c0, c1⟩ := hW; go_simp; all_goals with_reducible rfl
      change wpAnyH _ _ _ _ _ _ _ (Act.put _ (some 34) _) _
      simp only [Act.put, List.setIfInBounds_toArray, List.set_cons_zero, List.set_cons_succ]
      refine' wpAnyH_take (i := 4) (v := _) rfl (by kernel_rfl) (by kernel_rfl) (by kernel_rfl) (fun _ _ _ h => h) (Or.inl ⟨by kernel_rfl, ?htb5⟩) (by assumption) ?rtb5
      case htb5 => intro W hW; obtain ⟨c0, c1⟩ := hW; go_simp; all_goals with_reducible rfl
      change wpAnyH _ _ _ _ _ _ _ (Act.put _ (some 35) _) _
      simp only [Act.put, List.setIfInBounds_toArray, List.set_cons_zero, List.set_cons_succ]
      refine' wpAnyH_take (i := 5) (v := _) rfl (by kernel_rfl) (by kernel_rfl) (by kernel_rfl) (fun _ _ _ h => h) (Or.inl ⟨by kernel_rfl, ?htb6⟩) (by assumption) ?rtb6
      case htb6 => intro W hW; obtain ⟨c0, c1⟩ := hW; go_simp; all_goals with_reducible rfl
      change wpAnyH _ _ _ _ _ _ _ (Act.put _ (some 36) _) _
      simp only [Act.put, List.setIfInBounds_toArray, List.set_cons_zero, List.set_cons_succ]
      refine' wpAnyH_take (i := 6) (v := _) rfl (by kernel_rfl) (by kernel_rfl) (by kernel_rfl) (fun _ _ _ h => h) (Or.inl ⟨by kernel_rfl, ?htb7⟩) (by assumption) ?rtb7
      case htb7 => intro W hW; obtain ⟨c0, c1⟩ := hW; go_simp; all_goals with_reducible rfl
      change wpAnyH _ _ _ _ _ _ _ (Act.put _ (some 37) _) _
      simp only [Act.put, List.setIfInBounds_toArray, List.set_cons_zero, List.set_cons_succ]
      refine' wpAnyH_take (i := 7) (v := _) rfl (by kernel_rfl) (by kernel_rfl) (by kernel_rfl) (fun _ _ _ h => h) (Or.inl ⟨by kernel_rfl, ?htb8⟩) (by assumption) ?rtb8
      case htb8 => intro W hW; obtain ⟨c0, c1⟩ := hW; go_simp; all_goals with_reducible rfl
      change wpAnyH _ _ _ _ _ _ _ (Act.put _ (some 38) _) _
      simp only [Act.put, List.setIfInBounds_toArray, List.set_cons_zero, List.set_cons_succ]
      refine' wpAnyH_take (i := 8) (v := _) rfl (by kernel_rfl) (by kernel_rfl) (by kernel_rfl) (fun _ _ _ h => h) (Or.inl ⟨by kernel_rfl, ?htb9⟩) (by assumption) ?rtb9
      case htb9 => intro W hW; obtain ⟨c0, c1⟩ := hW; go_simp; all_goals with_reducible rfl
      change wpAnyH _ _ _ _ _ _ _ (Act.put _ (some 39) _) _
      simp only [Act.put, List.setIfInBounds_toArray, List.set_cons_zero, List.set_cons_succ]
      refine' wpAnyH_take (i := 9) (v := _) rfl (by kernel_rfl) (by kernel_rfl) (by kernel_rfl) (fun _ _ _ h => h) (Or.inl ⟨by kernel_rfl, ?htb10⟩) (by assumption) ?rtb10
      case htb10 => intro W hW; obtain ⟨c0, c1⟩ := hW; go_simp; all_goals with_reducible rfl
      change wpAnyH _ _ _ _ _ _ _ (Act.put _ (some 40) _) _
      simp only [Act.put, List.setIfInBounds_toArray, List.set_cons_zero, List.set_cons_succ]
      refine' wpAnyH_take (i := 10) (v := _) rfl (by kernel_rfl) (by kernel_rfl) (by kernel_rfl) (fun _ _ _ h => h) (Or.inl ⟨by kernel_rfl, ?htb11⟩) (by assumption) ?rtb11
      case htb11 => intro W hW; obtain ⟨c0, c1⟩ := hW; go_simp; all_goals with_reducible rfl
      change wpAnyH _ _ _ _ _ _ _ (Act.put _ (some 41) _) _
      simp only [Act.put, List.setIfInBounds_toArray, List.set_cons_zero, List.set_cons_succ]
      refine' wpAnyH_take (i := 11) (v := _) rfl (by kernel_rfl) (by kernel_rfl) (by kernel_rfl) (fun _ _ _ h => h) (Or.inl ⟨by kernel_rfl, ?htb12⟩) (by assumption) ?rtb12
      case htb12 => intro W hW; obtain ⟨c0, c1⟩ := hW; go_simp; all_goals with_reducible rfl
      change wpAnyH _ _ _ _ _ _ _ (Act.put _ (some 42) _) _
      simp only [Act.put, List.setIfInBounds_toArray, List.set_cons_zero, List.set_cons_succ]
      refine' wpAnyH_take (i := 12) (v := _) rfl (by kernel_rfl) (by kernel_rfl) (by kernel_rfl) (fun _ _ _ h => h) (Or.inl ⟨by kernel_rfl, ?htb13⟩) (by assumption) ?rtb13
      case htb13 => intro W hW; obtain ⟨c0, c1⟩ := hW; go_simp; all_goals with_reducible rfl
      change wpAnyH _ _ _ _ _ _ _ (Act.put _ (some 43) _) _
      simp only [Act.put, List.setIfInBounds_toArray, List.set_cons_zero, List.set_cons_succ]
      refine wpAnyH_done (by kernel_rfl) ?_ _
      clear hHeld
      by_cases hord : p0 ≤ y0
      · have e1 : decide (p0 ≤ y0) = true := decide_eq_true hord
        have HN2 : Hid (¬ FaultsOk l) := HNO.out (fun h => by have := h.2; omega)
        clear HN HNO
        go_wp2
        go_ret
        exact Says.no HN2.out hbD
      · have e1 : decide (p0 ≤ y0) = false := decide_eq_false hord
        have HN3 : Hid (∀ i, i < k + 1 → FAt l i) := HN.out ⟨HF1, by omega⟩
        clear HN HNO
        go_wp2
        go_roundg (l.length - (k + 1))
        case measure => omega
        case rel => exact ⟨k + 1, by omega, rfl, by go_num, hbD, HN3⟩

    · have hkz : ¬ (k : Int) < (l.length : Int) := by omega
      clear h
      go_wp2
      go_ret
      exact Says.yes ⟨by omega, fun i h => HA.out i (by omega) h⟩ hB

set_option maxHeartbeats 4000000 in
theorem implDiskOk_any (v : Value) (D : PDisk) (w : World) (h : KView w v D) (hf : KFine D) :
    Calls Try.prog 22 #[v] w (Says w (OkD D)) := by
  obtain ⟨sa, sc, ca, cc, fa, fc, rfl, hs, hc, hfv⟩ := h.is
  clear h
  have hB0 := box5_start w (.cells #[.slice sa D.secs.length sc, .slice ca D.cache.length cc, .int .i64 D.ops, .slice fa D.faults.length fc, .bool D.down] 32)
  obtain ⟨hBw0, -⟩ := box5_below hB0
  have hV := secsOk_any sa sc D.secs _ (sview_below hs hBw0) hf.ns
  have hcl := hf.nc
  go_enter Try.func22, Try.ntmps22
  go_wp2_with fail
  refine hV.mono ?_
  rintro e w1 ⟨r1, rfl, hr1, hb1⟩
  have HR1 : Hid (r1 = true ↔ SecsOk D.secs) := hr1
  have hB1 := box5_on hB0 hb1
  obtain ⟨hBw1, -⟩ := box5_below hB1
  obtain ⟨x0, x1, x2, x3, x4⟩ := box5 hB1
  clear hV hr1 hB0 hBw0 hb1 hs
  cases r1
  · clear hc hfv
    go_wp2
    go_ret
    exact Says.no (fun h => by have := HR1.out.2 h.1; cases this) hBw1
  have hV := cacheOk_any ca cc D.cache D.secs.length w1 (wview_below hc hBw1) hf.nc
  go_wp2_with fail
  refine hV.mono ?_
  rintro e w2 ⟨r2, rfl, hr2, hb2⟩
  have HR2 : Hid (r2 = true ↔ CacheOk D.secs.length D.cache) := hr2
  have hB2 := box5_on hB1 hb2
  obtain ⟨hBw2, -⟩ := box5_below hB2
  clear x0 x1 x2 x3 x4
  obtain ⟨x0, x1, x2, x3, x4⟩ := box5 hB2
  clear hV hr2 hB1 hBw1 hb2 hc
  cases r2
  · clear hfv
    go_wp2
    go_ret
    exact Says.no (fun h => by have := HR2.out.2 h.2.1; cases this) hBw2
  by_cases hop : 0 ≤ D.ops ∧ D.ops ≤ 100000
  case neg =>
    have hV := fun W => inside_no D.ops 100000 W hop
    clear hfv
    go_wp2_with fail
    refine (hV _).mono ?_
    rintro e w3 ⟨rfl, rfl⟩
    clear hV
    go_wp2
    go_ret
    exact Says.no (fun h => hop h.2.2.1) hBw2
  have hV := fun W => inside_yes D.ops 100000 W hop.1 hop.2
  go_wp2_with fail
  refine (hV _).mono ?_
  rintro e w3 ⟨rfl, rfl⟩
  clear hV
  have hV := faultsOk_any fa fc D.faults w2 (fview_below hfv hBw2) hf.nf
  go_wp2_with fail
  refine hV.mono ?_
  rintro e w3 ⟨r3, rfl, hr3, hb3⟩
  have HR3 : Hid (r3 = true ↔ FaultsOk D.faults) := hr3
  have hB3 := box5_on hB2 hb3
  obtain ⟨hBw3, -⟩ := box5_below hB3
  clear x0 x1 x2 x3 x4
  obtain ⟨x0, x1, x2, x3, x4⟩ := box5 hB3
  clear hV hr3 hB2 hBw2 hb3 hfv
  cases r3
  · go_wp2
    go_ret
    exact Says.no (fun h => by have := HR3.out.2 h.2.2.2.1; cases this) hBw3
  obtain ⟨dn, hdn⟩ := hidEx D.down
  rw [hdn.out] at x4
  cases dn
  · go_wp2
    go_ret
    exact Says.yes ⟨HR1.out.1 (by simp), HR2.out.1 (by simp), hop, HR3.out.1 (by simp), fun h => by rw [hdn.out] at h; cases h.1⟩ hBw3
  go_wp2
  go_ret
  refine ⟨!decide (0 < D.cache.length), rfl, ?_, hBw3⟩
  have h1 := HR1.out.1 (by simp)
  have h2 := HR2.out.1 (by simp)
  have h3 := HR3.out.1 (by simp)
  by_cases h0 : 0 < D.cache.length
  · simp only [h0, decide_true, Bool.not_true, Bool.false_eq_true, false_iff]
    exact fun h => h.2.2.2.2 ⟨hdn.out, h0⟩
  · simp only [h0, decide_false, Bool.not_false, true_iff]
    exact ⟨h1, h2, hop, h3, fun h => h0 h.2⟩

end Go.Proofs.Ytdhfbblameiloaa

