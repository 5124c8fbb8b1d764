/-
  Together: OnceSpec, PartsSpec
-/
import Derived.Test.YtmibpdnlphdoaaaGreatDoorPackF3
import Derived.Test.YtmibpdnlphdoaaaGreatDoorPackF6
import Derived.Deep.LoopGhost
import Derived.Deep.RegionHeld3
import Derived.Deep.QuietTactic
import Derived.BigQuiet
import Derived.Test.YtmibpdnlphdoaaaGreatDoorPackF7
/-
  The model's l9Col and l9Once come to the plain ones.
-/
namespace Go.Proofs.YtmibpdnlphdoaaaGreatDoor
open Go.RowKit
set_option maxRecDepth 4000

/-- The place of the first column from the k-th on, of m, that has a name; -1: there is none. -/
def colFrom (f : Nat → PCol) (s : ByteArray) : Nat → Nat → Int
  | 0, _ => -1
  | m + 1, k => if (f k).name = s then (k : Int) else colFrom f s m (k + 1)
/-- The place of the first of n columns that has a name; -1: there is none. -/
def colAt (f : Nat → PCol) (n : Nat) (s : ByteArray) : Int := colFrom f s n 0
theorem colFrom_skip (f : Nat → PCol) (s : ByteArray) : ∀ (k n : Nat), k ≤ n → (∀ j, j < k → (f j).name ≠ s) → colAt f n s = colFrom f s (n - k) k
  | 0, _, _, _ => rfl
  | k + 1, n, hk, hn => by
    rw [colFrom_skip f s k n (by omega) (fun j hj => hn j (by omega)), show n - k = (n - (k + 1)) + 1 by omega, colFrom, if_neg (hn k (by omega))]
theorem colAt_first {f : Nat → PCol} {n k : Nat} {s : ByteArray} (hk : k < n) (he : (f k).name = s) (hn : ∀ j, j < k → (f j).name ≠ s) : colAt f n s = k := by
  rw [colFrom_skip f s k n (by omega) hn, show n - k = (n - k - 1) + 1 by omega, colFrom, if_pos he]
theorem colAt_none {f : Nat → PCol} {n : Nat} {s : ByteArray} (hn : ∀ j, j < n → (f j).name ≠ s) : colAt f n s = -1 := by
  rw [colFrom_skip f s n n (Nat.le_refl _) hn, Nat.sub_self]; rfl
/-- A column is the first of its name just if none ahead has it. -/
theorem colAt_self {f : Nat → PCol} {n k : Nat} (hk : k < n) : colAt f n (f k).name = k ↔ ∀ j, j < k → (f j).name ≠ (f k).name := by
  constructor
  · intro h
    have key : ∀ m, m ≤ k → ∀ j, j < m → (f j).name ≠ (f k).name := by
      intro m
      induction m with
      | zero => intro _ j hj; exact absurd hj (Nat.not_lt_zero _)
      | succ m ih =>
        intro hm j hj
        have hi := ih (by omega)
        by_cases e : j < m
        · exact hi j e
        · obtain rfl : j = m := by omega
          intro he
          have := colAt_first (n := n) (by omega) he hi
          rw [h] at this
          omega
    exact key k (Nat.le_refl _)
  · exact fun h => colAt_first hk rfl h

set_option maxHeartbeats 1000000 in
theorem l9Col_any (v : Value) (D : PDef) (s : ByteArray) (w : World) (h : DView w v D) (hnc : D.nc ≤ 1048576) :
    Calls Tryz.prog 117 #[v, .string s] w fun e w' => e = .returned (.int .i64 (colAt D.col D.nc s)) ∧ Below w.heap.size w w' := by
  obtain ⟨ac, cc, ap, cp, ai, ci, rfl, hc, -, -⟩ := h.is
  clear h
  go_enter Tryz.func117, Tryz.ntmps117
  go_wp2
  go_loopg [5] D.nc (fun q i wr => ∃ k : Nat, k ≤ D.nc ∧ q = D.nc - k ∧ i = .int .i64 k ∧ wr = w.alloc (.cells #[.string D.name, .slice ac D.nc cc, .slice ap D.np cp, .slice ai D.ni ci] 35) ∧ Hid (∀ j, j < k → (D.col j).name ≠ s))
  case atStart => exact ⟨0, Nat.zero_le _, rfl, rfl, rfl, fun j hj => absurd hj (Nat.not_lt_zero _)⟩
  case round =>
    obtain ⟨k, hk, rfl, rfl, hW, HA⟩ := hrel
    have hB : Below (w.heap.size + 1) (w.alloc (.cells #[.string D.name, .slice ac D.nc cc, .slice ap D.np cp, .slice ai D.ni ci] 35)) wr := by rw [hW]; exact Below.refl _ _
    have HW : Hid (wr = w.alloc (.cells #[.string D.name, .slice ac D.nc cc, .slice ap D.np cp, .slice ai D.ni ci] 35)) := hW
    clear hW
    obtain ⟨x0, x1, x2, x3⟩ := box4 hB
    obtain ⟨hBw, hsz⟩ := box4_below hB
    clear hB
    by_cases hlt : k < D.nc
    · have hkz : (k : Int) < (D.nc : Int) := by omega
      obtain ⟨b1, o1, rfl, hb1, hcs⟩ := (hc.below hBw).cells (by omega)
      obtain ⟨y0, -, -⟩ := hcs k hlt
      clear hcs hc
      by_cases he : (D.col k).name = s
      · have HF : Hid (colAt D.col D.nc s = k) := colAt_first hlt he HA.out
        have hq := bytes_eq he
        obtain ⟨z, hz⟩ : ∃ z, Hid ((D.col k).name = z) := ⟨_, rfl⟩
        rw [hz.out] at y0 hq
        clear he
        go_wp2
        go_ret
        exact ⟨by rw [HF.out]; rfl, hBw⟩
      · have HN : Hid (∀ j, j < k + 1 → (D.col j).name ≠ s) := by
          intro j hj
          by_cases hj' : j < k
          · exact HA.out j hj'
          · obtain rfl : j = k := by omega
            exact he
        have hq := bytes_ne he
        obtain ⟨z, hz⟩ : ∃ z, Hid ((D.col k).name = z) := ⟨_, rfl⟩
        rw [hz.out] at y0 hq
        clear he HA
        go_wp2
        go_roundg (D.nc - (k + 1))
        case measure => omega
        case rel => exact ⟨k + 1, by omega, rfl, by go_num, HW.out, HN⟩
    · have hkz : ¬ (k : Int) < (D.nc : Int) := by omega
      obtain rfl : k = D.nc := by omega
      have HF : Hid (colAt D.col D.nc s = -1) := colAt_none HA.out
      clear hc HA
      go_wp2
      go_ret
      exact ⟨by rw [HF.out]; rfl, hBw⟩

set_option maxHeartbeats 2000000 in
theorem l9Once_any (v : Value) (D : PDef) (w : World) (h : DView w v D) (hnc : D.nc ≤ 1048576) (hni : D.ni ≤ 1048576) :
    Calls Tryz.prog 70 #[v] w fun e w' => e = .returned (.bool (onceF D)) ∧ Below w.heap.size w w' := by
  have hL := fun s W hV => l9Col_any v D s W hV hnc
  have hv := h
  obtain ⟨ac, cc, ap, cp, ai, ci, rfl, hc, -, hi⟩ := h.is
  clear h
  go_enter Tryz.func70, Tryz.ntmps70
  go_wp2
  go_loopg [3] D.nc (fun q i wr => ∃ k : Nat, k ≤ D.nc ∧ q = D.nc - k ∧ i = .int .i64 k ∧ Below (w.heap.size + 1) (w.alloc (.cells #[.string D.name, .slice ac D.nc cc, .slice ap D.np cp, .slice ai D.ni ci] 35)) wr ∧ Hid (∀ i, i < k → ∀ j, j < i → (D.col j).name ≠ (D.col i).name))
  case atStart => exact ⟨0, Nat.zero_le _, rfl, rfl, Below.refl _ _, fun j hj => absurd hj (Nat.not_lt_zero _)⟩
  case round =>
    obtain ⟨k, hk, rfl, rfl, hB, HA⟩ := hrel
    obtain ⟨x0, x1, x2, x3⟩ := box4 hB
    obtain ⟨hBw, hsz⟩ := box4_below hB
    by_cases hlt : k < D.nc
    · have hkz : (k : Int) < (D.nc : Int) := by omega
      have hLk := fun W (hb : Below w.heap.size w W) => hL (D.col k).name W (hv.below hb)
      obtain ⟨b1, o1, rfl, hb1, hcs⟩ := (hc.below hBw).cells (by omega)
      obtain ⟨y0, -, -⟩ := hcs k hlt
      have HS : Hid (∀ x, colAt D.col D.nc (D.col k).name = x → (x = (k : Int) → ∀ i, i < k + 1 → ∀ j, j < i → (D.col j).name ≠ (D.col i).name) ∧ (x ≠ (k : Int) → onceF D = false)) := by
        intro x e
        refine ⟨fun hx i hi => ?_, fun hx => ?_⟩
        · by_cases hj' : i < k
          · exact HA.out i hj'
          · obtain rfl : i = k := by omega
            exact (colAt_self hlt).1 (e.trans hx)
        · unfold onceF
          refine decide_eq_false (fun h => hx ?_)
          rw [← e]
          exact (colAt_self hlt).2 (h.1 k hlt)
      obtain ⟨x, hx⟩ : ∃ x, Hid (colAt D.col D.nc (D.col k).name = x) := ⟨_, rfl⟩
      simp only [hx.out] at hLk
      obtain ⟨z, hz⟩ : ∃ z, Hid ((D.col k).name = z) := ⟨_, rfl⟩
      rw [hz.out] at y0
      simp only [hz.out] at hLk
      have HX := HS.out x hx.out
      have HX' : Hid ((x = (k : Int) → ∀ i, i < k + 1 → ∀ j, j < i → (D.col j).name ≠ (D.col i).name) ∧ (x ≠ (k : Int) → onceF D = false)) := HX
      clear hcs hc hi hv hL HA HX HS
      have HBw : Hid (Below w.heap.size w wr) := hBw
      have HB : Hid (Below (w.heap.size + 1) (w.alloc (.cells #[.string D.name, .slice (some ⟨b1, o1, none⟩) D.nc cc, .slice ap D.np cp, .slice ai D.ni ci] 35)) wr) := hB
      clear hBw hB
      go_wp2_with fail
      go_region_held3 (fun WW => (WW.cell? ⟨w.heap.size, 0, none⟩ = some (.string D.name) ∧ WW.cell? ⟨w.heap.size, 1, none⟩ = some (.slice (some ⟨b1, o1, none⟩) D.nc cc) ∧ WW.cell? ⟨w.heap.size, 2, none⟩ = some (.slice ap D.np cp) ∧ WW.cell? ⟨w.heap.size, 3, none⟩ = some (.slice ai D.ni ci)) ∧ WW.cell? ⟨b1, o1 + k * 3, none⟩ = some (.string z)) (first | assumption | go_keep) (first | (go_at_call 117; refine (hLk _ (by repeat (first | exact HBw.out | refine Below.drew ?_))).mono ?_; rintro e w2 ⟨rfl, hB2⟩; have hcells : (w2.cell? ⟨w.heap.size, 0, none⟩ = some (.string D.name) ∧ w2.cell? ⟨w.heap.size, 1, none⟩ = some (.slice (some ⟨b1, o1, none⟩) D.nc cc) ∧ w2.cell? ⟨w.heap.size, 2, none⟩ = some (.slice ap D.np cp) ∧ w2.cell? ⟨w.heap.size, 3, none⟩ = some (.slice ai D.ni ci)) ∧ w2.cell? ⟨b1, o1 + k * 3, none⟩ = some (.string z) := (by (refine ⟨⟨?_, ?_, ?_, ?_⟩, ?_⟩ <;> (rw [hB2.cell (by first | (simp; omega) | exact hb1)]; assumption)))))
      all_goals
        have hb2 : Below wr.heap.size wr w2 := Below.trans (by repeat (first | exact Below.refl _ _ | refine Below.drew ?_)) hB2
        have HB2 : Hid (Below (w.heap.size + 1) (w.alloc (.cells #[.string D.name, .slice (some ⟨b1, o1, none⟩) D.nc cc, .slice ap D.np cp, .slice ai D.ni ci] 35)) w2) := box4_on HB.out hb2
        clear hB2 hb2 hLk HB
        by_cases hxk : x = (k : Int)
        · have hq : (x != (k : Int)) = false := by rw [hxk]; exact bne_self_eq_false _
          have HN : Hid (∀ i, i < k + 1 → ∀ j, j < i → (D.col j).name ≠ (D.col i).name) := HX'.out.1 hxk
          clear hxk HX' HBw hcells
          go_wp2
          go_roundg (D.nc - (k + 1))
          case measure => omega
          case rel => exact ⟨k + 1, by omega, rfl, by go_num, HB2.out, HN⟩
        · have hq : (x != (k : Int)) = true := by simpa using hxk
          have HF : Hid (onceF D = false) := HX'.out.2 hxk
          have HB3 : Hid (Below w.heap.size w w2) := (box4_below HB2.out).1
          clear hxk HX' HBw hcells
          go_wp2
          go_ret
          exact ⟨by rw [HF.out]; rfl, HB3.out⟩
    · have hkz : ¬ (k : Int) < (D.nc : Int) := by omega
      obtain rfl : k = D.nc := by omega
      clear hc hL hv
      go_wp2
      go_loopg [4] D.ni (fun q i wr => ∃ k : Nat, k ≤ D.ni ∧ q = D.ni - k ∧ i = .int .i64 k ∧ Below (w.heap.size + 1) (w.alloc (.cells #[.string D.name, .slice ac D.nc cc, .slice ap D.np cp, .slice ai D.ni ci] 35)) wr ∧ Hid (∀ i, i < k → ∀ j, j < i → (D.idx j).name ≠ (D.idx i).name))
      case atStart => exact ⟨0, Nat.zero_le _, rfl, rfl, hB, fun j hj => absurd hj (Nat.not_lt_zero _)⟩
      case round =>
        clear x0 x1 x2 x3 hBw hsz hB hkz hlt
        obtain ⟨k, hk, rfl, rfl, hB, HI⟩ := hrel
        obtain ⟨x0, x1, x2, x3⟩ := box4 hB
        obtain ⟨hBw, hsz⟩ := box4_below hB
        by_cases hlt : k < D.ni
        · have hkz : (k : Int) < (D.ni : Int) := by omega
          go_wp2
          go_loopg [5] k (fun q i wr => ∃ m : Nat, m ≤ k ∧ q = k - m ∧ i = .int .i64 m ∧ Below (w.heap.size + 1) (w.alloc (.cells #[.string D.name, .slice ac D.nc cc, .slice ap D.np cp, .slice ai D.ni ci] 35)) wr ∧ Hid (∀ j, j < m → (D.idx j).name ≠ (D.idx k).name))
          case atStart => exact ⟨0, Nat.zero_le _, rfl, rfl, hB, fun j hj => absurd hj (Nat.not_lt_zero _)⟩
          case round =>
            clear x0 x1 x2 x3 hBw hsz hB
            obtain ⟨m, hm, rfl, rfl, hB, HM⟩ := hrel
            obtain ⟨x0, x1, x2, x3⟩ := box4 hB
            obtain ⟨hBw, hsz⟩ := box4_below hB
            by_cases hmk : m < k
            · have hmz : (m : Int) < (k : Int) := by omega
              have hmn : (m : Int) < (D.ni : Int) := by omega
              obtain ⟨b1, o1, rfl, hb1, hcs⟩ := (hi.below hBw).cells (by omega)
              obtain ⟨y0, -, -⟩ := hcs k hlt
              obtain ⟨y1, -, -⟩ := hcs m (by omega)
              have HB2 : Hid (Below (w.heap.size + 1) (w.alloc (.cells #[.string D.name, .slice ac D.nc cc, .slice ap D.np cp, .slice (some ⟨b1, o1, none⟩) D.ni ci] 35)) wr) := hB
              have HBw : Hid (Below w.heap.size w wr) := hBw
              clear hcs hi hB hBw
              by_cases he : (D.idx m).name = (D.idx k).name
              · have hq := bytes_eq he
                have HF : Hid (onceF D = false) := by
                  show _ = _
                  unfold onceF
                  exact decide_eq_false (fun h => h.2 k hlt m hmk he)
                obtain ⟨z, hz⟩ : ∃ z, Hid ((D.idx k).name = z) := ⟨_, rfl⟩
                obtain ⟨y, hy⟩ : ∃ y, Hid ((D.idx m).name = y) := ⟨_, rfl⟩
                rw [hz.out] at y0 hq
                rw [hy.out] at y1 hq
                clear he HM HI HA
                go_wp2_with fail
                go_quiet (fail)
                go_wp2
                go_ret
                exact ⟨by rw [HF.out]; rfl, HBw.out.trans ⟨rfl, rfl, rfl, Nat.le_refl _, fun _ _ => rfl⟩⟩
              · have hq := bytes_ne he
                have HN : Hid (∀ j, j < m + 1 → (D.idx j).name ≠ (D.idx k).name) := by
                  intro j hj
                  by_cases hj' : j < m
                  · exact HM.out j hj'
                  · obtain rfl : j = m := by omega
                    exact he
                obtain ⟨z, hz⟩ : ∃ z, Hid ((D.idx k).name = z) := ⟨_, rfl⟩
                obtain ⟨y, hy⟩ : ∃ y, Hid ((D.idx m).name = y) := ⟨_, rfl⟩
                rw [hz.out] at y0 hq
                rw [hy.out] at y1 hq
                clear he HM HI HA
                go_wp2_with fail
                go_quiet (fail)
                go_wp2
                go_roundg (k - (m + 1))
                case measure => omega
                case rel => exact ⟨m + 1, by omega, rfl, by go_num, HB2.out.trans ⟨rfl, rfl, rfl, Nat.le_refl _, fun _ _ => rfl⟩, HN⟩
            · have hmz : ¬ (m : Int) < (k : Int) := by omega
              obtain rfl : m = k := by omega
              have HN : Hid (∀ i, i < m + 1 → ∀ j, j < i → (D.idx j).name ≠ (D.idx i).name) := by
                intro i hi'
                by_cases hj' : i < m
                · exact HI.out i hj'
                · obtain rfl : i = m := by omega
                  exact HM.out
              have HB2 : Hid (Below (w.heap.size + 1) (w.alloc (.cells #[.string D.name, .slice ac D.nc cc, .slice ap D.np cp, .slice ai D.ni ci] 35)) wr) := hB
              clear HM HI HA hi hB hBw
              go_wp2
              go_roundg (D.ni - (m + 1))
              case measure => omega
              case rel => exact ⟨m + 1, by omega, rfl, by go_num, HB2.out, HN⟩
        · have hkz : ¬ (k : Int) < (D.ni : Int) := by omega
          obtain rfl : k = D.ni := by omega
          have HF : Hid (onceF D = true) := decide_eq_true ⟨HA.out, HI.out⟩
          have HBw : Hid (Below w.heap.size w wr) := hBw
          clear HI HA hi hB hBw
          go_wp2
          go_ret
          exact ⟨by rw [HF.out]; rfl, HBw.out⟩
end Go.Proofs.YtmibpdnlphdoaaaGreatDoor

/-
  The model's l9Parts and l9AllParts come to the plain ones.
-/
namespace Go.Proofs.YtmibpdnlphdoaaaGreatDoor
open Go.RowKit
set_option maxRecDepth 4000

theorem wrapI {x : Int} (h0 : -9223372036854775808 ≤ x) (h1 : x ≤ 9223372036854775807) : IntKind.i64.wrap x = x := by
  simp [IntKind.wrap, IntKind.bits, IntKind.signed]; omega

set_option maxHeartbeats 2000000 in
theorem l9Parts_any (v : Value) (D : PDef) (a : Option Addr) (n c : Nat) (f : Nat → PBy) (w : World) (h : DView w v D) (hv : BView w a n c f) (hnc : D.nc ≤ 1048576) (hn : n ≤ 1048576) :
    Calls Tryz.prog 118 #[v, .slice a n c] w fun e w' => e = .returned (.bool (partsF D.nc n f)) ∧ Below w.heap.size w w' := by
  obtain ⟨ac, cc, ap, cp, ai, ci, rfl, hc, -, -⟩ := h.is
  clear h hc
  go_enter Tryz.func118, Tryz.ntmps118
  go_wp2
  go_loopg [5] n (fun q i wr => ∃ k : Nat, k ≤ n ∧ q = n - k ∧ i = .int .i64 k ∧ Below (w.heap.size + 1) (w.alloc (.cells #[.string D.name, .slice ac D.nc cc, .slice ap D.np cp, .slice ai D.ni ci] 35)) wr ∧ Hid (∀ i, i < k → 0 ≤ (f i).col ∧ (f i).col < D.nc ∧ (0 < i → (f 0).col ≠ (f i).col)))
  case atStart => exact ⟨0, Nat.zero_le _, rfl, rfl, Below.refl _ _, fun j hj => absurd hj (Nat.not_lt_zero _)⟩
  case round =>
    obtain ⟨k, hk, rfl, rfl, hB, HA⟩ := hrel
    obtain ⟨x0, x1, x2, x3⟩ := box4 hB
    obtain ⟨hBw, hsz⟩ := box4_below hB
    by_cases hlt : k < n
    · have hkz : (k : Int) < (n : Int) := by omega
      have h0n : (0 : Int) < (n : Int) := by omega
      obtain ⟨b1, o1, rfl, hb1, hcs⟩ := (hv.below hBw).cells (by omega)
      obtain ⟨y0, -⟩ := hcs k hlt
      obtain ⟨y1, -⟩ := hcs 0 (by omega)
      simp only [Nat.zero_mul, Nat.add_zero] at y1
      have HB2 : Hid (Below (w.heap.size + 1) (w.alloc (.cells #[.string D.name, .slice ac D.nc cc, .slice ap D.np cp, .slice ai D.ni ci] 35)) wr) := hB
      have HBw : Hid (Below w.heap.size w wr) := hBw
      obtain ⟨x, hx⟩ : ∃ x, Hid ((f k).col = x) := ⟨_, rfl⟩
      obtain ⟨y, hy⟩ : ∃ y, Hid ((f 0).col = y) := ⟨_, rfl⟩
      rw [hx.out] at y0
      rw [hy.out] at y1
      have HNX : Hid (0 ≤ x ∧ x < D.nc ∧ (0 < k → y ≠ x) → ∀ i, i < k + 1 → 0 ≤ (f i).col ∧ (f i).col < D.nc ∧ (0 < i → (f 0).col ≠ (f i).col)) := by
        intro hb i hi
        by_cases hj' : i < k
        · exact HA.out i hj'
        · obtain rfl : i = k := by omega
          rw [hx.out, hy.out]
          exact hb
      have HNO : Hid (¬ (0 ≤ x ∧ x < D.nc ∧ (0 < k → y ≠ x)) → partsF D.nc n f = false) := by
        intro hb
        unfold partsF
        refine decide_eq_false (fun h => hb ?_)
        have := h.1 k hlt
        rw [hx.out, hy.out] at this
        exact this
      have hI := fun W => l1In_tok x 0 ((D.nc : Int) - 1) W
      have hsub : IntKind.i64.wrap ((D.nc : Int) - 1) = (D.nc : Int) - 1 := wrapI (by omega) (by omega)
      clear hcs hv hB hBw HA
      by_cases hin : 0 ≤ x ∧ x < D.nc
      · have hd : (decide (0 ≤ x) && decide (x ≤ (D.nc : Int) - 1)) = true := by simp; omega
        simp only [hd] at hI
        by_cases h0 : 0 < k
        · have h0z : decide ((0 : Int) < (k : Int)) = true := decide_eq_true (by omega)
          by_cases hxy : y = x
          · have HF : Hid (partsF D.nc n f = false) := HNO.out (fun h => h.2.2 h0 hxy)
            have hq : (y == x) = true := by simpa using hxy
            clear HNX HNO hd hin hxy
            go_wp2_with fail
            go_quiet (first | (go_at_call 116; exact Calls.quiet_of_same ((hI _).mono (fun _ _ h => ⟨h.1, h.2.symm⟩))))
            go_wp2
            go_ret
            exact ⟨by rw [HF.out]; rfl, HBw.out.trans ⟨rfl, rfl, rfl, Nat.le_refl _, fun _ _ => rfl⟩⟩
          · have hq : (y == x) = false := by simpa using hxy
            have HN : Hid (∀ i, i < k + 1 → 0 ≤ (f i).col ∧ (f i).col < D.nc ∧ (0 < i → (f 0).col ≠ (f i).col)) := HNX.out ⟨hin.1, hin.2, fun _ => hxy⟩
            clear HNX HNO hd hin hxy
            go_wp2_with fail
            go_quiet (first | (go_at_call 116; exact Calls.quiet_of_same ((hI _).mono (fun _ _ h => ⟨h.1, h.2.symm⟩))))
            go_wp2
            go_roundg (n - (k + 1))
            case measure => omega
            case rel => exact ⟨k + 1, by omega, rfl, by go_num, HB2.out.trans ⟨rfl, rfl, rfl, Nat.le_refl _, fun _ _ => rfl⟩, HN⟩
        · have h0z : decide ((0 : Int) < (k : Int)) = false := decide_eq_false (by omega)
          have HN : Hid (∀ i, i < k + 1 → 0 ≤ (f i).col ∧ (f i).col < D.nc ∧ (0 < i → (f 0).col ≠ (f i).col)) := HNX.out ⟨hin.1, hin.2, fun h => absurd h h0⟩
          clear HNX HNO hd hin
          go_wp2_with fail
          go_quiet (first | (go_at_call 116; exact Calls.quiet_of_same ((hI _).mono (fun _ _ h => ⟨h.1, h.2.symm⟩))))
          go_wp2
          go_roundg (n - (k + 1))
          case measure => omega
          case rel => exact ⟨k + 1, by omega, rfl, by go_num, HB2.out.trans ⟨rfl, rfl, rfl, Nat.le_refl _, fun _ _ => rfl⟩, HN⟩
      · have hd : (decide (0 ≤ x) && decide (x ≤ (D.nc : Int) - 1)) = false := by
          rw [Bool.eq_false_iff]; intro h; simp at h; exact hin (by omega)
        simp only [hd] at hI
        have HF : Hid (partsF D.nc n f = false) := HNO.out (fun h => hin ⟨h.1, h.2.1⟩)
        clear HNX HNO hd hin
        go_wp2_with fail
        go_quiet (first | (go_at_call 116; exact Calls.quiet_of_same ((hI _).mono (fun _ _ h => ⟨h.1, h.2.symm⟩))))
        go_wp2
        go_ret
        exact ⟨by rw [HF.out]; rfl, HBw.out.trans ⟨rfl, rfl, rfl, Nat.le_refl _, fun _ _ => rfl⟩⟩
    · have hkz : ¬ (k : Int) < (n : Int) := by omega
      obtain rfl : k = n := by omega
      have HF : Hid (partsF D.nc k f = (decide ((1 : Int) ≤ (k : Int)) && decide ((k : Int) ≤ 2))) := by
        show _ = _
        unfold partsF
        rw [Bool.eq_iff_iff]
        simp only [decide_eq_true_eq, Bool.and_eq_true]
        exact ⟨fun h => ⟨by omega, by omega⟩, fun h => ⟨HA.out, by omega, by omega⟩⟩
      have hI := l1In_tok k 1 2 wr
      clear hv HA
      go_wp2_with fail
      refine hI.mono ?_
      rintro e _ ⟨rfl, rfl⟩
      clear hI
      go_wp2
      go_ret
      exact ⟨by rw [HF.out]; rfl, hBw⟩

set_option maxHeartbeats 2000000 in
theorem l9AllParts_any (v : Value) (D : PDef) (w : World) (h : DView w v D) (hf : DFine D) :
    Calls Tryz.prog 71 #[v] w fun e w' => e = .returned (.bool (allPartsF D)) ∧ Below w.heap.size w w' := by
  have hnc := hf.nc
  have hni := hf.ni
  have hL := fun a n c f W hV hb hn => l9Parts_any v D a n c f W hV hb hnc hn
  have hv := h
  obtain ⟨ac, cc, ap, cp, ai, ci, rfl, -, hp, hi⟩ := h.is
  clear h
  go_enter Tryz.func71, Tryz.ntmps71
  go_wp2
  go_loopg [3] D.ni (fun q i wr => ∃ k : Nat, k ≤ D.ni ∧ q = D.ni - k ∧ i = .int .i64 k ∧ Below (w.heap.size + 1) (w.alloc (.cells #[.string D.name, .slice ac D.nc cc, .slice ap D.np cp, .slice ai D.ni ci] 35)) wr ∧ Hid (∀ i, i < k → partsF D.nc (D.idx i).n (D.idx i).part = true))
  case atStart => exact ⟨0, Nat.zero_le _, rfl, rfl, Below.refl _ _, fun j hj => absurd hj (Nat.not_lt_zero _)⟩
  case round =>
    obtain ⟨k, hk, rfl, rfl, hB, HA⟩ := hrel
    obtain ⟨x0, x1, x2, x3⟩ := box4 hB
    obtain ⟨hBw, hsz⟩ := box4_below hB
    by_cases hlt : k < D.ni
    · have hkz : (k : Int) < (D.ni : Int) := by omega
      have hfk := (hf.idx k hlt).2
      obtain ⟨b1, o1, rfl, hb1, hcs⟩ := (hi.below hBw).cells (by omega)
      obtain ⟨-, -, a2, c2, y2, hv2⟩ := hcs k hlt
      have hLk := fun W (hb : Below w.heap.size w W) (hw : Below wr.heap.size wr W) => hL a2 (D.idx k).n c2 (D.idx k).part W (hv.below hb) (hv2.below hw) hfk
      have HS : Hid (∀ b, partsF D.nc (D.idx k).n (D.idx k).part = b → (b = true → ∀ i, i < k + 1 → partsF D.nc (D.idx i).n (D.idx i).part = true) ∧ (b = false → allPartsF D = false)) := by
        intro b e
        refine ⟨fun hx i hi => ?_, fun hx => ?_⟩
        · by_cases hj' : i < k
          · exact HA.out i hj'
          · obtain rfl : i = k := by omega
            rw [e, hx]
        · unfold allPartsF
          refine decide_eq_false (fun h => ?_)
          have := h.1 k hlt
          rw [e, hx] at this
          cases this
      obtain ⟨x, hx⟩ : ∃ x, Hid (partsF D.nc (D.idx k).n (D.idx k).part = x) := ⟨_, rfl⟩
      simp only [hx.out] at hLk
      have HX' : Hid ((x = true → ∀ i, i < k + 1 → partsF D.nc (D.idx i).n (D.idx i).part = true) ∧ (x = false → allPartsF D = false)) := HS.out x hx.out
      obtain ⟨n2, hn2⟩ : ∃ n2, Hid ((D.idx k).n = n2) := ⟨_, rfl⟩
      rw [hn2.out] at y2
      simp only [hn2.out] at hLk
      have HBw : Hid (Below w.heap.size w wr) := hBw
      have HB : Hid (Below (w.heap.size + 1) (w.alloc (.cells #[.string D.name, .slice ac D.nc cc, .slice ap D.np cp, .slice (some ⟨b1, o1, none⟩) D.ni ci] 35)) wr) := hB
      clear hcs hp hi hv hL HA HS hv2 hf hBw hB hfk
      go_wp2_with fail
      go_region_held3 (fun WW => (WW.cell? ⟨w.heap.size, 0, none⟩ = some (.string D.name) ∧ WW.cell? ⟨w.heap.size, 1, none⟩ = some (.slice ac D.nc cc) ∧ WW.cell? ⟨w.heap.size, 2, none⟩ = some (.slice ap D.np cp) ∧ WW.cell? ⟨w.heap.size, 3, none⟩ = some (.slice (some ⟨b1, o1, none⟩) D.ni ci)) ∧ WW.cell? ⟨b1, o1 + k * 3 + 2, none⟩ = some (.slice a2 n2 c2)) (first | assumption | go_keep) (first | (go_at_call 118; refine (hLk _ (by repeat (first | exact HBw.out | refine Below.drew ?_)) (by repeat (first | exact Below.refl _ _ | refine Below.drew ?_))).mono ?_; rintro e w2 ⟨rfl, hB2⟩; have hcells : (w2.cell? ⟨w.heap.size, 0, none⟩ = some (.string D.name) ∧ w2.cell? ⟨w.heap.size, 1, none⟩ = some (.slice ac D.nc cc) ∧ w2.cell? ⟨w.heap.size, 2, none⟩ = some (.slice ap D.np cp) ∧ w2.cell? ⟨w.heap.size, 3, none⟩ = some (.slice (some ⟨b1, o1, none⟩) D.ni ci)) ∧ w2.cell? ⟨b1, o1 + k * 3 + 2, none⟩ = some (.slice a2 n2 c2) := (by (refine ⟨⟨?_, ?_, ?_, ?_⟩, ?_⟩ <;> (rw [hB2.cell (by first | (simp; omega) | exact hb1)]; assumption)))))
      all_goals
        have hb2 : Below wr.heap.size wr w2 := Below.trans (by repeat (first | exact Below.refl _ _ | refine Below.drew ?_)) hB2
        have HB2 : Hid (Below (w.heap.size + 1) (w.alloc (.cells #[.string D.name, .slice ac D.nc cc, .slice ap D.np cp, .slice (some ⟨b1, o1, none⟩) D.ni ci] 35)) w2) := box4_on HB.out hb2
        clear hB2 hb2 hLk HB
        cases x with
        | true =>
          have HN : Hid (∀ i, i < k + 1 → partsF D.nc (D.idx i).n (D.idx i).part = true) := HX'.out.1 rfl
          clear HX' HBw hcells
          go_wp2
          go_roundg (D.ni - (k + 1))
          case measure => omega
          case rel => exact ⟨k + 1, by omega, rfl, by go_num, HB2.out, HN⟩
        | false =>
          have HF : Hid (allPartsF D = false) := HX'.out.2 rfl
          have HB3 : Hid (Below w.heap.size w w2) := (box4_below HB2.out).1
          clear HX' HBw hcells
          go_wp2
          go_ret
          exact ⟨by rw [HF.out]; rfl, HB3.out⟩
    · have hkz : ¬ (k : Int) < (D.ni : Int) := by omega
      obtain rfl : k = D.ni := by omega
      have hLk := hL ap D.np cp D.pri wr (hv.below hBw) (hp.below hBw) hf.np
      have HF : Hid (allPartsF D = partsF D.nc D.np D.pri) := by
        show _ = _
        unfold allPartsF
        cases e : partsF D.nc D.np D.pri with
        | true => exact decide_eq_true ⟨HA.out, rfl⟩
        | false => exact decide_eq_false (fun h => by cases h.2)
      clear hp hi hv hL HA hf
      go_wp2_with fail
      refine hLk.mono ?_
      rintro e w2 ⟨rfl, hb2⟩
      have HB2 : Hid (Below w.heap.size w w2) := (box4_below (box4_on hB hb2)).1
      clear hLk hb2 hB hBw
      go_wp2
      go_ret
      exact ⟨by rw [HF.out]; rfl, HB2.out⟩
end Go.Proofs.YtmibpdnlphdoaaaGreatDoor

