/-
  Together: OnceSpec, ReadPlain
-/
import Derived.Test.YtnpfgamlncfikaaGreatDoorPackF4
import Derived.Test.YtnpfgamlncfikaaGreatDoorPackF5
import Derived.Deep.LoopGhost
import Derived.Deep.RegionHeld3
import Derived.Deep.QuietTactic
import Derived.BigQuiet
/-
  The model's l9Col and l9Once come to the plain ones.
-/
namespace Go.Proofs.YtnpfgamlncfikaaGreatDoor
open Go.RowKit
set_option maxRecDepth 4000

/-- The place of the first column from the k-th on, of m, that has a name; -1: there is none. -/
def colFrom (f : Nat → PCol) (s : ByteArray) : Nat → Nat → Int
  | 0, _ => -1
  | m + 1, k => if (f k).name = s then (k : Int) else colFrom f s m (k + 1)
/-- The place of the first of n columns that has a name; -1: there is none. -/
def colAt (f : Nat → PCol) (n : Nat) (s : ByteArray) : Int := colFrom f s n 0
theorem colFrom_skip (f : Nat → PCol) (s : ByteArray) : ∀ (k n : Nat), k ≤ n → (∀ j, j < k → (f j).name ≠ s) → colAt f n s = colFrom f s (n - k) k
  | 0, _, _, _ => rfl
  | k + 1, n, hk, hn => by
    rw [colFrom_skip f s k n (by omega) (fun j hj => hn j (by omega)), show n - k = (n - (k + 1)) + 1 by omega, colFrom, if_neg (hn k (by omega))]
theorem colAt_first {f : Nat → PCol} {n k : Nat} {s : ByteArray} (hk : k < n) (he : (f k).name = s) (hn : ∀ j, j < k → (f j).name ≠ s) : colAt f n s = k := by
  rw [colFrom_skip f s k n (by omega) hn, show n - k = (n - k - 1) + 1 by omega, colFrom, if_pos he]
theorem colAt_none {f : Nat → PCol} {n : Nat} {s : ByteArray} (hn : ∀ j, j < n → (f j).name ≠ s) : colAt f n s = -1 := by
  rw [colFrom_skip f s n n (Nat.le_refl _) hn, Nat.sub_self]; rfl
/-- A column is the first of its name just if none ahead has it. -/
theorem colAt_self {f : Nat → PCol} {n k : Nat} (hk : k < n) : colAt f n (f k).name = k ↔ ∀ j, j < k → (f j).name ≠ (f k).name := by
  constructor
  · intro h
    have key : ∀ m, m ≤ k → ∀ j, j < m → (f j).name ≠ (f k).name := by
      intro m
      induction m with
      | zero => intro _ j hj; exact absurd hj (Nat.not_lt_zero _)
      | succ m ih =>
        intro hm j hj
        have hi := ih (by omega)
        by_cases e : j < m
        · exact hi j e
        · obtain rfl : j = m := by omega
          intro he
          have := colAt_first (n := n) (by omega) he hi
          rw [h] at this
          omega
    exact key k (Nat.le_refl _)
  · exact fun h => colAt_first hk rfl h

set_option maxHeartbeats 1000000 in
theorem l9Col_any (v : Value) (D : PDef) (s : ByteArray) (w : World) (h : DView w v D) (hnc : D.nc ≤ 1048576) :
    Calls Tryz.prog 117 #[v, .string s] w fun e w' => e = .returned (.int .i64 (colAt D.col D.nc s)) ∧ Below w.heap.size w w' := by
  obtain ⟨ac, cc, ap, cp, ai, ci, rfl, hc, -, -⟩ := h.is
  clear h
  go_enter Tryz.func117, Tryz.ntmps117
  go_wp2
  go_loopg [5] D.nc (fun q i wr => ∃ k : Nat, k ≤ D.nc ∧ q = D.nc - k ∧ i = .int .i64 k ∧ wr = w.alloc (.cells #[.string D.name, .slice ac D.nc cc, .slice ap D.np cp, .slice ai D.ni ci] 35) ∧ Hid (∀ j, j < k → (D.col j).name ≠ s))
  case atStart => exact ⟨0, Nat.zero_le _, rfl, rfl, rfl, fun j hj => absurd hj (Nat.not_lt_zero _)⟩
  case round =>
    obtain ⟨k, hk, rfl, rfl, hW, HA⟩ := hrel
    have hB : Below (w.heap.size + 1) (w.alloc (.cells #[.string D.name, .slice ac D.nc cc, .slice ap D.np cp, .slice ai D.ni ci] 35)) wr := by rw [hW]; exact Below.refl _ _
    have HW : Hid (wr = w.alloc (.cells #[.string D.name, .slice ac D.nc cc, .slice ap D.np cp, .slice ai D.ni ci] 35)) := hW
    clear hW
    obtain ⟨x0, x1, x2, x3⟩ := box4 hB
    obtain ⟨hBw, hsz⟩ := box4_below hB
    clear hB
    by_cases hlt : k < D.nc
    · have hkz : (k : Int) < (D.nc : Int) := by omega
      obtain ⟨b1, o1, rfl, hb1, hcs⟩ := (hc.below hBw).cells (by omega)
      obtain ⟨y0, -, -⟩ := hcs k hlt
      clear hcs hc
      by_cases he : (D.col k).name = s
      · have HF : Hid (colAt D.col D.nc s = k) := colAt_first hlt he HA.out
        have hq := bytes_eq he
        obtain ⟨z, hz⟩ : ∃ z, Hid ((D.col k).name = z) := ⟨_, rfl⟩
        rw [hz.out] at y0 hq
        clear he
        go_wp2
        go_ret
        exact ⟨by rw [HF.out]; rfl, hBw⟩
      · have HN : Hid (∀ j, j < k + 1 → (D.col j).name ≠ s) := by
          intro j hj
          by_cases hj' : j < k
          · exact HA.out j hj'
          · obtain rfl : j = k := by omega
            exact he
        have hq := bytes_ne he
        obtain ⟨z, hz⟩ : ∃ z, Hid ((D.col k).name = z) := ⟨_, rfl⟩
        rw [hz.out] at y0 hq
        clear he HA
        go_wp2
        go_roundg (D.nc - (k + 1))
        case measure => omega
        case rel => exact ⟨k + 1, by omega, rfl, by go_num, HW.out, HN⟩
    · have hkz : ¬ (k : Int) < (D.nc : Int) := by omega
      obtain rfl : k = D.nc := by omega
      have HF : Hid (colAt D.col D.nc s = -1) := colAt_none HA.out
      clear hc HA
      go_wp2
      go_ret
      exact ⟨by rw [HF.out]; rfl, hBw⟩

set_option maxHeartbeats 2000000 in
theorem l9Once_any (v : Value) (D : PDef) (w : World) (h : DView w v D) (hnc : D.nc ≤ 1048576) (hni : D.ni ≤ 1048576) :
    Calls Tryz.prog 70 #[v] w fun e w' => e = .returned (.bool (onceF D)) ∧ Below w.heap.size w w' := by
  have hL := fun s W hV => l9Col_any v D s W hV hnc
  have hv := h
  obtain ⟨ac, cc, ap, cp, ai, ci, rfl, hc, -, hi⟩ := h.is
  clear h
  go_enter Tryz.func70, Tryz.ntmps70
  go_wp2
  go_loopg [3] D.nc (fun q i wr => ∃ k : Nat, k ≤ D.nc ∧ q = D.nc - k ∧ i = .int .i64 k ∧ Below (w.heap.size + 1) (w.alloc (.cells #[.string D.name, .slice ac D.nc cc, .slice ap D.np cp, .slice ai D.ni ci] 35)) wr ∧ Hid (∀ i, i < k → ∀ j, j < i → (D.col j).name ≠ (D.col i).name))
  case atStart => exact ⟨0, Nat.zero_le _, rfl, rfl, Below.refl _ _, fun j hj => absurd hj (Nat.not_lt_zero _)⟩
  case round =>
    obtain ⟨k, hk, rfl, rfl, hB, HA⟩ := hrel
    obtain ⟨x0, x1, x2, x3⟩ := box4 hB
    obtain ⟨hBw, hsz⟩ := box4_below hB
    by_cases hlt : k < D.nc
    · have hkz : (k : Int) < (D.nc : Int) := by omega
      have hLk := fun W (hb : Below w.heap.size w W) => hL (D.col k).name W (hv.below hb)
      obtain ⟨b1, o1, rfl, hb1, hcs⟩ := (hc.below hBw).cells (by omega)
      obtain ⟨y0, -, -⟩ := hcs k hlt
      have HS : Hid (∀ x, colAt D.col D.nc (D.col k).name = x → (x = (k : Int) → ∀ i, i < k + 1 → ∀ j, j < i → (D.col j).name ≠ (D.col i).name) ∧ (x ≠ (k : Int) → onceF D = false)) := by
        intro x e
        refine ⟨fun hx i hi => ?_, fun hx => ?_⟩
        · by_cases hj' : i < k
          · exact HA.out i hj'
          · obtain rfl : i = k := by omega
            exact (colAt_self hlt).1 (e.trans hx)
        · unfold onceF
          refine decide_eq_false (fun h => hx ?_)
          rw [← e]
          exact (colAt_self hlt).2 (h.1 k hlt)
      obtain ⟨x, hx⟩ : ∃ x, Hid (colAt D.col D.nc (D.col k).name = x) := ⟨_, rfl⟩
      simp only [hx.out] at hLk
      obtain ⟨z, hz⟩ : ∃ z, Hid ((D.col k).name = z) := ⟨_, rfl⟩
      rw [hz.out] at y0
      simp only [hz.out] at hLk
      have HX := HS.out x hx.out
      have HX' : Hid ((x = (k : Int) → ∀ i, i < k + 1 → ∀ j, j < i → (D.col j).name ≠ (D.col i).name) ∧ (x ≠ (k : Int) → onceF D = false)) := HX
      clear hcs hc hi hv hL HA HX HS
      have HBw : Hid (Below w.heap.size w wr) := hBw
      have HB : Hid (Below (w.heap.size + 1) (w.alloc (.cells #[.string D.name, .slice (some ⟨b1, o1, none⟩) D.nc cc, .slice ap D.np cp, .slice ai D.ni ci] 35)) wr) := hB
      clear hBw hB
      go_wp2_with fail
      go_region_held3 (fun WW => (WW.cell? ⟨w.heap.size, 0, none⟩ = some (.string D.name) ∧ WW.cell? ⟨w.heap.size, 1, none⟩ = some (.slice (some ⟨b1, o1, none⟩) D.nc cc) ∧ WW.cell? ⟨w.heap.size, 2, none⟩ = some (.slice ap D.np cp) ∧ WW.cell? ⟨w.heap.size, 3, none⟩ = some (.slice ai D.ni ci)) ∧ WW.cell? ⟨b1, o1 + k * 3, none⟩ = some (.string z)) (first | assumption | go_keep) (first | (go_at_call 117; refine (hLk _ (by repeat (first | exact HBw.out | refine Below.drew ?_))).mono ?_; rintro e w2 ⟨rfl, hB2⟩; have hcells : (w2.cell? ⟨w.heap.size, 0, none⟩ = some (.string D.name) ∧ w2.cell? ⟨w.heap.size, 1, none⟩ = some (.slice (some ⟨b1, o1, none⟩) D.nc cc) ∧ w2.cell? ⟨w.heap.size, 2, none⟩ = some (.slice ap D.np cp) ∧ w2.cell? ⟨w.heap.size, 3, none⟩ = some (.slice ai D.ni ci)) ∧ w2.cell? ⟨b1, o1 + k * 3, none⟩ = some (.string z) := (by (refine ⟨⟨?_, ?_, ?_, ?_⟩, ?_⟩ <;> (rw [hB2.cell (by first | (simp; omega) | exact hb1)]; assumption)))))
      all_goals
        have hb2 : Below wr.heap.size wr w2 := Below.trans (by repeat (first | exact Below.refl _ _ | refine Below.drew ?_)) hB2
        have HB2 : Hid (Below (w.heap.size + 1) (w.alloc (.cells #[.string D.name, .slice (some ⟨b1, o1, none⟩) D.nc cc, .slice ap D.np cp, .slice ai D.ni ci] 35)) w2) := box4_on HB.out hb2
        clear hB2 hb2 hLk HB
        by_cases hxk : x = (k : Int)
        · have hq : (x != (k : Int)) = false := by rw [hxk]; exact bne_self_eq_false _
          have HN : Hid (∀ i, i < k + 1 → ∀ j, j < i → (D.col j).name ≠ (D.col i).name) := HX'.out.1 hxk
          clear hxk HX' HBw hcells
          go_wp2
          go_roundg (D.nc - (k + 1))
          case measure => omega
          case rel => exact ⟨k + 1, by omega, rfl, by go_num, HB2.out, HN⟩
        · have hq : (x != (k : Int)) = true := by simpa using hxk
          have HF : Hid (onceF D = false) := HX'.out.2 hxk
          have HB3 : Hid (Below w.heap.size w w2) := (box4_below HB2.out).1
          clear hxk HX' HBw hcells
          go_wp2
          go_ret
          exact ⟨by rw [HF.out]; rfl, HB3.out⟩
    · have hkz : ¬ (k : Int) < (D.nc : Int) := by omega
      obtain rfl : k = D.nc := by omega
      clear hc hL hv
      go_wp2
      go_loopg [4] D.ni (fun q i wr => ∃ k : Nat, k ≤ D.ni ∧ q = D.ni - k ∧ i = .int .i64 k ∧ Below (w.heap.size + 1) (w.alloc (.cells #[.string D.name, .slice ac D.nc cc, .slice ap D.np cp, .slice ai D.ni ci] 35)) wr ∧ Hid (∀ i, i < k → ∀ j, j < i → (D.idx j).name ≠ (D.idx i).name))
      case atStart => exact ⟨0, Nat.zero_le _, rfl, rfl, hB, fun j hj => absurd hj (Nat.not_lt_zero _)⟩
      case round =>
        clear x0 x1 x2 x3 hBw hsz hB hkz hlt
        obtain ⟨k, hk, rfl, rfl, hB, HI⟩ := hrel
        obtain ⟨x0, x1, x2, x3⟩ := box4 hB
        obtain ⟨hBw, hsz⟩ := box4_below hB
        by_cases hlt : k < D.ni
        · have hkz : (k : Int) < (D.ni : Int) := by omega
          go_wp2
          go_loopg [5] k (fun q i wr => ∃ m : Nat, m ≤ k ∧ q = k - m ∧ i = .int .i64 m ∧ Below (w.heap.size + 1) (w.alloc (.cells #[.string D.name, .slice ac D.nc cc, .slice ap D.np cp, .slice ai D.ni ci] 35)) wr ∧ Hid (∀ j, j < m → (D.idx j).name ≠ (D.idx k).name))
          case atStart => exact ⟨0, Nat.zero_le _, rfl, rfl, hB, fun j hj => absurd hj (Nat.not_lt_zero _)⟩
          case round =>
            clear x0 x1 x2 x3 hBw hsz hB
            obtain ⟨m, hm, rfl, rfl, hB, HM⟩ := hrel
            obtain ⟨x0, x1, x2, x3⟩ := box4 hB
            obtain ⟨hBw, hsz⟩ := box4_below hB
            by_cases hmk : m < k
            · have hmz : (m : Int) < (k : Int) := by omega
              have hmn : (m : Int) < (D.ni : Int) := by omega
              obtain ⟨b1, o1, rfl, hb1, hcs⟩ := (hi.below hBw).cells (by omega)
              obtain ⟨y0, -, -⟩ := hcs k hlt
              obtain ⟨y1, -, -⟩ := hcs m (by omega)
              have HB2 : Hid (Below (w.heap.size + 1) (w.alloc (.cells #[.string D.name, .slice ac D.nc cc, .slice ap D.np cp, .slice (some ⟨b1, o1, none⟩) D.ni ci] 35)) wr) := hB
              have HBw : Hid (Below w.heap.size w wr) := hBw
              clear hcs hi hB hBw
              by_cases he : (D.idx m).name = (D.idx k).name
              · have hq := bytes_eq he
                have HF : Hid (onceF D = false) := by
                  show _ = _
                  unfold onceF
                  exact decide_eq_false (fun h => h.2 k hlt m hmk he)
                obtain ⟨z, hz⟩ : ∃ z, Hid ((D.idx k).name = z) := ⟨_, rfl⟩
                obtain ⟨y, hy⟩ : ∃ y, Hid ((D.idx m).name = y) := ⟨_, rfl⟩
                rw [hz.out] at y0 hq
                rw [hy.out] at y1 hq
                clear he HM HI HA
                go_wp2_with fail
                go_quiet (fail)
                go_wp2
                go_ret
                exact ⟨by rw [HF.out]; rfl, HBw.out.trans ⟨rfl, rfl, rfl, Nat.le_refl _, fun _ _ => rfl⟩⟩
              · have hq := bytes_ne he
                have HN : Hid (∀ j, j < m + 1 → (D.idx j).name ≠ (D.idx k).name) := by
                  intro j hj
                  by_cases hj' : j < m
                  · exact HM.out j hj'
                  · obtain rfl : j = m := by omega
                    exact he
                obtain ⟨z, hz⟩ : ∃ z, Hid ((D.idx k).name = z) := ⟨_, rfl⟩
                obtain ⟨y, hy⟩ : ∃ y, Hid ((D.idx m).name = y) := ⟨_, rfl⟩
                rw [hz.out] at y0 hq
                rw [hy.out] at y1 hq
                clear he HM HI HA
                go_wp2_with fail
                go_quiet (fail)
                go_wp2
                go_roundg (k - (m + 1))
                case measure => omega
                case rel => exact ⟨m + 1, by omega, rfl, by go_num, HB2.out.trans ⟨rfl, rfl, rfl, Nat.le_refl _, fun _ _ => rfl⟩, HN⟩
            · have hmz : ¬ (m : Int) < (k : Int) := by omega
              obtain rfl : m = k := by omega
              have HN : Hid (∀ i, i < m + 1 → ∀ j, j < i → (D.idx j).name ≠ (D.idx i).name) := by
                intro i hi'
                by_cases hj' : i < m
                · exact HI.out i hj'
                · obtain rfl : i = m := by omega
                  exact HM.out
              have HB2 : Hid (Below (w.heap.size + 1) (w.alloc (.cells #[.string D.name, .slice ac D.nc cc, .slice ap D.np cp, .slice ai D.ni ci] 35)) wr) := hB
              clear HM HI HA hi hB hBw
              go_wp2
              go_roundg (D.ni - (m + 1))
              case measure => omega
              case rel => exact ⟨m + 1, by omega, rfl, by go_num, HB2.out, HN⟩
        · have hkz : ¬ (k : Int) < (D.ni : Int) := by omega
          obtain rfl : k = D.ni := by omega
          have HF : Hid (onceF D = true) := decide_eq_true ⟨HA.out, HI.out⟩
          have HBw : Hid (Below w.heap.size w wr) := hBw
          clear HI HA hi hB hBw
          go_wp2
          go_ret
          exact ⟨by rw [HF.out]; rfl, HBw.out⟩
end Go.Proofs.YtnpfgamlncfikaaGreatDoor

/-
  Tables out of tokens, plainly: the model's reading.
-/
namespace Go.Proofs.YtnpfgamlncfikaaGreatDoor
open Go.RowKit
set_option maxRecDepth 4000

/-- Whether the next token is s; it is passed over then. -/
def isR (s : ByteArray) : List Tok → Bool × List Tok
  | [] => (false, [])
  | t :: r => if t.2 = s then (true, r) else (false, t :: r)
/-- The next token must be s. -/
def mustR (s : ByteArray) (l : List Tok) : Option (List Tok) := if (isR s l).1 then some (isR s l).2 else none
/-- The next token must be a name. -/
def nameR : List Tok → Option (ByteArray × List Tok)
  | [] => none
  | t :: r => if t.1 = 1 then some (t.2, r) else none
/-- The type, 0 where there is none. -/
def typeR (l : List Tok) : Int × List Tok :=
  if (isR (typeW 1) l).1 then (1, (isR (typeW 1) l).2) else if (isR (typeW 2) l).1 then (2, (isR (typeW 2) l).2) else if (isR (typeW 3) l).1 then (3, (isR (typeW 3) l).2) else if (isR (typeW 4) l).1 then (4, (isR (typeW 4) l).2) else (0, l)
def colR (l : List Tok) : Option (PCol × List Tok) := do
  let (n, l1) ← nameR l
  let (t, l2) := typeR l1
  let (z, l3) := isR kNull l2
  let l4 ← mustR ⟨#[59]⟩ l3
  return (⟨n, t, z⟩, l4)
/-- Parts of columns. -/
def partsR (cs : List PCol) : Nat → List Tok → Option (List PBy × List Tok)
  | 0, _ => none
  | q + 1, l => do
    let (n, l1) ← nameR l
    let (d, l2) := isR kDesc l1
    let x : PBy := ⟨colAt (fun i => cs.getD i ⟨⟨#[]⟩, 0, false⟩) cs.length n, d⟩
    if (isR ⟨#[44]⟩ l2).1 then
      let (r, l3) ← partsR cs q (isR ⟨#[44]⟩ l2).2
      return (x :: r, l3)
    else
      let l3 ← mustR ⟨#[59]⟩ l2
      return ([x], l3)
/-- Columns, as far as the word primary. -/
def colsR : Nat → List Tok → Option (List PCol × List Tok)
  | 0, _ => none
  | q + 1, l =>
    if (isR kPrimary l).1 then some ([], (isR kPrimary l).2)
    else do
      let (c, l1) ← colR l
      let (r, l2) ← colsR q l1
      return (c :: r, l2)
/-- The word of an index. -/
def idxW (u : Bool) (l : List Tok) : Option (List Tok) := if u then some l else mustR kIndex l
def idxsR (cs : List PCol) : Nat → List Tok → Option (List (ByteArray × Bool × List PBy) × List Tok)
  | 0, _ => none
  | q + 1, l =>
    if (isR ⟨#[125]⟩ l).1 then some ([], (isR ⟨#[125]⟩ l).2)
    else do
      let (u, l1) := isR kUnique l
      let l2 ← idxW u l1
      let (n, l3) ← nameR l2
      let (p, l4) ← partsR cs (l3.length + 1) l3
      let (r, l5) ← idxsR cs q l4
      return ((n, u, p) :: r, l5)
def mkBy (l : List PBy) (i : Nat) : PBy := l.getD i ⟨0, false⟩
def mkCol (l : List PCol) (i : Nat) : PCol := l.getD i ⟨⟨#[]⟩, 0, false⟩
def mkIdx (l : List (ByteArray × Bool × List PBy)) (i : Nat) : PIdx := ⟨(l.getD i (⟨#[]⟩, false, [])).1, (l.getD i (⟨#[]⟩, false, [])).2.1, (l.getD i (⟨#[]⟩, false, [])).2.2.length, mkBy (l.getD i (⟨#[]⟩, false, [])).2.2⟩
def mkDef (n : ByteArray) (c : List PCol) (p : List PBy) (x : List (ByteArray × Bool × List PBy)) : PDef := ⟨n, c.length, mkCol c, p.length, mkBy p, x.length, mkIdx x⟩
/-- A table. -/
def defR (l : List Tok) : Option (PDef × List Tok) := do
  let l1 ← mustR kTable l
  let (n, l2) ← nameR l1
  let l3 ← mustR ⟨#[123]⟩ l2
  let (c, l4) ← colsR (l3.length + 1) l3
  let (p, l5) ← partsR c (l4.length + 1) l4
  let (x, l6) ← idxsR c (l5.length + 1) l5
  return (mkDef n c p x, l6)
/-- Tables, to the end. -/
def defsR : Nat → List Tok → Option (List PDef)
  | _, [] => some []
  | 0, _ => none
  | q + 1, t :: r => do
    let (d, l1) ← defR (t :: r)
    let ds ← defsR q l1
    return (d :: ds)

/-- A list that is read off a function. -/
def offC (D : PDef) : List PCol := (List.range D.nc).map D.col
def offP (n : Nat) (f : Nat → PBy) : List PBy := (List.range n).map f

theorem isR_hit (k : Int) (s : ByteArray) (r : List Tok) : isR s ((k, s) :: r) = (true, r) := by simp [isR]
theorem isR_miss {t : Tok} {s : ByteArray} (h : t.2 ≠ s) (r : List Tok) : isR s (t :: r) = (false, t :: r) := by simp [isR, h]
theorem mustR_hit (k : Int) (s : ByteArray) (r : List Tok) : mustR s ((k, s) :: r) = some r := by simp [mustR, isR]
theorem nameR_hit (s : ByteArray) (r : List Tok) : nameR (tN s :: r) = some (s, r) := by simp [nameR, tN]
theorem typeR_hit {t : Int} (h1 : 1 ≤ t) (h4 : t ≤ 4) (r : List Tok) : typeR (tN (typeW t) :: r) = (t, r) := by
  have : t = 1 ∨ t = 2 ∨ t = 3 ∨ t = 4 := by omega
  rcases this with rfl | rfl | rfl | rfl <;> simp [typeR, isR, tN, typeW]
theorem null_not (r : List Tok) : isR kNull (tM 59 :: r) = (false, tM 59 :: r) := isR_miss (by decide) r
theorem colR_hit {c : PCol} (h1 : 1 ≤ c.type) (h4 : c.type ≤ 4) (r : List Tok) : colR (colK c ++ r) = some (c, r) := by
  unfold colR colK
  obtain ⟨n, t, z⟩ := c
  cases z with
  | false =>
    simp only [Bool.false_eq_true, if_false, List.append_nil, List.cons_append, List.nil_append]
    rw [nameR_hit]
    simp only [Option.bind_eq_bind, Option.bind_some]
    rw [typeR_hit h1 h4, null_not]
    rfl
  | true =>
    simp only [if_true, List.cons_append, List.nil_append]
    rw [nameR_hit]
    simp only [Option.bind_eq_bind, Option.bind_some]
    rw [typeR_hit h1 h4, show isR kNull (tN kNull :: tM 59 :: r) = (true, tM 59 :: r) from isR_hit 1 kNull _]
    rfl
end Go.Proofs.YtnpfgamlncfikaaGreatDoor

