/-
  Together: DefsIn, TextSize, TextImpl9, LaidDef
-/
import Derived.Test.YtmibpdnlphdoaaaGreatDoorPackF17
import Derived.Test.YtmibpdnlphdoaaaGreatDoorPackF3
import Derived.Test.YtmibpdnlphdoaaaGreatDoorPackF9
import Derived.Test.YtmibpdnlphdoaaaGreatDoorPackF13
import Derived.Test.YtmibpdnlphdoaaaGreatDoorShelf
import Derived.Deep.LoopGhost
import Derived.Deep.QuietTactic
import Derived.Deep.RegionHeld3
import Derived.BigQuiet
import Derived.Test.YtmibpdnlphdoaaaGreatDoorRows
import Derived.LaidHandle
import Derived.LaidLaws
import Derived.Lib.LaidTab
import Derived.ChangeArms
/-
  What the frame of a row hands over of tables that came in.
-/
namespace Go.Proofs.YtmibpdnlphdoaaaGreatDoor
open Go.RowKit
set_option maxRecDepth 4000
open Go.Deep Go.ChangeShapes Go.Joins

instance : Inhabited PDef := ⟨⟨⟨#[]⟩, 0, fun _ => default, 0, fun _ => default, 0, fun _ => default⟩⟩

theorem defsIn {H : Type} {enc : TypeId × Value → H} {W : World} {sp : Nat → Bool} {a : Option Addr} {len cap : Nat} {d : DataW H} {p : List MemPlace}
    (h : DataW.Trod enc Tryz.prog W 0 sp true 45 (.slice a len cap) d p) : ∃ f, LView W a len cap f ∧ len ≤ maxLen ∧ ∀ i, i < len → DLim (f i) := by
  obtain ⟨fuel, hf⟩ := h
  have c2 : Tryz.prog.cellsOf 92 = 4 := by kernel_rfl
  obtain ⟨a', n', cap', f, e, hl, hm, hv⟩ := sliceIn (α := PDef) Tryz.underlying45 c2 (by decide) (fun a y => ∃ x0 x1 x2 x3, (W.cell? (a.add 0) = some x0 ∧ W.cell? (a.add 1) = some x1 ∧ W.cell? (a.add 2) = some x2 ∧ W.cell? (a.add 3) = some x3) ∧ DView W (.agg #[x0, x1, x2, x3]) y ∧ DLim y) (by
    intro fuel cs x a hl hcell htr
    obtain ⟨y0, y1, y2, y3, m, _, _, t0, t1, t2, t3⟩ := trod_struct4 Tryz.underlying92 htr
    have o0 : Tryz.prog.cellsOf 9 = 1 := by kernel_rfl
    have o1 : Tryz.prog.cellsOf 88 = 1 := by kernel_rfl
    have o2 : Tryz.prog.cellsOf 89 = 1 := by kernel_rfl
    have o3 : Tryz.prog.cellsOf 90 = 1 := by kernel_rfl
    simp only [o0, o1, o2, o3] at t0 t1 t2 t3
    match cs, hl with
    | [c0, c1, c2, c3], _ =>
      simp only [List.drop_zero, List.drop_succ_cons, List.take_succ_cons, List.take_zero] at t0 t1 t2 t3
      obtain ⟨D, hD, hL⟩ := defIn t0 t1 t2 t3
      exact ⟨D, c0, c1, c2, c3, ⟨hcell 0 (by decide), hcell 1 (by decide), hcell 2 (by decide), hcell 3 (by decide)⟩, hD, hL⟩) hf
  have e' : [Value.slice a len cap] = [Value.slice a' n' cap'] := by simpa [Value.cells] using e
  cases e'
  refine ⟨f, ⟨hl, fun hn => ?_⟩, Nat.le_trans hl hm, fun i hi => ?_⟩
  · obtain ⟨b, off, ea, hlt, hc⟩ := hv hn
    refine ⟨b, off, ea, hlt, fun i hi => ?_⟩
    obtain ⟨x0, x1, x2, x3, ⟨h0, h1, h2, h3⟩, hD, -⟩ := hc i hi
    simp only [addr_add, Nat.add_zero] at h0 h1 h2 h3
    have hD' := hD
    obtain ⟨ac, cc, ap, cp, ai, ci, e, -, -, -⟩ := hD.is
    simp only [Value.agg.injEq, Array.mk.injEq, List.cons.injEq, and_true] at e
    obtain ⟨rfl, rfl, rfl, rfl⟩ := e
    exact ⟨_, _, _, h0, h1, h2, h3, hD'⟩
  · obtain ⟨b, off, ea, hlt, hc⟩ := hv (by omega)
    obtain ⟨_, _, _, _, _, _, hL⟩ := hc i hi
    exact hL
end Go.Proofs.YtmibpdnlphdoaaaGreatDoor

/-
  A table's text is not long.
-/
namespace Go.Proofs.YtmibpdnlphdoaaaGreatDoor
open Go.RowKit
set_option maxRecDepth 4000

theorem partsT_size {col : Nat → PCol} {f : Nat → PBy} {n B : Nat} (h : ∀ i, i < n → (col (f i).col.toNat).name.size ≤ B) : ∀ k, k ≤ n → (partsT col f k).size ≤ k * (B + 7)
  | 0, _ => Nat.zero_le _
  | k + 1, hk => by
    have ih := partsT_size h k (by omega)
    have h1 := h k (by omega)
    have e1 : (⟨#[44, 32]⟩ : ByteArray).size = 2 := rfl
    have e2 : (⟨#[32, 100, 101, 115, 99]⟩ : ByteArray).size = 5 := rfl
    have h3 : (k + 1) * (B + 7) = k * (B + 7) + (B + 7) := by rw [Nat.add_mul]; omega
    rw [partsT]
    split <;> split <;> simp only [ByteArray.size_append] <;> omega
theorem typeW_size (t : Int) : (typeW t).size ≤ 4 := by
  unfold typeW
  split
  · exact Nat.le_succ _
  split
  · exact Nat.le_succ _
  split
  · exact Nat.le_refl _
  split
  · exact Nat.le_refl _
  · exact Nat.zero_le _
theorem colsT_size {name : ByteArray} {col : Nat → PCol} {n B : Nat} (hn : name.size ≤ B) (h : ∀ i, i < n → (col i).name.size ≤ B) : ∀ k, k ≤ n → (colsT name col k).size ≤ (k + 1) * (B + 12)
  | 0, _ => by
    have e1 : (⟨#[116, 97, 98, 108, 101, 32]⟩ : ByteArray).size = 6 := rfl
    have e2 : (⟨#[32, 123, 32]⟩ : ByteArray).size = 3 := rfl
    rw [colsT]
    simp only [ByteArray.size_append]
    omega
  | k + 1, hk => by
    have ih := colsT_size hn h k (by omega)
    have h1 := h k (by omega)
    have e1 : (⟨#[32]⟩ : ByteArray).size = 1 := rfl
    have e2 : (⟨#[32, 110, 117, 108, 108]⟩ : ByteArray).size = 5 := rfl
    have e3 : (⟨#[59, 32]⟩ : ByteArray).size = 2 := rfl
    have e4 := typeW_size (col k).type
    have h3 : (k + 1 + 1) * (B + 12) = (k + 1) * (B + 12) + (B + 12) := by rw [Nat.add_mul (k + 1)]; omega
    rw [colsT]
    split <;> simp only [ByteArray.size_append] <;> omega
theorem partsE_size {col : Nat → PCol} {f : Nat → PBy} {n B : Nat} (h : ∀ i, i < n → (col (f i).col.toNat).name.size ≤ B) (hn : n ≤ 2) : (partsE col n f).size ≤ 2 * B + 16 := by
  have h1 := partsT_size h n (Nat.le_refl _)
  have h2 : n * (B + 7) ≤ 2 * (B + 7) := Nat.mul_le_mul_right _ hn
  have e3 : (⟨#[59, 32]⟩ : ByteArray).size = 2 := rfl
  unfold partsE
  rw [ByteArray.size_append]
  omega
theorem idxT_size {D : PDef} {B : Nat} (hn : D.name.size ≤ B) (hc : ∀ i, i < D.nc → (D.col i).name.size ≤ B) (hnc : D.nc ≤ 6) (hp : (partsE D.col D.np D.pri).size ≤ 2 * B + 16) (hi : ∀ i, i < D.ni → (D.idx i).name.size ≤ B ∧ (partsE D.col (D.idx i).n (D.idx i).part).size ≤ 2 * B + 16) :
    ∀ k, k ≤ D.ni → (idxT D k).size ≤ 9 * B + 108 + k * (3 * B + 24)
  | 0, _ => by
    have h1 := colsT_size hn hc D.nc (Nat.le_refl _)
    have h2 : (D.nc + 1) * (B + 12) ≤ 7 * (B + 12) := Nat.mul_le_mul_right _ (by omega)
    have e1 : (⟨#[112, 114, 105, 109, 97, 114, 121, 32]⟩ : ByteArray).size = 8 := rfl
    rw [idxT]
    simp only [ByteArray.size_append]
    omega
  | k + 1, hk => by
    have ih := idxT_size hn hc hnc hp hi k (by omega)
    obtain ⟨h1, h2⟩ := hi k (by omega)
    have e1 : (⟨#[32]⟩ : ByteArray).size = 1 := rfl
    have e2 : (⟨#[117, 110, 105, 113, 117, 101, 32]⟩ : ByteArray).size = 7 := rfl
    have e3 : (⟨#[105, 110, 100, 101, 120, 32]⟩ : ByteArray).size = 6 := rfl
    have h3 : (k + 1) * (3 * B + 24) = k * (3 * B + 24) + (3 * B + 24) := by rw [Nat.add_mul]; omega
    rw [idxT]
    split <;> simp only [ByteArray.size_append] <;> omega
end Go.Proofs.YtmibpdnlphdoaaaGreatDoor

/-
  The program's colText, partsText, indexText.
-/
namespace Go.Proofs.YtmibpdnlphdoaaaGreatDoor
open Go.RowKit
set_option maxRecDepth 4000

/-- The program's table of the types' words. -/
def TyN (w : World) : Prop := ∀ i : Nat, i < 5 → w.cell? ⟨1, i, none⟩ = some (.string (typeW i))
theorem TyN.lt {w : World} (h : TyN w) : 1 < w.heap.size := World.block_lt_of_cell? _ _ (h 0 (by decide))
theorem TyN.below {w w' : World} (h : TyN w) (hb : Below w.heap.size w w') : TyN w' := fun i hi => (hb.cell (p := ⟨1, i, none⟩) h.lt).trans (h i hi)

/-- A column's text. -/
def colT (s : ByteArray) (t : Int) (nul : Bool) : ByteArray :=
  (if nul then s ++ (⟨#[32]⟩ : ByteArray) ++ typeW t ++ (⟨#[32, 110, 117, 108, 108]⟩ : ByteArray) else s ++ (⟨#[32]⟩ : ByteArray) ++ typeW t) ++ (⟨#[59, 32]⟩ : ByteArray)
theorem colsT_colT (name : ByteArray) (col : Nat → PCol) (k : Nat) : colsT name col (k + 1) = colsT name col k ++ colT (col k).name (col k).type (col k).null := by
  rw [colsT]
  unfold colT
  cases (col k).null <;> simp only [if_true, if_false, Bool.false_eq_true, ByteArray.append_assoc]

set_option maxHeartbeats 2000000 in
theorem colText_any (s : ByteArray) (t : Int) (nul : Bool) (w : World) (h1 : 1 ≤ t) (h4 : t ≤ 4) (hs : s.size ≤ 1048576) (hT : TyN w) :
    Calls Tryz.prog 62 #[.agg #[.string s, .int .i64 t, .bool nul]] w fun e w' => e = .returned (.string (colT s t nul)) ∧ Below w.heap.size w w' := by
  obtain ⟨m, rfl⟩ := Int.eq_ofNat_of_zero_le (show 0 ≤ t by omega)
  have hm5 : m < 5 := by omega
  have hc := hT m hm5
  have hlt := hT.lt
  have HN : Hid (colT s m nul = (if nul then s ++ (⟨#[32]⟩ : ByteArray) ++ typeW m ++ (⟨#[32, 110, 117, 108, 108]⟩ : ByteArray) else s ++ (⟨#[32]⟩ : ByteArray) ++ typeW m) ++ (⟨#[59, 32]⟩ : ByteArray)) := rfl
  have htz := typeW_size m
  obtain ⟨ty, hty⟩ : ∃ s, Hid (typeW (m : Int) = s) := ⟨_, rfl⟩
  rw [hty.out] at HN htz hc
  have hb0 : Below w.heap.size w (w.alloc (.cells #[.string s, .int .i64 (m : Int), .bool nul] 67)) := (Below.refl _ _).alloc (Nat.le_refl _) _
  have hc' : (w.alloc (.cells #[.string s, .int .i64 (m : Int), .bool nul] 67)).cell? ⟨1, m, none⟩ = some (.string ty) := (hb0.cell (p := ⟨1, m, none⟩) hlt).trans hc
  have HB : Hid (Below w.heap.size w (w.alloc (.cells #[.string s, .int .i64 (m : Int), .bool nul] 67))) := hb0
  have e1 : (⟨#[32]⟩ : ByteArray).size = 1 := rfl
  have e2 : (⟨#[32, 110, 117, 108, 108]⟩ : ByteArray).size = 5 := rfl
  have e3 : (⟨#[59, 32]⟩ : ByteArray).size = 2 := rfl
  have s1 : ¬ (s.size + 1 > 9223372036854775807) := by omega
  have s2 : (s ++ (⟨#[32]⟩ : ByteArray)).size = s.size + 1 := by rw [ByteArray.size_append]; rfl
  have s3 : ¬ (s.size + 1 + ty.size > 9223372036854775807) := by omega
  have s4 : (s ++ (⟨#[32]⟩ : ByteArray) ++ ty).size = s.size + 1 + ty.size := by rw [ByteArray.size_append, s2]
  have s5 : ¬ (s.size + 1 + ty.size + 5 > 9223372036854775807) := by omega
  have s6 : (s ++ (⟨#[32]⟩ : ByteArray) ++ ty ++ (⟨#[32, 110, 117, 108, 108]⟩ : ByteArray)).size = s.size + 1 + ty.size + 5 := by rw [ByteArray.size_append, s4]; rfl
  have s7 : ¬ (s.size + 1 + ty.size + 5 + 2 > 9223372036854775807) := by omega
  have s8 : ¬ (s.size + 1 + ty.size + 2 > 9223372036854775807) := by omega
  have hmz : (m : Int) < 5 := by omega
  clear hT hc hlt hb0 h1 h4
  go_enter Tryz.func62, Tryz.ntmps62
  go_wp2_with fail
  go_quiet (fail)
  cases nul with
  | true =>
    have HN' : Hid (colT s m true = s ++ (⟨#[32]⟩ : ByteArray) ++ ty ++ (⟨#[32, 110, 117, 108, 108]⟩ : ByteArray) ++ (⟨#[59, 32]⟩ : ByteArray)) := HN.out
    clear HN
    go_wp2
    go_ret
    exact ⟨by rw [HN'.out]; rfl, HB.out.trans ⟨rfl, rfl, rfl, Nat.le_refl _, fun _ _ => rfl⟩⟩
  | false =>
    have HN' : Hid (colT s m false = s ++ (⟨#[32]⟩ : ByteArray) ++ ty ++ (⟨#[59, 32]⟩ : ByteArray)) := HN.out
    clear HN
    go_wp2
    go_ret
    exact ⟨by rw [HN'.out]; rfl, HB.out.trans ⟨rfl, rfl, rfl, Nat.le_refl _, fun _ _ => rfl⟩⟩

/-- A part's text. -/
def partT (col : Nat → PCol) (f : Nat → PBy) (k : Nat) : ByteArray := if (f k).desc then (col (f k).col.toNat).name ++ (⟨#[32, 100, 101, 115, 99]⟩ : ByteArray) else (col (f k).col.toNat).name
theorem partsE_join (col : Nat → PCol) (n : Nat) (f : Nat → PBy) (h1 : 1 ≤ n) (h2 : n ≤ 2) :
    partsE col n f = (⟨(Lib.join (((List.range n).map (partT col f)).map (·.data.toList)) (⟨#[44, 32]⟩ : ByteArray).data.toList).toArray⟩ : ByteArray) ++ (⟨#[59, 32]⟩ : ByteArray) := by
  unfold partsE
  congr 1
  have key : ∀ a : ByteArray, (⟨a.data.toList.toArray⟩ : ByteArray) = a := fun a => by simp
  have hn : n = 1 ∨ n = 2 := by omega
  rcases hn with rfl | rfl
  · show _ = (⟨(Lib.join [(partT col f 0).data.toList] _).toArray⟩ : ByteArray)
    rw [Lib.join_one, key]
    apply ByteArray.ext
    apply Array.ext'
    unfold partT
    cases e0 : (f 0).desc <;> simp [partsT, e0]
  · show _ = (⟨(Lib.join [(partT col f 0).data.toList, (partT col f 1).data.toList] _).toArray⟩ : ByteArray)
    apply ByteArray.ext
    apply Array.ext'
    unfold partT
    cases e0 : (f 0).desc <;> cases e1 : (f 1).desc <;> simp [partsT, e0, e1, Lib.join, List.intercalate]
end Go.Proofs.YtmibpdnlphdoaaaGreatDoor

/-
  What the laid variables hold: the library's error type, the program's words of the types.
-/
namespace Go.Proofs.YtmibpdnlphdoaaaGreatDoor
open Go.RowKit
set_option maxRecDepth 4000

theorem et_named : Tryz.prog.globalNamed "errors.errorType" = some 2 := by kernel_rfl
theorem et_rtype : (Tryz.prog.cutTypes.find? (·.1 == "internal/reflectlite.rtype")).map (·.2) = some 176 := by kernel_rfl
theorem et_one : ((List.range 262).filter fun t => Tryz.prog.rowNamed t [101, 114, 114, 111, 114]) = [56] := by kernel_rfl
theorem et_size : Tryz.prog.types.size = 262 := by kernel_rfl
theorem errT_of {W : World} (h : handlesMet Tryz.prog [("errors.errorType", Rows.laid_errors_errorType)] W) : ErrT W := by
  obtain ⟨name, u, ty, e1, e2, e3, e4, e5⟩ := h _ (List.mem_singleton.2 rfl)
  have en : name = [101, 114, 114, 111, 114] := (Option.some.inj e1).symm
  subst en
  obtain rfl := Option.some.inj (et_rtype.symm.trans e2)
  have hm : ty ∈ (List.range 262).filter fun t => Tryz.prog.rowNamed t [101, 114, 114, 111, 114] := List.mem_filter.2 ⟨List.mem_range.2 (by rw [← et_size]; exact e3), e4⟩
  rw [et_one] at hm
  obtain rfl := List.mem_singleton.1 hm
  have hh : typeHandle Tryz.prog 56 = hdl 56 := by kernel_rfl
  rw [hh] at e5
  have := World.var?_cell et_named e5 0
  unfold ErrT
  simpa using this

/-- An array of texts that reads as a list holds these texts, cell for cell. -/
theorem cells_of_strs {H : Type} {enc : TypeId × Value → H} {P : Program} {w : World} {base : Nat} {sp : Nat → Bool} {held : Bool} {fuel : Nat} {t e : TypeId} {n : Nat} {cs : List Value} {zs : List (List UInt8)} {p : List MemPlace}
    (ht : P.underlying t = some (.array n e)) (he : P.underlying e = some .string) (hce : P.cellsOf e = 1) (hct : P.cellsOf t = n)
    (h : DataW.trod enc P w base sp held fuel t cs = some (.agg (zs.map fun z => .lit (.string z)), p)) : cs = zs.map fun z => Value.string ⟨z.toArray⟩ := by
  cases fuel with
  | zero => simp [DataW.trod] at h
  | succ fuel =>
    simp only [DataW.trod, ht, hce, hct, Nat.mul_one] at h
    split at h
    · rename_i hl
      obtain ⟨xs, hm, hx⟩ := Option.map_eq_some_iff.1 h
      have hxs : xs.map (·.1) = zs.map fun z => (DataW.lit (.string z) : DataW H) := by
        have := congrArg Prod.fst hx
        simpa using this
      have hxl : xs.length = n := by simpa using Lib.mapM_length hm
      have hzl : zs.length = n := by
        have := congrArg List.length hxs
        simp at this
        omega
      apply List.ext_getElem?
      intro i
      by_cases hi : i < n
      · obtain ⟨b, hb, hf⟩ := Lib.mapM_at hm i i (by simp [hi])
        obtain ⟨s, hc, rfl, _⟩ := DataW.trod_string he hf
        have h1 : cs[i]? = some (.string s) := by
          have := congrArg (·[0]?) hc
          simpa [List.getElem?_take, List.getElem?_drop] using this
        have h2 : (xs.map (·.1))[i]? = some (DataW.lit (.string s.data.toList) : DataW H) := by simp [hb]
        rw [hxs] at h2
        simp only [List.getElem?_map, Option.map_eq_some_iff, DataW.lit.injEq, Lit.string.injEq] at h2
        obtain ⟨z', hz', rfl⟩ := h2
        simp [h1, hz']
      · rw [List.getElem?_eq_none (by omega), List.getElem?_eq_none (by simp; omega)]
    · cases h

def tyL : List (List UInt8) := [[], [105, 110, 116], [110, 117, 109], [116, 101, 120, 116], [98, 111, 111, 108]]
theorem ty_named : Tryz.prog.globalNamed "loop.example/g00322/impl.typeNames" = some 1 := by kernel_rfl
theorem tyN_of {W : World} {r : List (String × DataW Unit)} (h : laidMet Tryz.prog (("loop.example/g00322/impl.typeNames", Rows.laid_loop_example_g00322_impl_typeNames) :: r) W) : TyN W := by
  obtain ⟨ps, ⟨g', t', cs, fuel, p, q, hg', ht', hvar, hd, _, _⟩, _⟩ := h
  obtain rfl := Option.some.inj (ty_named.symm.trans hg')
  have hty : (Tryz.prog.globals[1]?).map (·.type) = some 134 := by kernel_rfl
  obtain rfl := Option.some.inj (hty.symm.trans ht')
  have hc := cells_of_strs (zs := tyL) Tryz.underlying134 Tryz.underlying9 (by kernel_rfl) (by kernel_rfl) hd
  intro i hi
  have h1 := World.var?_cell ty_named hvar i
  rw [h1, ← Array.getElem?_toList, hc]
  match i, hi with
  | 0, _ => rfl
  | 1, _ => rfl
  | 2, _ => rfl
  | 3, _ => rfl
  | 4, _ => rfl
end Go.Proofs.YtmibpdnlphdoaaaGreatDoor

