/-
  Together: IPlain, IPart
-/
import Derived.Test.YtnpfgamlncfikaaGreatDoorPackF11
import Derived.Test.YtnpfgamlncfikaaGreatDoorPackF15
import Derived.Test.YtnpfgamlncfikaaGreatDoorPackF16
/-
  The program's loops over tokens, plainly.
-/
namespace Go.Proofs.YtnpfgamlncfikaaGreatDoor
open Go.RowKit
set_option maxRecDepth 4000

theorem nextI_len {l r : List Tok} {n : ByteArray} (h : nextI l = some (n, r)) : r.length < l.length := by
  cases l with
  | nil => cases h
  | cons t l => simp only [nextI, Option.some.injEq, Prod.mk.injEq] at h; rw [← h.2, List.length_cons]; omega
theorem partI_len {cs : List PCol} {l r : List Tok} {x : PBy} (h : partI cs l = some (x, r)) : r.length < l.length := by
  unfold partI at h
  simp only [Option.bind_eq_bind, Option.bind_eq_some_iff, Prod.exists, Option.pure_def, Option.some.injEq, Prod.mk.injEq] at h
  obtain ⟨n, l1, a1, k, a2, -, rfl⟩ := h
  have := nextI_len a1
  have := isR_len kDesc l1
  omega
theorem tail_end {cs : List PCol} {q : Nat} {l : List Tok} (h : (isR ⟨#[59]⟩ l).1 = true) : tailI cs q l = some ([], (isR ⟨#[59]⟩ l).2) := by
  cases q <;> (rw [tailI, if_pos h])
theorem tail_no1 {cs : List PCol} {q : Nat} {l : List Tok} (h : (isR ⟨#[59]⟩ l).1 = false) (h2 : mustR ⟨#[44]⟩ l = none) : tailI cs q l = none := by
  cases q with
  | zero => rw [tailI, if_neg (by rw [h]; simp)]
  | succ q => rw [tailI, if_neg (by rw [h]; simp), h2]; rfl
theorem tail_no2 {cs : List PCol} {q : Nat} {l l2 : List Tok} (h : (isR ⟨#[59]⟩ l).1 = false) (h2 : mustR ⟨#[44]⟩ l = some l2) (h3 : partI cs l2 = none) : tailI cs q l = none := by
  cases q with
  | zero => rw [tailI, if_neg (by rw [h]; simp)]
  | succ q => rw [tailI, if_neg (by rw [h]; simp), h2]; simp only [Option.bind_eq_bind, Option.bind_some]; rw [h3]; rfl
theorem tail_step {cs : List PCol} {q : Nat} {l l2 l3 : List Tok} {x : PBy} (hq : l.length ≤ q) (h : (isR ⟨#[59]⟩ l).1 = false) (h2 : mustR ⟨#[44]⟩ l = some l2) (h3 : partI cs l2 = some (x, l3)) : ∃ q', l3.length ≤ q' ∧ tailI cs q l = (tailI cs q' l3).map (fun y => (x :: y.1, y.2)) := by
  have a1 := mustR_len h2
  have a2 := partI_len h3
  obtain ⟨q', rfl⟩ : ∃ q', q = q' + 1 := ⟨q - 1, by omega⟩
  refine ⟨q', by omega, ?_⟩
  rw [tailI, if_neg (by rw [h]; simp), h2]
  simp only [Option.bind_eq_bind, Option.bind_some]
  rw [h3]
  simp only [Option.bind_some]
  cases tailI cs q' l3 with
  | none => rfl
  | some y => rfl
/-- What parts come to, from a round of the loop on. -/
def InvT (cs : List PCol) (T : Option (List PBy × List Tok)) (acc : List PBy) (l : List Tok) : Prop := ∃ q, l.length ≤ q ∧ T = (tailI cs q l).map (fun y => (acc ++ y.1, y.2))
theorem invT_end {cs : List PCol} {T : Option (List PBy × List Tok)} {acc : List PBy} {l : List Tok} (h : InvT cs T acc l) (he : (isR ⟨#[59]⟩ l).1 = true) : T = some (acc, (isR ⟨#[59]⟩ l).2) := by
  obtain ⟨q, -, e⟩ := h
  rw [e, tail_end he]; simp
theorem invT_no1 {cs : List PCol} {T : Option (List PBy × List Tok)} {acc : List PBy} {l : List Tok} (h : InvT cs T acc l) (he : (isR ⟨#[59]⟩ l).1 = false) (h2 : mustR ⟨#[44]⟩ l = none) : T = none := by
  obtain ⟨q, -, e⟩ := h
  rw [e, tail_no1 he h2]; rfl
theorem invT_no2 {cs : List PCol} {T : Option (List PBy × List Tok)} {acc : List PBy} {l l2 : List Tok} (h : InvT cs T acc l) (he : (isR ⟨#[59]⟩ l).1 = false) (h2 : mustR ⟨#[44]⟩ l = some l2) (h3 : partI cs l2 = none) : T = none := by
  obtain ⟨q, -, e⟩ := h
  rw [e, tail_no2 he h2 h3]; rfl
theorem invT_step {cs : List PCol} {T : Option (List PBy × List Tok)} {acc : List PBy} {l l2 l3 : List Tok} {x : PBy} (h : InvT cs T acc l) (he : (isR ⟨#[59]⟩ l).1 = false) (h2 : mustR ⟨#[44]⟩ l = some l2) (h3 : partI cs l2 = some (x, l3)) : InvT cs T (acc ++ [x]) l3 ∧ l3.length < l.length := by
  obtain ⟨q, hq, e⟩ := h
  obtain ⟨q', hq', e'⟩ := tail_step hq he h2 h3
  refine ⟨⟨q', hq', ?_⟩, by have := mustR_len h2; have := partI_len h3; omega⟩
  rw [e, e']
  cases tailI cs q' l3 with
  | none => rfl
  | some y => simp
theorem invT_start {cs : List PCol} {l l1 : List Tok} {x : PBy} (h : partI cs l = some (x, l1)) : InvT cs (partsI cs (l.length + 1) l) [x] l1 := by
  refine ⟨l.length, Nat.le_of_lt (partI_len h), ?_⟩
  rw [partsI, h]
  simp only [Option.bind_eq_bind, Option.bind_some]
  cases tailI cs l.length l1 with
  | none => rfl
  | some y => rfl
theorem parts_no {cs : List PCol} {l : List Tok} (h : partI cs l = none) : partsI cs (l.length + 1) l = none := by rw [partsI, h]; rfl
theorem colI_len {l r : List Tok} {c : PCol} (h : colI l = some (c, r)) : r.length < l.length := by
  unfold colI at h
  simp only [Option.bind_eq_bind, Option.bind_eq_some_iff, Prod.exists, Option.pure_def, Option.some.injEq, Prod.mk.injEq] at h
  obtain ⟨n, l1, a1, x, l2, a2, t, a3, l4, a4, -, rfl⟩ := h
  have := nextI_len a1
  have := nextI_len a2
  have := isR_len kNull l2
  have := mustR_len a4
  omega
/-- What columns come to, from a round of the loop on. -/
def InvCI (T : Option (List PCol × List Tok)) (acc : List PCol) (l : List Tok) : Prop := ∃ q, l.length < q ∧ T = (colsI q l).map (fun y => (acc ++ y.1, y.2))
theorem invCI_start (l : List Tok) : InvCI (colsI (l.length + 1) l) [] l := by
  refine ⟨l.length + 1, Nat.lt_succ_self _, ?_⟩
  cases colsI (l.length + 1) l with
  | none => rfl
  | some y => rfl
theorem invCI_end {T : Option (List PCol × List Tok)} {acc : List PCol} {l : List Tok} (h : InvCI T acc l) (he : (isR kPrimary l).1 = true) : T = some (acc, (isR kPrimary l).2) := by
  obtain ⟨q, hq, e⟩ := h
  obtain ⟨q', rfl⟩ : ∃ q', q = q' + 1 := ⟨q - 1, by omega⟩
  rw [e, colsI, if_pos he]; simp
theorem invCI_no {T : Option (List PCol × List Tok)} {acc : List PCol} {l : List Tok} (h : InvCI T acc l) (he : (isR kPrimary l).1 = false) (h2 : colI l = none) : T = none := by
  obtain ⟨q, hq, e⟩ := h
  obtain ⟨q', rfl⟩ : ∃ q', q = q' + 1 := ⟨q - 1, by omega⟩
  rw [e, colsI, if_neg (by rw [he]; simp), h2]; rfl
theorem invCI_step {T : Option (List PCol × List Tok)} {acc : List PCol} {l r : List Tok} {c : PCol} (h : InvCI T acc l) (he : (isR kPrimary l).1 = false) (h2 : colI l = some (c, r)) : InvCI T (acc ++ [c]) r ∧ r.length < l.length := by
  obtain ⟨q, hq, e⟩ := h
  have a := colI_len h2
  obtain ⟨q', rfl⟩ : ∃ q', q = q' + 1 := ⟨q - 1, by omega⟩
  refine ⟨⟨q', by omega, ?_⟩, a⟩
  rw [e, colsI, if_neg (by rw [he]; simp), h2]
  simp only [Option.bind_eq_bind, Option.bind_some]
  cases colsI q' r with
  | none => rfl
  | some y => simp
theorem partsI_len {cs : List PCol} {q : Nat} {l r : List Tok} {ps : List PBy} (h : partsI cs q l = some (ps, r)) : r.length < l.length := by
  have key : ∀ (q : Nat) (l r : List Tok) (ps : List PBy), tailI cs q l = some (ps, r) → r.length ≤ l.length := by
    intro q
    induction q with
    | zero =>
      intro l r ps h
      rw [tailI] at h
      split at h
      · simp only [Option.some.injEq, Prod.mk.injEq] at h; rw [← h.2]; exact isR_len _ _
      · cases h
    | succ q ih =>
      intro l r ps h
      rw [tailI] at h
      split at h
      · simp only [Option.some.injEq, Prod.mk.injEq] at h; rw [← h.2]; exact isR_len _ _
      · simp only [Option.bind_eq_bind, Option.bind_eq_some_iff, Prod.exists, Option.pure_def, Option.some.injEq, Prod.mk.injEq] at h
        obtain ⟨l2, a1, x, l3, a2, rs, l4, a3, -, rfl⟩ := h
        have := mustR_len a1
        have := partI_len a2
        have := ih _ _ _ a3
        omega
  cases q with
  | zero => simp [partsI] at h
  | succ q =>
    rw [partsI] at h
    simp only [Option.bind_eq_bind, Option.bind_eq_some_iff, Prod.exists, Option.pure_def, Option.some.injEq, Prod.mk.injEq] at h
    obtain ⟨x, l1, a1, rs, l2, a2, -, rfl⟩ := h
    have := partI_len a1
    have := key _ _ _ _ a2
    omega
theorem idxI_len {cs : List PCol} {l r : List Tok} {x : ByteArray × Bool × List PBy} (h : idxI cs l = some (x, r)) : r.length < l.length := by
  unfold idxI at h
  simp only [Option.bind_eq_bind, Option.bind_eq_some_iff, Prod.exists, Option.pure_def, Option.some.injEq, Prod.mk.injEq] at h
  obtain ⟨l2, a1, n, l3, a2, p, l4, a3, -, rfl⟩ := h
  have b1 := isR_len kUnique l
  have b2 := nextI_len a2
  have b3 := partsI_len a3
  have b4 : l2.length ≤ (isR kUnique l).2.length := by
    unfold idxW at a1
    split at a1
    · cases a1; exact Nat.le_refl _
    · exact Nat.le_of_lt (mustR_len a1)
  omega
def InvII (cs : List PCol) (T : Option (List (ByteArray × Bool × List PBy) × List Tok)) (acc : List (ByteArray × Bool × List PBy)) (l : List Tok) : Prop := ∃ q, l.length < q ∧ T = (idxsI cs q l).map (fun y => (acc ++ y.1, y.2))
theorem invII_start (cs : List PCol) (l : List Tok) : InvII cs (idxsI cs (l.length + 1) l) [] l := by
  refine ⟨l.length + 1, Nat.lt_succ_self _, ?_⟩
  cases idxsI cs (l.length + 1) l with
  | none => rfl
  | some y => rfl
theorem invII_end {cs : List PCol} {T : Option (List (ByteArray × Bool × List PBy) × List Tok)} {acc : List (ByteArray × Bool × List PBy)} {l : List Tok} (h : InvII cs T acc l) (he : (isR ⟨#[125]⟩ l).1 = true) : T = some (acc, (isR ⟨#[125]⟩ l).2) := by
  obtain ⟨q, hq, e⟩ := h
  obtain ⟨q', rfl⟩ : ∃ q', q = q' + 1 := ⟨q - 1, by omega⟩
  rw [e, idxsI, if_pos he]; simp
theorem invII_no {cs : List PCol} {T : Option (List (ByteArray × Bool × List PBy) × List Tok)} {acc : List (ByteArray × Bool × List PBy)} {l : List Tok} (h : InvII cs T acc l) (he : (isR ⟨#[125]⟩ l).1 = false) (h2 : idxI cs l = none) : T = none := by
  obtain ⟨q, hq, e⟩ := h
  obtain ⟨q', rfl⟩ : ∃ q', q = q' + 1 := ⟨q - 1, by omega⟩
  rw [e, idxsI, if_neg (by rw [he]; simp), h2]; rfl
theorem invII_step {cs : List PCol} {T : Option (List (ByteArray × Bool × List PBy) × List Tok)} {acc : List (ByteArray × Bool × List PBy)} {l r : List Tok} {x : ByteArray × Bool × List PBy} (h : InvII cs T acc l) (he : (isR ⟨#[125]⟩ l).1 = false) (h2 : idxI cs l = some (x, r)) : InvII cs T (acc ++ [x]) r ∧ r.length < l.length := by
  obtain ⟨q, hq, e⟩ := h
  have a := idxI_len h2
  obtain ⟨q', rfl⟩ : ∃ q', q = q' + 1 := ⟨q - 1, by omega⟩
  refine ⟨⟨q', by omega, ?_⟩, a⟩
  rw [e, idxsI, if_neg (by rw [he]; simp), h2]
  simp only [Option.bind_eq_bind, Option.bind_some]
  cases idxsI cs q' r with
  | none => rfl
  | some y => simp
theorem defI_len {l r : List Tok} {D : PDef} (h : defI l = some (D, r)) : r.length < l.length := by
  unfold defI at h
  simp only [Option.bind_eq_bind, Option.bind_eq_some_iff, Prod.exists, Option.pure_def, Option.some.injEq, Prod.mk.injEq] at h
  obtain ⟨l1, h1, n, l2, h2, l3, h3, c, l4, h4, p, l5, h5, x, l6, h6, -, rfl⟩ := h
  have a1 := mustR_len h1
  have a2 := nextI_len h2
  have a3 := mustR_len h3
  have a5 := partsI_len h5
  have a4 : l4.length ≤ l3.length := by
    have key : ∀ (q : Nat) (l r : List Tok) (cs : List PCol), colsI q l = some (cs, r) → r.length ≤ l.length := by
      intro q
      induction q with
      | zero => intro l r cs h; simp [colsI] at h
      | succ q ih =>
        intro l r cs h
        rw [colsI] at h
        split at h
        · simp only [Option.some.injEq, Prod.mk.injEq] at h
          rw [← h.2]; exact isR_len _ _
        · simp only [Option.bind_eq_bind, Option.bind_eq_some_iff, Prod.exists, Option.pure_def, Option.some.injEq, Prod.mk.injEq] at h
          obtain ⟨c, l1, b1, rs, l2, b2, -, rfl⟩ := h
          have := colI_len b1
          have := ih _ _ _ b2
          omega
    exact key _ _ _ _ h4
  have a6 : l6.length ≤ l5.length := by
    have key : ∀ (q : Nat) (l r : List Tok) (xs : List (ByteArray × Bool × List PBy)), idxsI c q l = some (xs, r) → r.length ≤ l.length := by
      intro q
      induction q with
      | zero => intro l r cs h; simp [idxsI] at h
      | succ q ih =>
        intro l r cs h
        rw [idxsI] at h
        split at h
        · simp only [Option.some.injEq, Prod.mk.injEq] at h
          rw [← h.2]; exact isR_len _ _
        · simp only [Option.bind_eq_bind, Option.bind_eq_some_iff, Option.pure_def, Option.some.injEq] at h
          obtain ⟨⟨x', l4'⟩, b1, ⟨rs, l5'⟩, b2, e⟩ := h
          cases e
          have c1 : l4'.length < l.length := idxI_len b1
          have c2 : l5'.length ≤ l4'.length := ih _ _ _ b2
          show l5'.length ≤ l.length
          omega
    exact key _ _ _ _ h6
  omega
def InvDI (T : Option (List PDef)) (acc : List PDef) (l : List Tok) : Prop := ∃ q, l.length < q ∧ T = (defsI q l).map (fun y => acc ++ y)
theorem invDI_start (l : List Tok) : InvDI (defsI (l.length + 1) l) [] l := by
  refine ⟨l.length + 1, Nat.lt_succ_self _, ?_⟩
  cases defsI (l.length + 1) l with
  | none => rfl
  | some y => rfl
theorem invDI_end {T : Option (List PDef)} {acc : List PDef} (h : InvDI T acc []) : T = some acc := by
  obtain ⟨q, hq, e⟩ := h
  rw [e]
  cases q <;> simp [defsI]
theorem invDI_no {T : Option (List PDef)} {acc : List PDef} {t : Tok} {l : List Tok} (h : InvDI T acc (t :: l)) (h2 : defI (t :: l) = none) : T = none := by
  obtain ⟨q, hq, e⟩ := h
  obtain ⟨q', rfl⟩ : ∃ q', q = q' + 1 := ⟨q - 1, by omega⟩
  rw [e, defsI, h2]; rfl
theorem invDI_step {T : Option (List PDef)} {acc : List PDef} {t : Tok} {l r : List Tok} {D : PDef} (h : InvDI T acc (t :: l)) (h2 : defI (t :: l) = some (D, r)) : InvDI T (acc ++ [D]) r ∧ r.length < (t :: l).length := by
  obtain ⟨q, hq, e⟩ := h
  have a := defI_len h2
  obtain ⟨q', rfl⟩ : ∃ q', q = q' + 1 := ⟨q - 1, by omega⟩
  refine ⟨⟨q', by omega, ?_⟩, a⟩
  rw [e, defsI, h2]
  simp only [Option.bind_eq_bind, Option.bind_some]
  cases defsI q' r with
  | none => rfl
  | some y => simp
end Go.Proofs.YtnpfgamlncfikaaGreatDoor

/-
  The program's part, col, walked.
-/
namespace Go.Proofs.YtnpfgamlncfikaaGreatDoor
open Go.RowKit
set_option maxRecDepth 4000

set_option maxHeartbeats 4000000 in
theorem part_any {g : Nat} {S : Src} {l : List Tok} {w : World} (h : IR g S l w) (hu : ErrU w) (hge : 0 < g) (a : Option Addr) (cap : Nat) (cs : List PCol) (hn : cs.length ≤ 1000) (hC : ∀ W, But g w W → CView W a cs.length cap (mkCol cs)) :
    Calls Tryz.prog 150 #[.pointer (some ⟨g, 0, none⟩), .slice a cs.length cap] w fun e w' => But g w w' ∧ ((∃ x r, partI cs l = some (x, r) ∧ e = .returned (.agg #[.int .i64 x.col, .bool x.desc]) ∧ IR g S r w') ∨ (partI cs l = none ∧ Gave e)) := by
  have hg := h.glt
  have ht := h.lt
  have B0 : But g w (w.alloc (.cells #[.int .i64 0, .bool false] 70)) := (But.refl _ _).new _
  have hN := next_any (h.new (.cells #[.int .i64 0, .bool false] 70)) (hu.but B0 hge)
  have R0 := (by simpa using World.rowIs_alloc w #[.int .i64 0, .bool false] 70 (fun j => if j = 0 then .int .i64 0 else .bool false) (fun j hj => by match j, hj with | 0, _ => rfl | 1, _ => rfl) : (w.alloc (.cells #[.int .i64 0, .bool false] 70)).rowIs w.heap.size 70 2 (fun j => if j = 0 then .int .i64 0 else .bool false))
  have HP : Hid (partI cs l = (nextI l).bind (fun y => (placeI cs y.1).bind (fun k => some (⟨k, (isR kDesc y.2).1⟩, (isR kDesc y.2).2)))) := rfl
  obtain ⟨T, hT⟩ : ∃ x, Hid (partI cs l = x) := ⟨_, rfl⟩
  rw [hT.out] at HP ⊢
  obtain ⟨N, hNN⟩ : ∃ x, Hid (cs.length = x) := ⟨_, rfl⟩
  have HC : Hid (∀ W, But g w W → CView W a cs.length cap (mkCol cs)) := hC
  have HU : Hid (ErrU w) := hu
  rw [hNN.out]
  clear h hC hu hT
  go_enter Tryz.func150, Tryz.ntmps150
  go_wp2_with fail
  refine hN.mono ?_
  rintro e w1 ⟨b1, hres⟩
  have B1 := B0.trans b1
  rcases hres.symm with ⟨he, u, pv, rfl⟩ | ⟨n, r, he, rfl, M1⟩
  · have HR : Hid (T = none) := by show _ = _; rw [HP.out, he]; rfl
    have HB : Hid (But g w w1) := B1
    clear hN R0 B0 b1 B1 HP
    go_wp2
    exact ⟨rfl, HB.out, .inr ⟨HR.out, u, pv, rfl⟩⟩
  have R1 := R0.of_block (b1.block _ R0.lt (by omega))
  have hPl := placeOf_any a cap cs n w1 (HC.out w1 B1) (by omega) (HU.out.but B1 hge)
  rw [hNN.out] at hPl
  have HP1 : Hid (T = (placeI cs n).bind (fun k => some (⟨k, (isR kDesc r).1⟩, (isR kDesc r).2))) := by show _ = _; rw [HP.out, he]; rfl
  clear hN R0 B0 b1 HP he
  go_wp2_with fail
  refine hPl.mono ?_
  rintro e w2 ⟨b2, hres⟩
  have B2 := B1.trans (But.ofBelow b2)
  rcases hres.symm with ⟨he, u, pv, rfl⟩ | ⟨k, he, rfl⟩
  · have HR : Hid (T = none) := by show _ = _; rw [HP1.out, he]; rfl
    have HB : Hid (But g w w2) := B2
    clear hPl R1 B1 b2 B2 HP1
    go_wp2
    exact ⟨rfl, HB.out, .inr ⟨HR.out, u, pv, rfl⟩⟩
  have HP2 : Hid (T = some (⟨k, (isR kDesc r).1⟩, (isR kDesc r).2)) := by show _ = _; rw [HP1.out, he]; rfl
  have M2 := (M1.below b2).new (.cells #[.int .i64 k, .bool false] 70)
  have R2 := R1.of_block (b2.block _ R1.lt)
  have hPs := passes_any kDesc M2
  obtain ⟨⟨db, r2⟩, hdb⟩ : ∃ x, Hid (isR kDesc r = x) := ⟨_, rfl⟩
  simp only [hdb.out] at hPs HP2
  obtain ⟨X, hX⟩ : ∃ X, Hid (w2.heap.size = X) := ⟨_, rfl⟩
  have HX0 : Hid (w.heap.size < X) := by show _ < _; rw [← hX.out]; exact R2.lt
  have X3 := (by simpa using World.rowIs_alloc w2 #[.int .i64 k, .bool false] 70 (fun j => if j = 0 then .int .i64 k else .bool false) (fun j hj => by match j, hj with | 0, _ => rfl | 1, _ => rfl) : (w2.alloc (.cells #[.int .i64 k, .bool false] 70)).rowIs w2.heap.size 70 2 (fun j => if j = 0 then .int .i64 k else .bool false))
  have R3 := R2.of_block (((Below.refl w2.heap.size w2).alloc (Nat.le_refl _) (.cells #[.int .i64 k, .bool false] 70)).block _ R2.lt)
  have B3 := B2.new (.cells #[.int .i64 k, .bool false] 70)
  rw [hX.out] at X3
  have hXe : w2.heap.size = X := hX.out
  clear hPl R1 B1 b2 B2 HP1 M1 R2 M2 he
  go_wp2_with fail
  refine hPs.mono ?_
  rintro e w4 ⟨rfl, M4, b4⟩
  have hx0 := HX0.out
  have X4 := X3.of_block (b4.block _ X3.lt (by omega))
  have R4 := R3.of_block (b4.block _ R3.lt (by omega))
  have B4 := B3.trans b4
  have X5 := X4.set 1 (.bool db)
  have R5 := R4.of_block (Below.heap_setCell w4 ⟨X, 1, none⟩ (.bool db) w.heap.size (by show w.heap.size ≠ X; omega))
  have M5 := M4.own (B := X) (i := 1) (by omega) (by omega) (.bool db)
  have B5 := B4.own (B := X) (i := 1) (by omega) (.bool db)
  have x0 := X5.cell (i := 0) (by decide)
  have x1 := X5.cell (i := 1) (by decide)
  have y0 := R5.cell (i := 0) (by decide)
  have y1 := R5.cell (i := 1) (by decide)
  have q0 := R5.frozen 0
  have q1 := R5.frozen 1
  have z1 := X4.cell (i := 1) (by decide)
  have zf := X4.frozen 1
  simp only [if_true, Nat.one_ne_zero, if_false, Nat.zero_ne_one] at x0 x1 y0 y1 z1
  obtain ⟨W5, hW5⟩ : ∃ W5, Hid (w4.setCell ⟨X, 1, none⟩ (.bool db) = W5) := ⟨_, rfl⟩
  rw [hW5.out] at R5 M5 B5 x0 x1 y0 y1 q0 q1
  have R6 := (R5.set 0 (.int .i64 k)).set 1 (.bool db)
  have r0 := R6.cell (i := 0) (by decide)
  have r1 := R6.cell (i := 1) (by decide)
  simp only [if_true, Nat.one_ne_zero, if_false, Nat.zero_ne_one] at r0 r1
  have HF : Hid (But g w ((W5.setCell ⟨w.heap.size, 0, none⟩ (.int .i64 k)).setCell ⟨w.heap.size, 1, none⟩ (.bool db)) ∧ IR g S r2 ((W5.setCell ⟨w.heap.size, 0, none⟩ (.int .i64 k)).setCell ⟨w.heap.size, 1, none⟩ (.bool db))) :=
    ⟨(B5.own (Nat.le_refl _) _).own (Nat.le_refl _) _, (M5.own (by omega) (by omega) _).own (by omega) (by omega) _⟩
  clear hPs X3 R3 B3 M4 b4 X4 R4 B4 X5 R5 M5 B5 R6
  go_wp2_with (rw [hW5.out])
  refine bodyPost_ret (v := .agg #[.int .i64 k, .bool db]) (by simp [results, Tryz.results150, go_sem, r0, r1]) rfl ⟨HF.out.1, .inl ⟨⟨k, db⟩, r2, HP2.out, rfl, HF.out.2⟩⟩
end Go.Proofs.YtnpfgamlncfikaaGreatDoor

