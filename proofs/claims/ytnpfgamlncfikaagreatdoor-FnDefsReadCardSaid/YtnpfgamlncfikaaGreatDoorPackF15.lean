/-
  Together: HeldDefsW, DefsReadPlain, IRead, INext, GrowStr
-/
import Derived.Test.YtnpfgamlncfikaaGreatDoorPackF14
import Derived.Test.YtnpfgamlncfikaaGreatDoorPackF12
import Derived.Test.YtnpfgamlncfikaaGreatDoorPackF11
import Derived.Test.YtnpfgamlncfikaaGreatDoorPackF5
import Derived.WalkLawsBesides
import Derived.Tactics2
import Derived.Lib.AppendZeros
/-
  heldDefS, walked.
-/
namespace Go.Proofs.YtnpfgamlncfikaaGreatDoor
open Go.RowKit
set_option maxRecDepth 4000

/-- How few the parts of a table are that marking keeps to. -/
structure Few10 (D : PDef) : Prop where
  nc : D.nc ≤ 6
  np : D.np ≤ 2
  ni : D.ni ≤ 2
  n : ∀ j, j < D.ni → (D.idx j).n ≤ 2
theorem kDs_le2 {f : Nat → PDef} {k : Int} {n : Nat} (h : ∀ i, i < n → Few10 (f i)) : ∀ i, i ≤ n → k ≤ kDs f k i ∧ kDs f k i ≤ k + 5000 * i
  | 0, _ => by simp [kDs]
  | i + 1, hi => by
    have ih := kDs_le2 (k := k) h i (by omega)
    have g := h i (by omega)
    have := kD4_le (K := kDs f k i) g.nc g.np g.ni g.n
    rw [kDs]
    push_cast
    omega

set_option maxHeartbeats 8000000 in
theorem heldDefS_any (ao : Option Addr) (n cap : Nat) (f : Nat → PDef) (k : Int) (w : World) (hv : LView w ao n cap (fun i => mkdD (f i) (kDs f k i))) (hG : ∀ i, i < n → Few10 (f i)) (hn : n ≤ 3) (hk : 0 ≤ k) (hk1 : k ≤ 1000) :
    Calls Tryz.prog 21 #[.slice ao n cap, .int .i64 k] w fun e w' => e = .returned (.int .i64 (kDs f k n)) ∧ Below w.heap.size w w' := by
  go_enter Tryz.func21, Tryz.ntmps21
  go_wp2
  go_loopg [1, 5] n (fun g s i wr => ∃ j : Nat, j ≤ n ∧ g = n - j ∧ s = .int .i64 (kDs f k j) ∧ i = .int .i64 j ∧ Below w.heap.size w wr)
  case atStart => exact ⟨0, Nat.zero_le _, rfl, rfl, rfl, Below.refl _ _⟩
  case round =>
    obtain ⟨j, hj, rfl, rfl, rfl, hB⟩ := hrel
    by_cases hlt : j < n
    · obtain ⟨b, off, rfl, hb, hc⟩ := (hv.below hB).cells (by omega)
      have hjz : (j : Int) < (n : Int) := by omega
      have g := hG j hlt
      have hkj := kDs_le2 (k := k) hG j hj
      have HKN : Hid (kDs f k (j + 1) = kD4 (f j) (kDs f k j)) := rfl
      obtain ⟨x1, x2, x3, c0, c1, c2, c3, hD⟩ := hc j hlt
      obtain ⟨ac, cc, ap, cp, ai, ci, -, rfl, rfl, rfl, hvC, hvB, hvI⟩ := hD.parts
      have d0 : wr.cell? ⟨b, off + j * 4, none⟩ = some (.string (markT (kDs f k j))) := c0
      have d1 : wr.cell? ⟨b, off + j * 4 + 1, none⟩ = some (.slice ac (f j).nc cc) := c1
      have d2 : wr.cell? ⟨b, off + j * 4 + 2, none⟩ = some (.slice ap (f j).np cp) := c2
      have d3 : wr.cell? ⟨b, off + j * 4 + 3, none⟩ = some (.slice ai (f j).ni ci) := c3
      have hvC' : CView wr ac (f j).nc cc (mkdC (kDs f k j + 1)) := hvC
      have hvB' : BView wr ap (f j).np cp (mkdB (kDs f k j + 1 + 3 * (f j).nc)) := hvB
      have hvI' : IView wr ai (f j).ni ci (mkdI (f j).idx (kDs f k j + 1 + 3 * (f j).nc + 2 * (f j).np)) := hvI
      clear c0 c1 c2 c3 hvC hvB hvI hc hv hD
      obtain ⟨K, hK⟩ : ∃ x, Hid (kDs f k j = x) := ⟨_, rfl⟩
      rw [hK.out] at hkj HKN d0 hvC' hvB' hvI' ⊢
      have hle := kD4_le (K := K) g.nc g.np g.ni g.n
      have HKE : Hid (kD4 (f j) K = kI (f j).idx (K + 1 + 3 * (f j).nc + 2 * (f j).np) (f j).ni) := rfl
      have g1 := g.nc
      have g2 := g.np
      have g3 := g.ni
      have HIx : Hid (∀ W, Below wr.heap.size wr W → Calls Tryz.prog 56 #[.slice ai (f j).ni ci, .int .i64 (K + 1 + 3 * (f j).nc + 2 * (f j).np)] W fun e w' => e = .returned (.int .i64 (kI (f j).idx (K + 1 + 3 * (f j).nc + 2 * (f j).np) (f j).ni)) ∧ Below W.heap.size W w') := fun W hw => heldIndexS_any ai (f j).ni ci (f j).idx (K + 1 + 3 * (f j).nc + 2 * (f j).np) W (hvI'.below hw) (fun i hi => by have := g.n i hi; omega) (by omega) (by omega) (by omega)
      rw [HKE.out] at HKN hle
      clear hvI'
      obtain ⟨KE, hKE⟩ : ∃ x, Hid (kI (f j).idx (K + 1 + 3 * (f j).nc + 2 * (f j).np) (f j).ni = x) := ⟨_, rfl⟩
      rw [hKE.out] at HIx HKN hle
      clear HKE hKE
      obtain ⟨N1, hN1⟩ : ∃ x, Hid ((f j).nc = x) := ⟨_, rfl⟩
      obtain ⟨N2, hN2⟩ : ∃ x, Hid ((f j).np = x) := ⟨_, rfl⟩
      obtain ⟨N3, hN3⟩ : ∃ x, Hid ((f j).ni = x) := ⟨_, rfl⟩
      rw [hN1.out] at d1 hvC' hvB' HIx g1
      rw [hN2.out] at d2 hvB' HIx g2
      rw [hN3.out] at d3 HIx
      have hT := fun W => markText_any K W (by omega)
      obtain ⟨s, hs⟩ : ∃ s, Hid (markT K = s) := ⟨_, rfl⟩
      rw [hs.out] at d0
      simp only [hs.out] at hT
      have hq := bytes_eq (a := s) rfl
      have HCo : Hid (∀ W, Below wr.heap.size wr W → Calls Tryz.prog 54 #[.slice ac N1 cc, .int .i64 (K + 1)] W fun e w' => e = .returned (.int .i64 (K + 1 + 3 * N1)) ∧ Below W.heap.size W w') := fun W hw => heldColS_any ac N1 cc (K + 1) W (hvC'.below hw) (by omega) (by omega)
      have HBy : Hid (∀ W, Below wr.heap.size wr W → Calls Tryz.prog 55 #[.slice ap N2 cp, .int .i64 (K + 1 + 3 * N1)] W fun e w' => e = .returned (.int .i64 (K + 1 + 3 * N1 + 2 * N2)) ∧ Below W.heap.size W w') := fun W hw => heldByS_any ap N2 cp (K + 1 + 3 * N1) W (hvB'.below hw) (by omega) (by omega)
      have HWK : Hid (∀ W, Below wr.heap.size wr W → W.cell? ⟨b, off + j * 4, none⟩ = some (.string s) ∧ W.cell? ⟨b, off + j * 4 + 1, none⟩ = some (.slice ac N1 cc) ∧ W.cell? ⟨b, off + j * 4 + 2, none⟩ = some (.slice ap N2 cp) ∧ W.cell? ⟨b, off + j * 4 + 3, none⟩ = some (.slice ai N3 ci)) := by
        intro W hw
        refine ⟨?_, ?_, ?_, ?_⟩ <;> (rw [hw.cell (by exact hb)]; assumption)
      have HB0 : Hid (Below w.heap.size w wr) := hB
      clear hvC' hvB' hB
      go_wp2_with fail
      go_region_held3 (fun W => W.cell? ⟨b, off + j * 4, none⟩ = some (.string s) ∧ W.cell? ⟨b, off + j * 4 + 1, none⟩ = some (.slice ac N1 cc) ∧ W.cell? ⟨b, off + j * 4 + 2, none⟩ = some (.slice ap N2 cp) ∧ W.cell? ⟨b, off + j * 4 + 3, none⟩ = some (.slice ai N3 ci)) (first | assumption | go_keep) (first | (go_at_call 50; refine (hT _).mono ?_; rintro e w2 ⟨rfl, hB2⟩; have hcells : w2.cell? ⟨b, off + j * 4, none⟩ = some (.string s) ∧ w2.cell? ⟨b, off + j * 4 + 1, none⟩ = some (.slice ac N1 cc) ∧ w2.cell? ⟨b, off + j * 4 + 2, none⟩ = some (.slice ap N2 cp) ∧ w2.cell? ⟨b, off + j * 4 + 3, none⟩ = some (.slice ai N3 ci) := HWK.out _ (Below.trans (by repeat (first | exact Below.refl _ _ | refine Below.drew ?_)) hB2)))
      all_goals
        have HBW : Hid (Below wr.heap.size wr w2) := Below.trans (by repeat (first | exact Below.refl _ _ | refine Below.drew ?_)) hB2
        obtain ⟨y0, y1, y2, y3⟩ := hcells
        have hCo := fun W (hw : Below w2.heap.size w2 W) => HCo.out W (HBW.out.trans (hw.mono HBW.out.size))
        clear hT d0 d1 d2 d3 hB2 HCo
        go_wp2_with fail
        refine (hCo _ (by repeat (first | exact Below.refl _ _ | refine Below.drew ?_))).mono ?_
        rintro e w4 ⟨rfl, hB4⟩
        have HBX : Hid (Below wr.heap.size wr w4) := HBW.out.trans (Below.trans (by repeat (first | exact Below.refl _ _ | refine Below.drew ?_)) (hB4.mono (by have := HBW.out.size; exact this)))
        obtain ⟨-, -, v2, v3⟩ := HWK.out w4 HBX.out
        have hBy := fun W (hw : Below w4.heap.size w4 W) => HBy.out W (HBX.out.trans (hw.mono HBX.out.size))
        have hnl : ¬ (K + 1 + 3 * (N1 : Int) < 0) := by omega
        clear hCo hB4 y0 y1 y2 y3 HBW HBy
        go_wp2_with fail
        refine (hBy _ (by repeat (first | exact Below.refl _ _ | refine Below.drew ?_))).mono ?_
        rintro e w5 ⟨rfl, hB5⟩
        have HBY : Hid (Below wr.heap.size wr w5) := HBX.out.trans (Below.trans (by repeat (first | exact Below.refl _ _ | refine Below.drew ?_)) (hB5.mono (by have := HBX.out.size; exact this)))
        obtain ⟨-, -, -, z3⟩ := HWK.out w5 HBY.out
        have hIx := fun W (hw : Below w5.heap.size w5 W) => HIx.out W (HBY.out.trans (hw.mono HBY.out.size))
        have hnl2 : ¬ (K + 1 + 3 * (N1 : Int) + 2 * (N2 : Int) < 0) := by omega
        clear hBy hB5 v2 v3 HBX HIx HWK
        go_wp2_with fail
        refine (hIx _ (by repeat (first | exact Below.refl _ _ | refine Below.drew ?_))).mono ?_
        rintro e w6 ⟨rfl, hB6⟩
        have HBZ : Hid (Below w.heap.size w w6) := HB0.out.trans ((HBY.out.trans (Below.trans (by repeat (first | exact Below.refl _ _ | refine Below.drew ?_)) (hB6.mono (by have := HBY.out.size; exact this)))).mono HB0.out.size)
        have hnl3 : ¬ (KE < 0) := by omega
        clear hIx hB6 HBY z3
        go_wp2
        go_roundg (n - (j + 1))
        case measure => omega
        case rel => exact ⟨j + 1, by omega, rfl, by rw [HKN.out], by go_num, HBZ.out⟩
    · obtain rfl : j = n := by omega
      clear hv
      go_wp2
      go_ret
      exact ⟨rfl, hB⟩
end Go.Proofs.YtnpfgamlncfikaaGreatDoor

/-
  What is read of a text as tables has that text's tokens, plainly.
-/
namespace Go.Proofs.YtnpfgamlncfikaaGreatDoor
open Go.RowKit
set_option maxRecDepth 4000

theorem parse_first {s : ByteArray} {ds : List PDef} (h : parseF s = some ds) : firstF (atD ds) ds.length = -1 ∧ defsR ((lexF s 0 []).1.length + 1) (lexF s 0 []).1 = some ds ∧ (lexF s 0 []).2 = -1 := by
  unfold parseF at h
  split at h
  · rename_i hp
    unfold tabsF goodF at h
    obtain ⟨d', h1, h2⟩ := Option.bind_eq_some_iff.1 h
    split at h2
    · rename_i e
      simp only [Option.some.injEq] at h2
      subst h2
      exact ⟨e, h1, hp⟩
    · cases h2
  · cases h
theorem defsK_list (ds : List PDef) : defsK (atD ds) ds.length = ds.flatMap defK := by
  rw [defsK_off]
  exact range_getD ds _ defK
/-- The tokens of the text are those of the tables that are read of it. -/
theorem parse_toks {s : ByteArray} {ds : List PDef} (h : parseF s = some ds) : lexF (defsT (atD ds) ds.length) 0 [] = ((lexF s 0 []).1, -1) := by
  obtain ⟨h1, h2, -⟩ := parse_first h
  have ha : AllOk (lexF s 0 []).1 := lexF_ok s 0 [] (by simp)
  have h3 := defsR_some _ _ _ ha h2 (good_all h1)
  rw [lex_defs h1, defsK_list, h3]
end Go.Proofs.YtnpfgamlncfikaaGreatDoor

/-
  The program's reader of tokens: its state; what it gives up with.
-/
namespace Go.Proofs.YtnpfgamlncfikaaGreatDoor
open Go.RowKit
set_option maxRecDepth 4000

/-- A variable of one cell. -/
def V1 (w : World) (B : Nat) (T : TypeId) (x : Value) : Prop := w.rowIs B T 1 (fun _ => x)
theorem V1.new (w : World) (T : TypeId) (x : Value) : V1 (w.alloc (.cells #[x] T)) w.heap.size T x :=
  World.rowIs_alloc w _ T (fun _ => x) (fun j hj => by match j, hj with | 0, _ => rfl)
theorem V1.lt {w : World} {B : Nat} {T : TypeId} {x : Value} (h : V1 w B T x) : B < w.heap.size := World.rowIs.lt h
theorem V1.block {w w' : World} {B : Nat} {T : TypeId} {x : Value} (h : V1 w B T x) (e : w'.heap[B]? = w.heap[B]?) : V1 w' B T x := World.rowIs.of_block h e
theorem V1.cell {w : World} {B : Nat} {T : TypeId} {x : Value} (h : V1 w B T x) : w.cell? ⟨B, 0, none⟩ = some x := World.rowIs.cell h (i := 0) (by decide)
theorem V1.fz {w : World} {B : Nat} {T : TypeId} {x : Value} (h : V1 w B T x) : w.frozen? ⟨B, 0, none⟩ = false := World.rowIs.frozen h 0
theorem V1.set {w : World} {B : Nat} {T : TypeId} {x : Value} (h : V1 w B T x) (u : Value) : V1 (w.setCell ⟨B, 0, none⟩ u) B T u :=
  (World.rowIs.set h 0 _).congr (fun j hj => by match j, hj with | 0, _ => rfl)

/-- The program's reader in block g: l is still to be read. -/
structure IR (g : Nat) (S : Src) (l : List Tok) (W : World) : Prop where
  row : ∃ i o cap : Nat, V1 W g 111 (.slice (some ⟨S.tb, o, none⟩) l.length cap) ∧ l.length ≤ cap ∧ i ≤ S.L.length ∧ l = S.L.drop i ∧ (l ≠ [] → o = i * 2)
  toks : TView W (some ⟨S.tb, 0, none⟩) S.L.length S.cap (tk S.L) (ts S.L)
  ne : S.tb ≠ g
  few : S.L.length ≤ 500
  ok : AllOk S.L
  lt : S.tb < W.heap.size
theorem IR.glt {g : Nat} {S : Src} {l : List Tok} {W : World} (h : IR g S l W) : g < W.heap.size := by
  obtain ⟨i, o, c, hv, -⟩ := h.row
  exact hv.lt
theorem IR.kept {g : Nat} {S : Src} {l : List Tok} {W W' : World} (h : IR g S l W) (hs : W.heap.size ≤ W'.heap.size) (hg : W'.heap[g]? = W.heap[g]?) (ht : W'.heap[S.tb]? = W.heap[S.tb]?) : IR g S l W' := by
  obtain ⟨i, o, c, hv, hi⟩ := h.row
  exact ⟨⟨i, o, c, hv.block hg, hi⟩, h.toks.of_block hs ht, h.ne, h.few, h.ok, Nat.lt_of_lt_of_le h.lt hs⟩
theorem IR.below {g : Nat} {S : Src} {l : List Tok} {W W' : World} (h : IR g S l W) (hb : Below W.heap.size W W') : IR g S l W' := h.kept hb.size (hb.block g h.glt) (hb.block _ h.lt)
theorem IR.eff {w : World} {g : Nat} {S : Src} {l : List Tok} {T : TypeId} {W W' : World} (h : IR g S l W) (e : Eff w T W W') (hg : g < w.heap.size) (ht : S.tb < w.heap.size) : IR g S l W' := h.kept e.size (e.old g hg h.glt) (e.old _ ht h.lt)
theorem IR.own {g B i : Nat} {S : Src} {l : List Tok} {W : World} (h : IR g S l W) (h1 : B ≠ g) (h2 : B ≠ S.tb) (u : Value) : IR g S l (W.setCell ⟨B, i, none⟩ u) :=
  h.kept (by simp) (Below.heap_setCell _ _ _ _ (Ne.symm h1)) (Below.heap_setCell _ _ _ _ (Ne.symm h2))
theorem IR.new {g : Nat} {S : Src} {l : List Tok} {W : World} (h : IR g S l W) (o : Obj) : IR g S l (W.alloc o) := h.below ((Below.refl _ _).alloc (Nat.le_refl _) _)
theorem IR.grown {g : Nat} {S : Src} {l : List Tok} {W W' : World} {row : Option Nat} (h : IR g S l W) (hg : W.grownBy W' row) (h1 : row ≠ some g) (h2 : row ≠ some S.tb) : IR g S l W' :=
  h.kept hg.size (hg.block g h.glt (fun e => h1 e.symm)) (hg.block _ h.lt (fun e => h2 e.symm))
theorem IR.size {g : Nat} {S : Src} {l : List Tok} {W : World} (h : IR g S l W) : l.length ≤ 500 ∧ AllOk l := by
  obtain ⟨i, o, c, -, -, hi, rfl, -⟩ := h.row
  have := h.few
  refine ⟨by rw [List.length_drop]; omega, fun t ht => h.ok t (List.mem_of_mem_drop ht)⟩
/-- The reader goes on. -/
theorem IR.put {g : Nat} {S : Src} {t : Tok} {r : List Tok} {W : World} (h : IR g S (t :: r) W) {i o cap : Nat} (hv : V1 W g 111 (.slice (some ⟨S.tb, o, none⟩) (t :: r).length cap)) (he : t :: r = S.L.drop i) (o' c' : Nat) (hc : r.length ≤ c') (ho : r ≠ [] → o' = (i + 1) * 2) : IR g S r (W.setCell ⟨g, 0, none⟩ (.slice (some ⟨S.tb, o', none⟩) r.length c')) := by
  have hb : But g W (W.setCell ⟨g, 0, none⟩ (.slice (some ⟨S.tb, o', none⟩) r.length c')) := (But.refl _ _).set _ _
  have hlt : i < S.L.length := by
    have := congrArg List.length he
    rw [List.length_drop, List.length_cons] at this
    omega
  refine ⟨⟨i + 1, o', c', hv.set _, hc, hlt, ?_, ho⟩, h.toks.of_block hb.size (hb.block _ h.lt h.ne), h.ne, h.few, h.ok, Nat.lt_of_lt_of_le h.lt hb.size⟩
  rw [src_at hlt] at he
  exact (List.cons.inj he).2
/-- The first token lies where the slice begins. -/
theorem IR.first {g : Nat} {S : Src} {t : Tok} {r : List Tok} {W : World} (h : IR g S (t :: r) W) {i : Nat} (he : t :: r = S.L.drop i) : W.cell? ⟨S.tb, i * 2 + 1, none⟩ = some (.string t.2) := by
  have hlt : i < S.L.length := by
    have := congrArg List.length he
    rw [List.length_drop, List.length_cons] at this
    omega
  obtain ⟨b', o', e', -, hc⟩ := h.toks.cells (by omega)
  cases e'
  obtain ⟨-, x1⟩ := hc i hlt
  rw [src_at hlt] at he
  have e1 := (List.cons.inj he).1
  have e2 : t.2 = ts S.L i := by rw [e1]
  rw [e2]
  simpa using x1
/-- What a reader gives up with. -/
def Gave (e : Ending) : Prop := ∃ u pv, e = .panicked [{ v := .iface u pv, recovered := false }]
/-- The variable of it. -/
def ErrU (w : World) : Prop := ∃ u pv, w.cell? ⟨0, 0, none⟩ = some (.iface u pv)
theorem ErrU.lt {w : World} (h : ErrU w) : 0 < w.heap.size := by
  obtain ⟨u, pv, h⟩ := h
  exact World.block_lt_of_cell? _ _ h
theorem ErrU.kept {w w' : World} (h : ErrU w) (e : w'.heap[0]? = w.heap[0]?) : ErrU w' := by
  obtain ⟨u, pv, h⟩ := h
  exact ⟨u, pv, (World.cell?_of_block (a := ⟨0, 0, none⟩) e).trans h⟩
theorem ErrU.but {g : Nat} {w w' : World} (h : ErrU w) (hb : But g w w') (hg : 0 < g) : ErrU w' := h.kept (hb.block _ h.lt (by omega))
theorem ErrU.below {w w' : World} (h : ErrU w) (hb : Below w.heap.size w w') : ErrU w' := h.kept (hb.block _ h.lt)
end Go.Proofs.YtnpfgamlncfikaaGreatDoor

/-
  The program's passes, want, next, walked.
-/
namespace Go.Proofs.YtnpfgamlncfikaaGreatDoor
open Go.RowKit
set_option maxRecDepth 4000

set_option maxHeartbeats 2000000 in
theorem passes_any {g : Nat} {S : Src} {l : List Tok} {w : World} (s : ByteArray) (h : IR g S l w) :
    Calls Tryz.prog 121 #[.pointer (some ⟨g, 0, none⟩), .string s] w fun e w' => e = .returned (.bool (isR s l).1) ∧ IR g S (isR s l).2 w' ∧ But g w w' := by
  obtain ⟨i, o, cap, hv, hc, hi, he, ho⟩ := h.row
  have c0 := hv.cell
  have hfz := hv.fz
  cases l with
  | nil =>
    have HM : Hid (IR g S [] w) := h
    have c0' : w.cell? ⟨g, 0, none⟩ = some (.slice (some ⟨S.tb, o, none⟩) 0 cap) := c0
    clear h hv he c0 ho
    go_enter Tryz.func121, Tryz.ntmps121
    go_wp2
    go_ret
    exact ⟨rfl, HM.out, But.refl _ _⟩
  | cons t r =>
    have x1 := h.first he
    obtain rfl := ho (by simp)
    have HP : Hid (∀ o' c', r.length ≤ c' → (r ≠ [] → o' = (i + 1) * 2) → IR g S r (w.setCell ⟨g, 0, none⟩ (.slice (some ⟨S.tb, o', none⟩) r.length c'))) := fun o' c' a b => h.put hv he o' c' a b
    have HM : Hid (IR g S (t :: r) w) := h
    obtain ⟨k, u⟩ := t
    have c0' : w.cell? ⟨g, 0, none⟩ = some (.slice (some ⟨S.tb, i * 2, none⟩) (r.length + 1) cap) := c0
    have hc' : r.length + 1 ≤ cap := hc
    have hcz : (1 : Int) ≤ ((r.length + 1 : Nat) : Int) := by omega
    have x1' : w.cell? ⟨S.tb, i * 2 + 1, none⟩ = some (.string u) := x1
    have HB : Hid (∀ v, But g w (w.setCell ⟨g, 0, none⟩ v)) := fun v => (But.refl _ _).set _ _
    have hsz := HM.out.size.1
    rw [List.length_cons] at hsz
    clear h hv he c0 x1 hc ho
    obtain ⟨tb, htb⟩ : ∃ x, Hid (S.tb = x) := ⟨_, rfl⟩
    rw [htb.out] at x1' c0' HP
    by_cases hu : u = s
    · have hq := bytes_eq hu
      have HR : Hid (isR s ((k, u) :: r) = (true, r)) := by show _ = _; rw [hu]; exact isR_hit _ _ _
      by_cases hc1 : cap = 1
      · have hr0 : r = [] := List.eq_nil_of_length_eq_zero (by omega)
        subst hc1
        subst hr0
        have HP' : Hid (IR g S [] (w.setCell ⟨g, 0, none⟩ (.slice (some ⟨tb, i * 2, none⟩) 0 0))) := HP.out (i * 2) 0 (Nat.le_refl _) (fun h => absurd rfl h)
        clear HP
        go_enter Tryz.func121, Tryz.ntmps121
        go_wp2
        go_ret
        rw [HR.out]
        exact ⟨rfl, HP'.out, HB.out _⟩
      · have hc1' : ¬ cap - 1 = 0 := by omega
        have HP' : Hid _ := HP.out (i * 2 + 2) (cap - 1) (by omega) (fun _ => by omega)
        clear HP
        go_enter Tryz.func121, Tryz.ntmps121
        go_wp2
        go_ret
        rw [HR.out]
        exact ⟨rfl, HP'.out, HB.out _⟩
    · have hq := bytes_ne hu
      have HR : Hid (isR s ((k, u) :: r) = (false, (k, u) :: r)) := isR_miss hu r
      go_enter Tryz.func121, Tryz.ntmps121
      go_wp2
      go_ret
      rw [HR.out]
      exact ⟨rfl, HM.out, But.refl _ _⟩

set_option maxHeartbeats 1000000 in
theorem want_any {g : Nat} {S : Src} {l : List Tok} {w : World} (s : ByteArray) (h : IR g S l w) (hu : ErrU w) (hg : 0 < g) :
    Calls Tryz.prog 119 #[.pointer (some ⟨g, 0, none⟩), .string s] w fun e w' => But g w w' ∧ ((∃ r, mustR s l = some r ∧ e = .returned (.tuple #[]) ∧ IR g S r w') ∨ (mustR s l = none ∧ Gave e)) := by
  have hP := passes_any s h
  have HMU : Hid (mustR s l = if (isR s l).1 then some (isR s l).2 else none) := rfl
  obtain ⟨⟨b, r⟩, hb⟩ : ∃ x, Hid (isR s l = x) := ⟨_, rfl⟩
  simp only [hb.out] at hP HMU
  clear h
  go_enter Tryz.func119, Tryz.ntmps119
  go_wp2_with fail
  refine hP.mono ?_
  rintro e w1 ⟨rfl, M1, b1⟩
  obtain ⟨u, pv, hx⟩ := hu.but b1 hg
  cases b with
  | true =>
    have HR : Hid (But g w w1 ∧ mustR s l = some r ∧ IR g S r w1) := ⟨b1, HMU.out, M1⟩
    clear hP M1 b1 hx
    go_wp2
    go_end0
    exact ⟨HR.out.1, .inl ⟨r, HR.out.2.1, rfl, HR.out.2.2⟩⟩
  | false =>
    have HR : Hid (But g w w1 ∧ mustR s l = none) := ⟨b1, HMU.out⟩
    clear hP M1 b1
    go_wp2
    exact ⟨rfl, HR.out.1, .inr ⟨HR.out.2, u, pv, rfl⟩⟩

set_option maxHeartbeats 2000000 in
theorem next_any {g : Nat} {S : Src} {l : List Tok} {w : World} (h : IR g S l w) (hu : ErrU w) :
    Calls Tryz.prog 120 #[.pointer (some ⟨g, 0, none⟩)] w fun e w' => But g w w' ∧ ((∃ n r, nextI l = some (n, r) ∧ e = .returned (.string n) ∧ IR g S r w') ∨ (nextI l = none ∧ Gave e)) := by
  obtain ⟨i, o, cap, hv, hc, hi, he, ho⟩ := h.row
  have c0 := hv.cell
  have hfz := hv.fz
  obtain ⟨u, pv, hx⟩ := hu
  cases l with
  | nil =>
    have c0' : w.cell? ⟨g, 0, none⟩ = some (.slice (some ⟨S.tb, o, none⟩) 0 cap) := c0
    clear h hv he c0 ho
    go_enter Tryz.func120, Tryz.ntmps120
    go_wp2
    exact ⟨rfl, But.refl _ _, .inr ⟨rfl, u, pv, rfl⟩⟩
  | cons t r =>
    have x1 := h.first he
    obtain rfl := ho (by simp)
    have HP : Hid (∀ o' c', r.length ≤ c' → (r ≠ [] → o' = (i + 1) * 2) → IR g S r (w.setCell ⟨g, 0, none⟩ (.slice (some ⟨S.tb, o', none⟩) r.length c'))) := fun o' c' a b => h.put hv he o' c' a b
    obtain ⟨k, n⟩ := t
    have c0' : w.cell? ⟨g, 0, none⟩ = some (.slice (some ⟨S.tb, i * 2, none⟩) (r.length + 1) cap) := c0
    have hc' : r.length + 1 ≤ cap := hc
    have x1' : w.cell? ⟨S.tb, i * 2 + 1, none⟩ = some (.string n) := x1
    have hsz := h.size.1
    rw [List.length_cons] at hsz
    have HB : Hid (∀ v, But g w (w.setCell ⟨g, 0, none⟩ v)) := fun v => (But.refl _ _).set _ _
    clear h hv he c0 x1 hc ho
    obtain ⟨tb, htb⟩ : ∃ x, Hid (S.tb = x) := ⟨_, rfl⟩
    rw [htb.out] at x1' c0' HP
    by_cases hc1 : cap = 1
    · have hr0 : r = [] := List.eq_nil_of_length_eq_zero (by omega)
      subst hc1
      subst hr0
      have HP' : Hid (IR g S [] (w.setCell ⟨g, 0, none⟩ (.slice (some ⟨tb, i * 2, none⟩) 0 0))) := HP.out (i * 2) 0 (Nat.le_refl _) (fun h => absurd rfl h)
      clear HP
      go_enter Tryz.func120, Tryz.ntmps120
      go_wp2
      go_ret
      exact ⟨HB.out _, .inl ⟨n, [], rfl, rfl, HP'.out⟩⟩
    · have hc1' : ¬ cap - 1 = 0 := by omega
      have HP' : Hid _ := HP.out (i * 2 + 2) (cap - 1) (by omega) (fun _ => by omega)
      clear HP
      go_enter Tryz.func120, Tryz.ntmps120
      go_wp2
      go_ret
      exact ⟨HB.out _, .inl ⟨n, r, rfl, rfl, HP'.out⟩⟩

theorem next_size {l r : List Tok} {n : ByteArray} (ha : AllOk l) (h : nextI l = some (n, r)) : n.size ≤ 8 := by
  cases l with
  | nil => cases h
  | cons t q =>
    simp only [nextI, Option.some.injEq, Prod.mk.injEq] at h
    have := ha t (List.mem_cons_self ..)
    rw [← h.1]
    unfold tokOk at this
    split at this
    · unfold nameOk at this; exact (of_decide_eq_true this).2.1
    · split at this
      · unfold markOk at this; have := (of_decide_eq_true this).1; omega
      · cases this
end Go.Proofs.YtnpfgamlncfikaaGreatDoor

/-
  slices.Grow of no texts, for n of them: a row of the call's own with room.
-/
namespace Go.Proofs.YtnpfgamlncfikaaGreatDoor
open Go.RowKit
set_option maxRecDepth 4000

set_option maxHeartbeats 2000000 in
theorem growStr_any (n : Nat) (w : World) (h0 : 0 < n) (hn : n ≤ 4194304) :
    Calls Tryz.prog 139 #[.slice none 0 0, .int .i64 n] w fun e w' => ∃ g c, e = .returned (.slice (some ⟨g, 0, none⟩) 0 c) ∧ w'.ownsRow w.heap.size 9 1 (.slice (some ⟨g, 0, none⟩) 0 c) 0 [] ∧ Below w.heap.size w w' := by
  obtain ⟨i0, hi, hz0, hz1, hz2⟩ := infoStr
  have h1 : ¬ ((n : Int) < 0) := by omega
  have h2 : wrap64 ((0 : Int) - (0 : Int)) = 0 := by unfold wrap64; omega
  have h3 : wrap64 ((n : Int) - 0) = (n : Int) := by unfold wrap64; omega
  have h4 : (n : Int) > 0 := by omega
  have hrz := fun ty => Lib.run_append_nil_zeros (P := Tryz.prog) w 61 3 ty 9 i0 (.string ⟨#[]⟩) .i64 .i64 Tryz.underlying61 Tryz.underlying3 hi hz0 n h0 (by omega) (by omega) (by rw [hz2]; omega)
  have hG1 : n ≤ grownCap w n 0 9 := grownCap_ge w _ _ _
  have hG2 : grownCap w n 0 9 ≤ maxLen := grownCap_le_maxLen w n 0 9 (by unfold maxLen; omega)
  obtain ⟨G, hG⟩ : ∃ G, G = grownCap w n 0 9 := ⟨_, rfl⟩
  rw [← hG] at hG1 hG2
  simp only [← hG] at hrz
  have hzc : (Value.string ⟨#[]⟩).cells.size = 1 := rfl
  have HS : Hid ((Builtin.zeroCells (Value.string ⟨#[]⟩).cells n ++ Builtin.zeroCells (Value.string ⟨#[]⟩).cells (G - n)).size = G) := by
    show _ = _
    simp [Builtin.zeroCells, Value.cells]
    omega
  obtain ⟨cs, hcs⟩ : ∃ cs, Hid (Builtin.zeroCells (Value.string ⟨#[]⟩).cells n ++ Builtin.zeroCells (Value.string ⟨#[]⟩).cells (G - n) = cs) := ⟨_, rfl⟩
  rw [hcs.out] at HS
  simp only [hcs.out] at hrz
  have HB : Hid (Below w.heap.size w (w.drew.alloc (.cells cs 9))) := ((Below.refl _ _).drew).alloc (by simp) _
  have HO : Hid ((w.drew.alloc (.cells cs 9)).ownsRow w.heap.size 9 1 (.slice (some ⟨w.heap.size, 0, none⟩) 0 G) 0 []) := by
    refine ⟨rfl, .inr ⟨w.heap.size, G, cs, rfl, Nat.le_refl _, ?_, Nat.zero_le _, hG2, by rw [HS.out]; omega, by simp⟩⟩
    exact heap_alloc_new w.drew (.cells cs 9)
  have hGz : (0 : Int) ≤ (G : Int) := by omega
  unfold maxLen at hG2
  clear hcs hz0 hz1 hz2 hi hG hzc
  go_enter Tryz.func139, Tryz.ntmps139
  go_wp2_with (at_builtin; refine Lib.wpList_append_run _ rfl _ _ _ _ rfl _ _ rfl rfl _ _ (hrz _) ?_)
  go_ret
  exact ⟨_, _, rfl, HO.out, HB.out⟩
end Go.Proofs.YtnpfgamlncfikaaGreatDoor

