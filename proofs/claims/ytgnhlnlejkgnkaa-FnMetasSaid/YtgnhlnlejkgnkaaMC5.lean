/-
  Together: But, MetaBox, MetaGet, MetaGetS, EqBytes, Mark, Slices, LawMetas3
-/
import Derived.Test.YtgnhlnlejkgnkaaMC1
import Derived.Test.YtgnhlnlejkgnkaaMC4
import Derived.Test.YtgnhlnlejkgnkaaMC3
/-
  What turns but one block: how it is carried.
-/
namespace Go.Proofs.Ytgnhlnlejkgnkaa
open Go.RowKit
set_option maxRecDepth 4000

/-- Of what was there block g alone may have turned. -/
structure But (g : Nat) (w w' : World) : Prop where
  os : w'.os = w.os
  tape : w'.tape = w.tape
  output : w'.output = w.output
  size : w.heap.size ≤ w'.heap.size
  block : ∀ k, k < w.heap.size → k ≠ g → w'.heap[k]? = w.heap[k]?

theorem But.refl (g : Nat) (w : World) : But g w w := ⟨rfl, rfl, rfl, Nat.le_refl _, fun _ _ _ => rfl⟩
theorem But.trans {g : Nat} {a b c : World} (h : But g a b) (k : But g b c) : But g a c :=
  ⟨k.os.trans h.os, k.tape.trans h.tape, k.output.trans h.output, Nat.le_trans h.size k.size, fun i hi hg => (k.block i (Nat.lt_of_lt_of_le hi h.size) hg).trans (h.block i hi hg)⟩
theorem But.ofOnly {g : Nat} {w w' : World} (h : Only g w w') : But g w w' := ⟨h.os, h.tape, h.output, by rw [h.size]; exact Nat.le_refl _, fun k _ hk => h.block k hk⟩
theorem But.ofBelow {g : Nat} {w w' : World} (h : Below w.heap.size w w') : But g w w' := ⟨h.os, h.tape, h.output, h.size, fun k hk _ => h.block k hk⟩
theorem But.below {g B : Nat} {w w' : World} (h : But g w w') (hB : B ≤ g) (hs : B ≤ w.heap.size) : Below B w w' := ⟨h.os, h.tape, h.output, h.size, fun k hk => h.block k (by omega) (by omega)⟩
theorem But.row {t : TypeId} {g b n : Nat} {f : Nat → Int} {w w' : World} (h : But g w w') (hr : Row t w b n f) (hne : b ≠ g) : Row t w' b n f := hr.of_block (h.block b hr.lt hne)
theorem But.view {g : Nat} {ao : Option Addr} {n cap : Nat} {f : Nat → Int} {w w' : World} (h : But g w w') (hv : View w ao n cap f) (hne : ∀ a, ao = some a → 0 < n → a.block ≠ g) : View w' ao n cap f := by
  refine ⟨hv.le, hv.byte, fun hn => ?_⟩
  obtain ⟨b', off, e, hlt, hc⟩ := hv.cells hn
  refine ⟨b', off, e, Nat.lt_of_lt_of_le hlt h.size, fun i hi => ?_⟩
  rw [World.cell?_of_block (w := w) (h.block b' hlt (hne _ e hn))]
  exact hc i hi
theorem Only.grown {g : Nat} {w w' : World} (h : Only g w w') : w.grownBy w' (some g) :=
  ⟨h.os, h.tape, h.output, by rw [h.size]; exact Nat.le_refl _, fun k _ hk => h.block k (fun e => hk (by rw [e]))⟩
theorem But.grown {g : Nat} {w w' : World} (h : But g w w') : w.grownBy w' (some g) := ⟨h.os, h.tape, h.output, h.size, fun k hk hne => h.block k hk (fun e => hne (by rw [e]))⟩
end Go.Proofs.Ytgnhlnlejkgnkaa

/-
  A root in a variable of the call's own.
-/
namespace Go.Proofs.Ytgnhlnlejkgnkaa
open Go.RowKit
set_option maxRecDepth 4000

/-- The two cells of a root. -/
def metaC (g r : Int) : Nat → Value
  | 0 => .int .i64 g
  | _ => .int .i64 r
/-- A root in a variable of the call's own. -/
def MBox (w : World) (B : Nat) (g r : Int) : Prop := w.rowIs B 25 2 (metaC g r)
theorem MBox.new (w : World) (g r : Int) : MBox (w.alloc (.cells #[.int .i64 g, .int .i64 r] 25)) w.heap.size g r :=
  World.rowIs_alloc w _ 25 (metaC g r) (fun j hj => by match j, hj with | 0, _ => rfl | 1, _ => rfl)
theorem MBox.cells {w : World} {B : Nat} {g r : Int} (h : MBox w B g r) : w.cell? ⟨B, 0, none⟩ = some (.int .i64 g) ∧ w.cell? ⟨B, 1, none⟩ = some (.int .i64 r) :=
  ⟨h.cell (i := 0) (by decide), h.cell (i := 1) (by decide)⟩
theorem MBox.frozen {w : World} {B : Nat} {g r : Int} (h : MBox w B g r) : w.frozen? ⟨B, 0, none⟩ = false ∧ w.frozen? ⟨B, 1, none⟩ = false :=
  ⟨World.rowIs.frozen h 0, World.rowIs.frozen h 1⟩
theorem MBox.lt {w : World} {B : Nat} {g r : Int} (h : MBox w B g r) : B < w.heap.size := World.rowIs.lt h
theorem MBox.below {w w' : World} {B : Nat} {g r : Int} (h : MBox w B g r) (hb : Below w.heap.size w w') : MBox w' B g r := h.of_block (hb.block B h.lt)
theorem MBox.but {w w' : World} {B c : Nat} {g r : Int} (h : MBox w B g r) (hb : But c w w') (hne : B ≠ c) : MBox w' B g r := h.of_block (hb.block B h.lt hne)
theorem MBox.set0 {w : World} {B : Nat} {g r : Int} (h : MBox w B g r) (x : Int) : MBox (w.setCell ⟨B, 0, none⟩ (.int .i64 x)) B x r :=
  (World.rowIs.set h 0 _).congr (fun j hj => by match j, hj with | 0, _ => rfl | 1, _ => rfl)
theorem MBox.set1 {w : World} {B : Nat} {g r : Int} (h : MBox w B g r) (x : Int) : MBox (w.setCell ⟨B, 1, none⟩ (.int .i64 x)) B g x :=
  (World.rowIs.set h 1 _).congr (fun j hj => by match j, hj with | 0, _ => rfl | 1, _ => rfl)
theorem MBox.other {w : World} {B D i : Nat} {g r : Int} (h : MBox w B g r) (hne : B ≠ D) (u : Value) : MBox (w.setCell ⟨D, i, none⟩ u) B g r := h.of_block (Below.heap_setCell _ _ _ _ hne)
end Go.Proofs.Ytgnhlnlejkgnkaa

/-
  The program's GetMeta and the model's: what is read as a root.
-/
namespace Go.Proofs.Ytgnhlnlejkgnkaa
open Go.RowKit
set_option maxRecDepth 4000

/-- What GetMeta comes to. -/
def MeTo (w : World) (r : Int × Int × Bool) (e : Ending) (w' : World) : Prop := e = .returned (.tuple #[.agg #[.int .i64 r.1, .int .i64 r.2.1], .bool r.2.2]) ∧ Below w.heap.size w w'
theorem metaEq {L : List Int} {n : Nat} {f : Nat → Int} (hL : ∀ y ∈ L, 0 ≤ y ∧ y ≤ 255) (hf : ∀ i, i < n → 0 ≤ f i ∧ f i ≤ 255) : ((strOfNums (lof L.length (fun i => L.getD i 0))).toList == (strOfNums (lof n f)).toList) = decide (L = lof n f) := by
  rw [lof_self, Bool.eq_iff_iff, beq_iff_eq, decide_eq_true_eq]
  constructor
  · intro h
    refine strOfNums_inj hL (lof_byteS hf) ?_
    rw [ByteArray.toList_eq, ByteArray.toList_eq] at h
    exact ByteArray.ext (Array.ext' h)
  · intro h; rw [h]
theorem getU_lim {M : Nat} {F : Nat → Int} {p a q : Int} {c : Bool} (hb : ∀ i, i < M → 0 ≤ F i ∧ F i ≤ 255) (h : getU M F p = (a, q, c)) : 0 ≤ a ∧ a ≤ 1000000 ∧ 0 ≤ q ∧ q ≤ M := by
  cases c with
  | true =>
    obtain ⟨i, -, hA, hq, h0, h1⟩ := getU_read hb h
    have := hA.le
    omega
  | false =>
    obtain ⟨rfl, rfl⟩ := getU_none13 h
    omega
/-- What was read is no root. -/
theorem getMe_no {n : Nat} {f : Nat → Int} {k g q r e : Int} {s : ByteArray} {ok told led : Bool} (hp : getPg n f = (k, s, ok)) (ha : getU s.size (fun i => (sl s).getD i 0) 0 = (g, q, told)) (hb : getU s.size (fun i => (sl s).getD i 0) q = (r, e, led)) (h : ¬ (ok = true ∧ told = true ∧ led = true ∧ k = 2 ∧ e = (s.size : Int) ∧ metaOk g r = true)) : getMe n f = (0, 0, false) := by
  rw [getMe_is hp ha hb, if_neg h]

set_option maxHeartbeats 4000000 in
theorem implGetMeta_any (ao : Option Addr) (n cap : Nat) (f : Nat → Int) (w : World) (hao : 4 ≤ n → ∃ b, ao = some ⟨b, 0, none⟩) (hv : View w ao n cap f) (hn : n ≤ 1048576) :
    Calls Try.prog 17 #[.slice ao n cap] w (MeTo w (getMe n f)) := by
  obtain ⟨k, s, ok, hp⟩ : ∃ k s ok, Hid (getPg n f = (k, s, ok)) := ⟨_, _, _, rfl⟩
  obtain ⟨g, q, told, ha⟩ : ∃ g q told, Hid (getU s.size (fun i => (sl s).getD i 0) 0 = (g, q, told)) := ⟨_, _, _, rfl⟩
  obtain ⟨r, e, led, hb⟩ : ∃ r e led, Hid (getU s.size (fun i => (sl s).getD i 0) q = (r, e, led)) := ⟨_, _, _, rfl⟩
  have HY : Hid (∀ i, i < s.size → 0 ≤ (sl s).getD i 0 ∧ (sl s).getD i 0 ≤ 255) := by
    have := bytes_of_list (sl_byte s)
    rwa [sl_len] at this
  have l1 := getU_lim HY.out ha.out
  have l2 := getU_lim HY.out hb.out
  have HNO : Hid (¬ (ok = true ∧ told = true ∧ led = true ∧ k = 2 ∧ e = (s.size : Int) ∧ metaOk g r = true) → getMe n f = (0, 0, false)) := getMe_no hp.out ha.out hb.out
  have HIS : Hid (getMe n f = if ok = true ∧ told = true ∧ led = true ∧ k = 2 ∧ e = (s.size : Int) ∧ metaOk g r = true then (g, r, true) else (0, 0, false)) := getMe_is hp.out ha.out hb.out
  have hG := getPage_impl ao n cap f (w.alloc (.cells #[.int .i64 0, .int .i64 0] 25)) hao (hv.below ((Below.refl _ _).alloc (Nat.le_refl _) _)) hn
  rw [hp.out] at hG
  have hs : s.size ≤ 281474976710656 := by
    cases ok with
    | true => have := (getPg_read hv.byte hp.out).2.1; omega
    | false => have h2 := getPg_none (n := n) (f := f) (by rw [hp.out]); rw [hp.out] at h2; cases h2; rw [str_size]; simp
  have hbA : Below w.heap.size w (w.alloc (.cells #[.int .i64 0, .int .i64 0] 25)) := (Below.refl _ _).alloc (Nat.le_refl _) _
  have hR := MBox.new w 0 0
  have HCA : Hid (ok = true → ∃ b, ao = some ⟨b, 0, none⟩) := by
    intro h
    refine hao ?_
    by_cases h4 : 4 ≤ n
    · exact h4
    · have := getPg_bad (n := n) (f := f) (by unfold sumGood; simp; omega)
      rw [hp.out] at this
      cases this
      cases h
  have HV : Hid (View w ao n cap f) := hv
  have HFB : Hid (∀ i, i < n → 0 ≤ f i ∧ f i ≤ 255) := hv.byte
  clear hv hao
  go_enter Try.func17, Try.ntmps17
  go_wp2_with fail
  refine hG.mono ?_
  rintro e1 w1 ⟨g1, c1, rfl, hg1, hc1, hz1, hb1⟩
  have hv1 := hz1.view hc1 HY.out
  replace hR := hR.below hb1
  obtain ⟨x0, x1⟩ := hR.cells
  obtain ⟨r0, r1⟩ := hR.frozen
  have hxl := hR.lt
  have hB1 := hbA.trans (hb1.mono hbA.size)
  clear hG hz1 hg1 hb1 hbA
  go_wp2_with fail
  refine (getU_impl' _ s.size c1 _ 0 w1 ha hv1 (by omega) (by omega)).mono ?_
  rintro e1 _ ⟨rfl, rfl⟩
  go_wp2_with fail
  refine (getU_impl' _ s.size c1 _ q w1 hb hv1 (by omega) (by omega)).mono ?_
  rintro e1 _ ⟨rfl, rfl⟩
  clear hv1
  by_cases hall : ok = true ∧ told = true ∧ led = true
  case neg =>
    have HN : Hid (getMe n f = (0, 0, false)) := HNO.out (fun h => hall ⟨h.1, h.2.1, h.2.2.1⟩)
    clear HNO HIS HCA
    have hgs := stored2 (.int .i64 0) (.int .i64 0) x0 x1
    have HB : Hid (Below w.heap.size w ((w1.setCell ⟨w.heap.size, 0, none⟩ (.int .i64 0)).setCell ⟨w.heap.size, 1, none⟩ (.int .i64 0))) := (hB1.setCell (Nat.le_refl _) _).setCell (Nat.le_refl _) _
    clear HV HFB HY hp ha hb hR hB1
    cases ok with
    | false =>
      go_wp2
      exact bodyPost_ret (v := .tuple #[.agg #[.int .i64 0, .int .i64 0], .bool false]) (by simp [results, Try.results17, go_sem, hgs]) rfl (by rw [HN.out]; exact ⟨rfl, HB.out⟩)
    | true =>
      cases told with
      | false =>
        go_wp2
        exact bodyPost_ret (v := .tuple #[.agg #[.int .i64 0, .int .i64 0], .bool false]) (by simp [results, Try.results17, go_sem, hgs]) rfl (by rw [HN.out]; exact ⟨rfl, HB.out⟩)
      | true =>
        cases led with
        | false =>
          go_wp2
          exact bodyPost_ret (v := .tuple #[.agg #[.int .i64 0, .int .i64 0], .bool false]) (by simp [results, Try.results17, go_sem, hgs]) rfl (by rw [HN.out]; exact ⟨rfl, HB.out⟩)
        | true => exact absurd ⟨rfl, rfl, rfl⟩ hall
  case pos =>
    obtain ⟨rfl, rfl, rfl⟩ := hall
    obtain ⟨b, rfl⟩ := HCA.out rfl
    have HI : Hid (metaF g r = lof n f ↔ (k = 2 ∧ e = (s.size : Int) ∧ metaOk g r = true)) := meta_iff HFB.out hp.out ha.out hb.out
    have HE : Hid (((strOfNums (lof (metaF g r).length (fun i => (metaF g r).getD i 0))).toList == (strOfNums (lof n f)).toList) = decide (metaF g r = lof n f)) := metaEq (metaF_byte g r) HFB.out
    have HPB : Hid (∀ y ∈ metaF g r, 0 ≤ y ∧ y ≤ 255) := metaF_byte g r
    have hPM := fun W => implPutMeta_any g r W
    obtain ⟨L, hL⟩ : ∃ L, Hid (metaF g r = L) := ⟨_, rfl⟩
    rw [hL.out] at HI HE HPB
    simp only [hL.out] at hPM
    clear hL HNO HCA
    have hM := MBox.new w1 g r
    have hB2 : Below w.heap.size w (w1.alloc (.cells #[.int .i64 g, .int .i64 r] 25)) := hB1.alloc hB1.size _
    replace hR := hR.below ((Below.refl _ _).alloc (Nat.le_refl _) (.cells #[.int .i64 g, .int .i64 r] 25))
    clear x0 x1 r0 r1 hB1 ha hb hp
    go_wp2_with fail
    refine (hPM _).mono ?_
    rintro e1 w2 ⟨g3, c3, rfl, hg3, hc3, hr3, hb3⟩
    replace hM := hM.below hb3
    replace hR := hR.below hb3
    replace hB2 := hB2.trans (hb3.mono hB2.size)
    obtain ⟨m0, m1⟩ := hM.cells
    obtain ⟨x0, x1⟩ := hR.cells
    obtain ⟨r0, r1⟩ := hR.frozen
    clear hb3 hPM
    go_wp2_with fail
    refine (equal_any g3 0 L.length c3 _ b 0 n cap f w2 (hr3.view hc3 (bytes_of_list HPB.out)) (HV.out.below hB2)).mono ?_
    rintro e1 _ ⟨he, rfl⟩
    rw [HE.out] at he
    subst he
    clear hr3 HE HPB HV HFB HY
    by_cases hq : L = lof n f
    · have HG : Hid (getMe n f = (g, r, true)) := by show _ = _; rw [HIS.out, if_pos ⟨trivial, trivial, trivial, HI.out.1 hq⟩]
      have hd : decide (L = lof n f) = true := by simpa using hq
      have hgs := stored2 (.int .i64 g) (.int .i64 r) x0 x1
      have HB : Hid (Below w.heap.size w ((w2.setCell ⟨w.heap.size, 0, none⟩ (.int .i64 g)).setCell ⟨w.heap.size, 1, none⟩ (.int .i64 r))) := (hB2.setCell (Nat.le_refl _) _).setCell (Nat.le_refl _) _
      rw [hd]
      clear HIS HI hq hd hB2 hM hR
      go_wp2
      exact bodyPost_ret (v := .tuple #[.agg #[.int .i64 g, .int .i64 r], .bool true]) (by simp [results, Try.results17, go_sem, hgs]) rfl (by rw [HG.out]; exact ⟨rfl, HB.out⟩)
    · have HG : Hid (getMe n f = (0, 0, false)) := by show _ = _; rw [HIS.out, if_neg (fun h => hq (HI.out.2 h.2.2.2))]
      have hd : decide (L = lof n f) = false := by simpa using hq
      have hgs := stored2 (.int .i64 0) (.int .i64 0) x0 x1
      have HB : Hid (Below w.heap.size w ((w2.setCell ⟨w.heap.size, 0, none⟩ (.int .i64 0)).setCell ⟨w.heap.size, 1, none⟩ (.int .i64 0))) := (hB2.setCell (Nat.le_refl _) _).setCell (Nat.le_refl _) _
      rw [hd]
      clear HIS HI hq hd hB2 hM hR
      go_wp2
      exact bodyPost_ret (v := .tuple #[.agg #[.int .i64 0, .int .i64 0], .bool false]) (by simp [results, Try.results17, go_sem, hgs]) rfl (by rw [HG.out]; exact ⟨rfl, HB.out⟩)
end Go.Proofs.Ytgnhlnlejkgnkaa

/-
  The model's GetMeta: what is read as a root.
-/
namespace Go.Proofs.Ytgnhlnlejkgnkaa
open Go.RowKit
set_option maxRecDepth 4000

set_option maxHeartbeats 4000000 in
theorem specGetMeta_any (ao : Option Addr) (n cap : Nat) (f : Nat → Int) (w : World) (hao : 4 ≤ n → ∃ b, ao = some ⟨b, 0, none⟩) (hv : View w ao n cap f) (hn : n ≤ 1048576) :
    Calls Try.prog 15 #[.slice ao n cap] w (MeTo w (getMe n f)) := by
  obtain ⟨k, s, ok, hp⟩ : ∃ k s ok, Hid (getPg n f = (k, s, ok)) := ⟨_, _, _, rfl⟩
  obtain ⟨g, q, told, ha⟩ : ∃ g q told, Hid (getU s.size (fun i => (sl s).getD i 0) 0 = (g, q, told)) := ⟨_, _, _, rfl⟩
  obtain ⟨r, e, led, hb⟩ : ∃ r e led, Hid (getU s.size (fun i => (sl s).getD i 0) q = (r, e, led)) := ⟨_, _, _, rfl⟩
  have HY : Hid (∀ i, i < s.size → 0 ≤ (sl s).getD i 0 ∧ (sl s).getD i 0 ≤ 255) := by
    have := bytes_of_list (sl_byte s)
    rwa [sl_len] at this
  have l1 := getU_lim HY.out ha.out
  have l2 := getU_lim HY.out hb.out
  have HNO : Hid (¬ (ok = true ∧ told = true ∧ led = true ∧ k = 2 ∧ e = (s.size : Int) ∧ metaOk g r = true) → getMe n f = (0, 0, false)) := getMe_no hp.out ha.out hb.out
  have HIS : Hid (getMe n f = if ok = true ∧ told = true ∧ led = true ∧ k = 2 ∧ e = (s.size : Int) ∧ metaOk g r = true then (g, r, true) else (0, 0, false)) := getMe_is hp.out ha.out hb.out
  have hG := getPage_spec ao n cap f (w.alloc (.cells #[.int .i64 0, .int .i64 0] 25)) hao (hv.below ((Below.refl _ _).alloc (Nat.le_refl _) _)) hn
  rw [hp.out] at hG
  have hs : s.size ≤ 281474976710656 := by
    cases ok with
    | true => have := (getPg_read hv.byte hp.out).2.1; omega
    | false => have h2 := getPg_none (n := n) (f := f) (by rw [hp.out]); rw [hp.out] at h2; cases h2; rw [str_size]; simp
  have hbA : Below w.heap.size w (w.alloc (.cells #[.int .i64 0, .int .i64 0] 25)) := (Below.refl _ _).alloc (Nat.le_refl _) _
  have hR := MBox.new w 0 0
  clear hv hao
  go_enter Try.func15, Try.ntmps15
  go_wp2_with fail
  refine hG.mono ?_
  rintro e1 w1 ⟨g1, c1, rfl, hg1, hc1, hz1, hb1⟩
  have hv1 := hz1.view hc1 HY.out
  replace hR := hR.below hb1
  have hR2 := hR.below ((Below.refl _ _).alloc (Nat.le_refl _) (.cells #[.int .i64 g, .int .i64 r] 25))
  have hxl := hR.lt
  have hB1 := hbA.trans (hb1.mono hbA.size)
  clear hG hz1 hg1 hb1 hbA
  go_wp2_with fail
  refine (getU_spec' _ s.size c1 _ 0 w1 ha hv1 (by omega) (by omega)).mono ?_
  rintro e1 _ ⟨rfl, rfl⟩
  go_wp2_with fail
  refine (getU_spec' _ s.size c1 _ q w1 hb hv1 (by omega) (by omega)).mono ?_
  rintro e1 _ ⟨rfl, rfl⟩
  clear hv1
  have hB2 : Below w.heap.size w (w1.alloc (.cells #[.int .i64 g, .int .i64 r] 25)) := hB1.alloc hB1.size _
  have HQ : Hid (k = 2 → (k == 2) = true) := fun h => by rw [h]; rfl
  clear hp ha hb
  by_cases hall : ok = true ∧ k = 2 ∧ told = true ∧ led = true ∧ e = (s.size : Int)
  case neg =>
    have HN : Hid (getMe n f = (0, 0, false)) := HNO.out (fun h => hall ⟨h.1, h.2.2.2.1, h.2.1, h.2.2.1, h.2.2.2.2.1⟩)
    obtain ⟨x0, x1⟩ := hR.cells
    obtain ⟨r0, r1⟩ := hR.frozen
    have hgs := stored2A (.int .i64 0) (.int .i64 0) x0 x1 hxl (.cells #[.int .i64 g, .int .i64 r] 25)
    have HB : Hid (Below w.heap.size w (((w1.setCell ⟨w.heap.size, 0, none⟩ (.int .i64 0)).setCell ⟨w.heap.size, 1, none⟩ (.int .i64 0)).alloc (.cells #[.int .i64 g, .int .i64 r] 25))) := ((hB1.setCell (Nat.le_refl _) _).setCell (Nat.le_refl _) _).alloc (by simp; omega) _
    clear HNO HIS HY hR2 hB2 hR hB1
    cases ok with
    | false =>
      clear hall HQ
      go_wp2
      exact bodyPost_ret (v := .tuple #[.agg #[.int .i64 0, .int .i64 0], .bool false]) (by simp [results, Try.results15, go_sem, hgs]) rfl (by rw [HN.out]; exact ⟨rfl, HB.out⟩)
    | true =>
      by_cases hk : k = 2
      case neg =>
        have hk' : (k == 2) = false := beq_eq_false_iff_ne.2 hk
        clear hall HQ
        go_wp2
        exact bodyPost_ret (v := .tuple #[.agg #[.int .i64 0, .int .i64 0], .bool false]) (by simp [results, Try.results15, go_sem, hgs]) rfl (by rw [HN.out]; exact ⟨rfl, HB.out⟩)
      case pos =>
        subst hk
        clear HQ
        cases told with
        | false =>
          clear hall
          go_wp2
          exact bodyPost_ret (v := .tuple #[.agg #[.int .i64 0, .int .i64 0], .bool false]) (by simp [results, Try.results15, go_sem, hgs]) rfl (by rw [HN.out]; exact ⟨rfl, HB.out⟩)
        | true =>
          cases led with
          | false =>
            clear hall
            go_wp2
            exact bodyPost_ret (v := .tuple #[.agg #[.int .i64 0, .int .i64 0], .bool false]) (by simp [results, Try.results15, go_sem, hgs]) rfl (by rw [HN.out]; exact ⟨rfl, HB.out⟩)
          | true =>
            have he : ¬ e = (s.size : Int) := fun h => hall ⟨rfl, rfl, rfl, rfl, h⟩
            have he' : (e == (s.size : Int)) = false := beq_eq_false_iff_ne.2 he
            clear hall
            go_wp2
            exact bodyPost_ret (v := .tuple #[.agg #[.int .i64 0, .int .i64 0], .bool false]) (by simp [results, Try.results15, go_sem, hgs]) rfl (by rw [HN.out]; exact ⟨rfl, HB.out⟩)
  case pos =>
    obtain ⟨rfl, hk, rfl, rfl, hes⟩ := hall
    subst hk
    subst hes
    have hM := fun W => specMetaOk_any g r W
    clear hR hB1
    cases hok : metaOk g r with
    | false =>
      have HN : Hid (getMe n f = (0, 0, false)) := HNO.out (fun h => by have := h.2.2.2.2.2; rw [hok] at this; cases this)
      rw [hok] at hM
      clear HNO HIS HQ hok HY
      go_wp2_with fail
      refine (hM _).mono ?_
      rintro e1 w2 ⟨rfl, hb2⟩
      have hR3 := hR2.below hb2
      obtain ⟨x0, x1⟩ := hR3.cells
      obtain ⟨r0, r1⟩ := hR3.frozen
      have hgs := stored2 (.int .i64 0) (.int .i64 0) x0 x1
      have hB3 := hB2.trans (hb2.mono hB2.size)
      have HB : Hid (Below w.heap.size w ((w2.setCell ⟨w.heap.size, 0, none⟩ (.int .i64 0)).setCell ⟨w.heap.size, 1, none⟩ (.int .i64 0))) := (hB3.setCell (Nat.le_refl _) _).setCell (Nat.le_refl _) _
      clear hM hb2 hR2 hR3 hB2 hB3
      go_wp2
      exact bodyPost_ret (v := .tuple #[.agg #[.int .i64 0, .int .i64 0], .bool false]) (by simp [results, Try.results15, go_sem, hgs]) rfl (by rw [HN.out]; exact ⟨rfl, HB.out⟩)
    | true =>
      have HN : Hid (getMe n f = (g, r, true)) := by show _ = _; rw [HIS.out, if_pos ⟨rfl, rfl, rfl, rfl, rfl, hok⟩]
      rw [hok] at hM
      clear HNO HIS HQ hok HY
      have hX := MBox.new w1 g r
      go_wp2_with fail
      refine (hM _).mono ?_
      rintro e1 w2 ⟨rfl, hb2⟩
      have hR3 := hR2.below hb2
      have hX3 := hX.below hb2
      obtain ⟨m0, m1⟩ := hX3.cells
      obtain ⟨x0, x1⟩ := hR3.cells
      obtain ⟨r0, r1⟩ := hR3.frozen
      have hgs := stored2 (.int .i64 g) (.int .i64 r) x0 x1
      have hB3 := hB2.trans (hb2.mono hB2.size)
      have HB : Hid (Below w.heap.size w ((w2.setCell ⟨w.heap.size, 0, none⟩ (.int .i64 g)).setCell ⟨w.heap.size, 1, none⟩ (.int .i64 r))) := (hB3.setCell (Nat.le_refl _) _).setCell (Nat.le_refl _) _
      clear hM hb2 hR2 hR3 hB2 hB3 hX hX3
      go_wp2
      exact bodyPost_ret (v := .tuple #[.agg #[.int .i64 g, .int .i64 r], .bool true]) (by simp [results, Try.results15, go_sem, hgs]) rfl (by rw [HN.out]; exact ⟨rfl, HB.out⟩)
end Go.Proofs.Ytgnhlnlejkgnkaa

/-
  What the law's own helper eqByteS comes to on rows that are alike.
-/
namespace Go.Proofs.Ytgnhlnlejkgnkaa
open Go.RowKit
set_option maxRecDepth 4000

/-- Two slices that read alike: true. -/
theorem eqByteS_same (a1 a2 : Option Addr) (n c1 c2 : Nat) (f g : Nat → Int) (w : World) (h1 : View w a1 n c1 f) (h2 : View w a2 n c2 g) (hn : n ≤ 281474976710656) (he : ∀ i, i < n → f i = g i) :
    Calls Try.prog 12 #[.slice a1 n c1, .slice a2 n c2] w fun e w' => e = .returned (.bool true) ∧ Below w.heap.size w w' := by
  go_enter Try.func12, Try.ntmps12
  go_wp2
  go_loopg [5] n (fun q i wr => ∃ k : Nat, k ≤ n ∧ q = n - k ∧ i = .int .i64 k ∧ Below w.heap.size w wr)
  case atStart => exact ⟨0, Nat.zero_le _, rfl, rfl, Below.refl _ _⟩
  case round =>
    obtain ⟨k, hk, rfl, rfl, hB⟩ := hrel
    by_cases hlt : k < n
    · obtain ⟨b1, o1, rfl, hb1, hc1⟩ := h1.cells (by omega)
      obtain ⟨b2, o2, rfl, hb2, hc2⟩ := h2.cells (by omega)
      have hkz : (k : Int) < (n : Int) := by omega
      have e1 : wr.cell? ⟨b1, o1 + k, none⟩ = some (.int .u8 (f k)) := by rw [hB.cell (p := ⟨b1, o1 + k, none⟩) hb1]; exact hc1 k hlt
      have e2 : wr.cell? ⟨b2, o2 + k, none⟩ = some (.int .u8 (f k)) := by rw [hB.cell (p := ⟨b2, o2 + k, none⟩) hb2, he k hlt]; exact hc2 k hlt
      clear hc1 hc2 he
      go_wp2
      go_region
      all_goals go_wp2
      all_goals
        go_roundg (n - (k + 1))
        case measure => omega
        case rel => exact ⟨k + 1, by omega, rfl, by go_num, by first | exact hB.drew | exact hB⟩
    · go_wp2
      go_ret
      exact ⟨rfl, hB⟩
end Go.Proofs.Ytgnhlnlejkgnkaa

/-
  What the law's own helpers markByteS and heldByteS come to: the one writes a count into a row of the call's own, the other finds it there.
-/
namespace Go.Proofs.Ytgnhlnlejkgnkaa
open Go.RowKit
set_option maxRecDepth 4000

structure Marked (w wr : World) (b n : Nat) (f : Nat → Int) (k : Int) (j : Nat) : Prop where
  only : Only b w wr
  row : Row 5 wr b n (fun i => if i < j then (k + i) % 256 else f i)

theorem marked_step {w wr : World} {b n : Nat} {f : Nat → Int} {k : Int} {j : Nat} (h : Marked w wr b n f k j) : Marked w (wr.setCell ⟨b, j, none⟩ (.int .u8 ((k + j) % 256))) b n f k (j + 1) := by
  refine ⟨h.only.setCell _, (h.row.set j _).congr (fun i _ => ?_)⟩
  by_cases e : i = j
  · subst e; simp
  · rw [if_neg e]
    by_cases hlt : i < j
    · rw [if_pos hlt, if_pos (by omega)]
    · rw [if_neg hlt, if_neg (by omega)]

set_option maxHeartbeats 400000 in
theorem mark_any (b n cap : Nat) (f : Nat → Int) (k : Int) (w : World) (hr : Row 5 w b n f) (hk : 0 ≤ k) (hk1 : k + n ≤ 4611686018427387904) :
    Calls Try.prog 13 #[.slice (some ⟨b, 0, none⟩) n cap, .int .i64 k] w fun e w' => e = .returned (.int .i64 (k + n)) ∧ Row 5 w' b n (fun i => (k + i) % 256) ∧ Only b w w' := by
  go_enter Try.func13, Try.ntmps13
  go_wp2
  go_loopg [1, 5] n (fun g s i wr => ∃ j : Nat, j ≤ n ∧ g = n - j ∧ s = .int .i64 (k + j) ∧ i = .int .i64 j ∧ Marked w wr b n f k j)
  case atStart => exact ⟨0, Nat.zero_le _, rfl, by simp, rfl, Only.refl _ _, hr.congr (fun i _ => by simp)⟩
  case round =>
    obtain ⟨j, hj, rfl, rfl, rfl, hM⟩ := hrel
    clear hr
    by_cases hlt : j < n
    · have hjz : (j : Int) < (n : Int) := by omega
      have hc := hM.row.cell hlt
      have hf := hM.row.frozen j
      have hS : Hid (Marked w (wr.setCell ⟨b, j, none⟩ (.int .u8 ((k + j) % 256))) b n f k (j + 1)) := marked_step hM
      have hw : ∀ x : Int, IntKind.u8.wrap x = x % 256 := u8_wrap
      clear hM
      go_wp2
      go_roundg (n - (j + 1))
      case measure => omega
      case rel => exact ⟨j + 1, by omega, rfl, by go_num, by go_num, hS.out⟩
    · obtain rfl : j = n := by omega
      have hF : Hid (Row 5 wr b j (fun i => (k + i) % 256)) := hM.row.congr (fun i hi => by rw [if_pos (by omega)])
      have hO := hM.only
      clear hM
      go_wp2
      go_ret
      exact ⟨rfl, hF.out, hO⟩

set_option maxHeartbeats 400000 in
theorem held_any (ao : Option Addr) (n cap : Nat) (f : Nat → Int) (k : Int) (w : World) (hv : View w ao n cap f) (he : ∀ i, i < n → f i = (k + i) % 256) (hk : 0 ≤ k) (hk1 : k + n ≤ 4611686018427387904) :
    Calls Try.prog 14 #[.slice ao n cap, .int .i64 k] w fun e w' => e = .returned (.int .i64 (k + n)) ∧ Below w.heap.size w w' := by
  go_enter Try.func14, Try.ntmps14
  go_wp2
  go_loopg [1, 5] n (fun g s i wr => ∃ j : Nat, j ≤ n ∧ g = n - j ∧ s = .int .i64 (k + j) ∧ i = .int .i64 j ∧ Below w.heap.size w wr)
  case atStart => exact ⟨0, Nat.zero_le _, rfl, by simp, rfl, Below.refl _ _⟩
  case round =>
    obtain ⟨j, hj, rfl, rfl, rfl, hB⟩ := hrel
    by_cases hlt : j < n
    · obtain ⟨b, off, rfl, hb, hc⟩ := hv.cells (by omega)
      have hjz : (j : Int) < (n : Int) := by omega
      have hc1 : wr.cell? ⟨b, off + j, none⟩ = some (.int .u8 ((k + j) % 256)) := by rw [hB.cell (p := ⟨b, off + j, none⟩) hb, ← he j hlt]; exact hc j hlt
      have hw : ∀ x : Int, IntKind.u8.wrap x = x % 256 := u8_wrap
      clear hc he
      go_wp2
      all_goals
        go_roundg (n - (j + 1))
        case measure => omega
        case rel => exact ⟨j + 1, by omega, rfl, by go_num, by go_num, by first | exact hB.drew | exact hB⟩
    · obtain rfl : j = n := by omega
      go_wp2
      go_ret
      exact ⟨rfl, hB⟩
end Go.Proofs.Ytgnhlnlejkgnkaa

/-
  What the law's own helpers over bytes come to: toByteS copies into a new row, eqByteS answers true where both read alike. For every slice of bytes that reads.
-/
namespace Go.Proofs.Ytgnhlnlejkgnkaa
open Go.RowKit
set_option maxRecDepth 4000

/-- k of the n bytes are copied into the new row. -/
structure Copied (w wr : World) (n : Nat) (f : Nat → Int) (k : Nat) : Prop where
  below : Below w.heap.size w wr
  size : wr.heap.size = w.heap.size + 1
  row : wr.rowIs w.heap.size 5 n (fun i => .int .u8 (if i < k then f i else 0))

theorem copied_start (w : World) (n : Nat) (f : Nat → Int) : Copied w (w.alloc (.cells (madeCells #[.int .u8 0] n) 5)) n f 0 :=
  ⟨(Below.refl _ _).alloc (Nat.le_refl _) _, by simp, (World.rowIs_made w _ n 5).congr (fun i _ => by simp)⟩

theorem copied_step {w wr : World} {n : Nat} {f : Nat → Int} {k : Nat} (h : Copied w wr n f k) : Copied w (wr.setCell ⟨w.heap.size, k, none⟩ (.int .u8 (f k))) n f (k + 1) := by
  refine ⟨h.below.setCell (Nat.le_refl _) _, by simp [h.size], (h.row.set k _).congr (fun i _ => ?_)⟩
  by_cases e : i = k
  · subst e; simp
  · rw [if_neg e]
    by_cases hlt : i < k
    · rw [if_pos hlt, if_pos (by omega)]
    · rw [if_neg hlt, if_neg (by omega)]

theorem Copied.drew {w wr : World} {n : Nat} {f : Nat → Int} {k : Nat} (h : Copied w wr n f k) : Copied w wr.drew n f k := ⟨h.below.drew, h.size, h.row.drew⟩

set_option maxHeartbeats 400000 in
theorem toByteS_any (ao : Option Addr) (n cap : Nat) (f : Nat → Int) (w : World) (hv : View w ao n cap f) (hn : n ≤ 281474976710656) :
    Calls Try.prog 16 #[.slice ao n cap] w fun e w' => e = .returned (.slice (some ⟨w.heap.size, 0, none⟩) n n) ∧ w'.rowIs w.heap.size 5 n (fun i => .int .u8 (f i)) ∧ Below w.heap.size w w' ∧ w'.heap.size = w.heap.size + 1 := by
  have hmk := run_make_row' (P := Try.prog) 28 5 (.int .u8 0) 1 Try.underlying28 Try.info5 rfl .i64 .i64 n (by omega) (by omega)
  go_enter Try.func16, Try.ntmps16
  go_wp2
  clear hmk
  go_loopg [4] n (fun g i wr => ∃ k : Nat, k ≤ n ∧ g = n - k ∧ i = .int .i64 k ∧ Copied w wr n f k)
  case atStart => exact ⟨0, Nat.zero_le _, rfl, rfl, copied_start w n f⟩
  case round =>
    obtain ⟨k, hk, rfl, rfl, hC⟩ := hrel
    by_cases hlt : k < n
    · obtain ⟨b, off, rfl, hb, hc⟩ := hv.cells (by omega)
      have hkz : (k : Int) < (n : Int) := by omega
      have hc1 : wr.cell? ⟨b, off + k, none⟩ = some (.int .u8 (f k)) := by rw [hC.below.cell (p := ⟨b, off + k, none⟩) hb]; exact hc k hlt
      have hc2 : wr.cell? ⟨w.heap.size, k, none⟩ = some (.int .u8 (if k < k then f k else 0)) := hC.row.cell hlt
      have hf2 := hC.row.frozen k
      have hS : Hid (Copied w (wr.setCell ⟨w.heap.size, k, none⟩ (.int .u8 (f k))) n f (k + 1)) := copied_step hC
      clear hC hc
      go_wp2
      go_roundg (n - (k + 1))
      case measure => omega
      case rel => exact ⟨k + 1, by omega, rfl, by go_num, hS.out⟩
    · have hkn : k = n := by omega
      have hF : wr.rowIs w.heap.size 5 n (fun i => .int .u8 (f i)) := hC.row.congr (fun i hi => by rw [if_pos (by omega)])
      go_wp2
      go_ret
      exact ⟨rfl, hF, hC.below, hC.size⟩

end Go.Proofs.Ytgnhlnlejkgnkaa

/-
  The laws FnExactMetaOk, FnExactPutMeta, FnExactGetMeta, walked.
-/
namespace Go.Proofs.Ytgnhlnlejkgnkaa
open Go.RowKit
set_option maxRecDepth 4000

/-- A root of the law's own in a variable. -/
def LBox (w : World) (B : Nat) (g r : Int) : Prop := w.rowIs B 23 2 (metaC g r)
theorem LBox.new (w : World) (g r : Int) : LBox (w.alloc (.cells #[.int .i64 g, .int .i64 r] 23)) w.heap.size g r :=
  World.rowIs_alloc w _ 23 (metaC g r) (fun j hj => by match j, hj with | 0, _ => rfl | 1, _ => rfl)
theorem LBox.cells {w : World} {B : Nat} {g r : Int} (h : LBox w B g r) : w.cell? ⟨B, 0, none⟩ = some (.int .i64 g) ∧ w.cell? ⟨B, 1, none⟩ = some (.int .i64 r) :=
  ⟨h.cell (i := 0) (by decide), h.cell (i := 1) (by decide)⟩
theorem LBox.lt {w : World} {B : Nat} {g r : Int} (h : LBox w B g r) : B < w.heap.size := World.rowIs.lt h
theorem LBox.below {w w' : World} {B : Nat} {g r : Int} (h : LBox w B g r) (hb : Below w.heap.size w w') : LBox w' B g r := h.of_block (hb.block B h.lt)
theorem LBox.only {w w' : World} {B c : Nat} {g r : Int} (h : LBox w B g r) (hb : Only c w w') (hne : B ≠ c) : LBox w' B g r := h.of_block (hb.block B hne)

set_option maxHeartbeats 1000000 in
theorem toMeta_any (g r : Int) (w : World) :
    Calls Try.prog 8 #[.agg #[.int .i64 g, .int .i64 r]] w fun e w' => e = .returned (.agg #[.int .i64 g, .int .i64 r]) ∧ Below w.heap.size w w' := by
  go_enter Try.func8, Try.ntmps8
  go_wp2
  refine bodyPost_ret (v := .agg #[.int .i64 g, .int .i64 r]) (by simp [results, Try.results8, go_sem]) rfl ⟨rfl, ?_⟩
  repeat (first | exact Below.refl _ _ | refine Below.alloc ?_ (by simp <;> omega) _ | refine Below.setCell ?_ (by simp <;> omega) _ | refine Below.drew ?_)
set_option maxHeartbeats 2000000 in
theorem eqMeta_same (g r : Int) (w : World) :
    Calls Try.prog 18 #[.agg #[.int .i64 g, .int .i64 r], .agg #[.int .i64 g, .int .i64 r]] w fun e w' => e = .returned (.bool true) ∧ Below w.heap.size w w' := by
  have hg : (g == g) = true := beq_self_eq_true _
  have hr : (r == r) = true := beq_self_eq_true _
  go_enter Try.func18, Try.ntmps18
  go_wp2
  go_ret
  exact ⟨rfl, by repeat (first | exact Below.refl _ _ | refine Below.alloc ?_ (by simp <;> omega) _ | refine Below.drew ?_)⟩

set_option maxHeartbeats 1000000 in
theorem lawMetaOk (g r : Int) (w : World) :
    Calls Try.prog 3 #[.agg #[.int .i64 g, .int .i64 r]] w fun e w' => e = .returned (.bool true) ∧ Below w.heap.size w w' := by
  obtain ⟨b, hb⟩ : ∃ b, Hid (metaOk g r = b) := ⟨_, rfl⟩
  have hT := fun W => toMeta_any g r W
  have hI := fun W => implMetaOk_any g r W
  have hS := fun W => specMetaOk_any g r W
  simp only [hb.out] at hI hS
  have hbb : (b == b) = true := beq_self_eq_true _
  clear hb
  have hB : Below w.heap.size w (w.alloc (.cells #[.int .i64 g, .int .i64 r] 23)) := (Below.refl _ _).alloc (Nat.le_refl _) _
  have hX := LBox.new w g r
  obtain ⟨x0, x1⟩ := hX.cells
  go_enter Try.func3, Try.ntmps3
  go_wp2_with fail
  refine (hT _).mono ?_
  rintro e w1 ⟨rfl, hb1⟩
  replace hX := hX.below hb1
  clear x0 x1
  obtain ⟨x0, x1⟩ := hX.cells
  replace hB := hB.trans (hb1.mono hB.size)
  clear hb1
  go_wp2_with fail
  refine (hS _).mono ?_
  rintro e w2 ⟨rfl, hb2⟩
  replace hX := hX.below hb2
  clear x0 x1
  obtain ⟨x0, x1⟩ := hX.cells
  replace hB := hB.trans (hb2.mono hB.size)
  clear hb2
  go_wp2_with fail
  refine (hT _).mono ?_
  rintro e w3 ⟨rfl, hb3⟩
  replace hX := hX.below hb3
  clear x0 x1
  obtain ⟨x0, x1⟩ := hX.cells
  replace hB := hB.trans (hb3.mono hB.size)
  clear hb3
  go_wp2_with fail
  refine (hI _).mono ?_
  rintro e w4 ⟨rfl, hb4⟩
  replace hX := hX.below hb4
  clear x0 x1
  obtain ⟨x0, x1⟩ := hX.cells
  replace hB := hB.trans (hb4.mono hB.size)
  clear hb4
  go_wp2
  go_ret
  exact ⟨rfl, hB⟩

set_option maxHeartbeats 2000000 in
theorem lawPutMeta (g r : Int) (w : World) :
    Calls Try.prog 4 #[.agg #[.int .i64 g, .int .i64 r]] w fun e w' => e = .returned (.bool true) ∧ Below w.heap.size w w' := by
  have hT := fun W => toMeta_any g r W
  have hI := fun W => implPutMeta_any g r W
  have hS := fun W => specPutMeta_any g r W
  have hY := metaF_byte g r
  have hN := metaF_len g r
  obtain ⟨L, hL⟩ : ∃ L, Hid (metaF g r = L) := ⟨_, rfl⟩
  simp only [hL.out] at hI hS hY hN
  have HY : Hid (∀ i, i < L.length → 0 ≤ L.getD i 0 ∧ L.getD i 0 ≤ 255) := bytes_of_list hY
  have HM : Hid (∀ i : Nat, i < L.length → 0 ≤ ((1 : Int) + i) % 256 ∧ ((1 : Int) + i) % 256 ≤ 255) := fun i _ => by omega
  have hkN : (0 : Int) ≤ 1 + (L.length : Int) := by omega
  clear hL hY
  have hB : Below w.heap.size w (w.alloc (.cells #[.int .i64 g, .int .i64 r] 23)) := (Below.refl _ _).alloc (Nat.le_refl _) _
  have hX := LBox.new w g r
  obtain ⟨x0, x1⟩ := hX.cells
  go_enter Try.func4, Try.ntmps4
  go_wp2_with fail
  refine (hT _).mono ?_
  rintro e w1 ⟨rfl, hb1⟩
  replace hX := hX.below hb1
  clear x0 x1
  obtain ⟨x0, x1⟩ := hX.cells
  replace hB := hB.trans (hb1.mono hB.size)
  clear hb1
  go_wp2_with fail
  refine (hS _).mono ?_
  rintro e w2 ⟨pg, pc, rfl, hpg, hpc, hp, hb2⟩
  replace hX := hX.below hb2
  clear x0 x1
  obtain ⟨x0, x1⟩ := hX.cells
  have hlp := hp.lt
  have hxlp := hX.lt
  have hszp := hB.size
  replace hB := hB.trans (hb2.mono hB.size)
  clear hb2
  go_wp2_with fail
  refine (hT _).mono ?_
  rintro e w3 ⟨rfl, hb3⟩
  replace hp := hp.belowAll hb3
  replace hX := hX.below hb3
  clear x0 x1
  obtain ⟨x0, x1⟩ := hX.cells
  replace hB := hB.trans (hb3.mono hB.size)
  clear hb3
  have hltqhp := hp.lt
  go_wp2_with fail
  refine (hI _).mono ?_
  rintro e w4 ⟨qg, qc, rfl, hqg, hqc, hq, hb4⟩
  replace hp := hp.belowAll hb4
  replace hX := hX.below hb4
  clear x0 x1
  obtain ⟨x0, x1⟩ := hX.cells
  have hlq := hq.lt
  have hxlq := hX.lt
  have hszq := hB.size
  replace hB := hB.trans (hb4.mono hB.size)
  clear hb4
  go_wp2_with fail
  refine (eqByteS_same _ _ L.length _ _ (fun i => L.getD i 0) (fun i => L.getD i 0) _ (hq.view hqc HY.out) (hp.view hpc HY.out) (by omega) (fun _ _ => rfl)).mono ?_
  rintro e w5 ⟨rfl, hb5⟩
  replace hp := hp.belowAll hb5
  replace hq := hq.belowAll hb5
  replace hX := hX.below hb5
  clear x0 x1
  obtain ⟨x0, x1⟩ := hX.cells
  replace hB := hB.trans (hb5.mono hB.size)
  clear hb5
  have hne : pg < qg := by omega
  go_wp2_with fail
  refine (mark_any _ L.length _ (fun i => L.getD i 0) 1 _ hq (by omega) (by omega)).mono ?_
  rintro e w6 ⟨rfl, hq2, ho6⟩
  replace hp := ho6.row hp (by omega)
  replace hX := hX.only ho6 (by omega)
  clear x0 x1
  obtain ⟨x0, x1⟩ := hX.cells
  replace hB := hB.trans (ho6.below (B := w.heap.size) (by omega))
  clear ho6
  go_wp2_with fail
  refine (held_any _ L.length _ _ 1 _ (hq2.view hqc HM.out) (fun _ _ => rfl) (by omega) (by omega)).mono ?_
  rintro e w7 ⟨rfl, hb7⟩
  replace hp := hp.belowAll hb7
  replace hq2 := hq2.belowAll hb7
  replace hX := hX.below hb7
  clear x0 x1
  obtain ⟨x0, x1⟩ := hX.cells
  replace hB := hB.trans (hb7.mono hB.size)
  clear hb7
  go_wp2_with fail
  refine (hT _).mono ?_
  rintro e w8 ⟨rfl, hb8⟩
  replace hp := hp.belowAll hb8
  replace hq2 := hq2.belowAll hb8
  replace hX := hX.below hb8
  clear x0 x1
  obtain ⟨x0, x1⟩ := hX.cells
  replace hB := hB.trans (hb8.mono hB.size)
  clear hb8
  have hltzhp := hp.lt
  have hltzhq2 := hq2.lt
  go_wp2_with fail
  refine (hI _).mono ?_
  rintro e w9 ⟨zg, zc, rfl, hzg, hzc, hz, hb9⟩
  replace hp := hp.belowAll hb9
  replace hq2 := hq2.belowAll hb9
  replace hX := hX.below hb9
  clear x0 x1
  obtain ⟨x0, x1⟩ := hX.cells
  have hlz := hz.lt
  have hxlz := hX.lt
  have hszz := hB.size
  replace hB := hB.trans (hb9.mono hB.size)
  clear hb9
  go_wp2_with fail
  refine (eqByteS_same _ _ L.length _ _ (fun i => L.getD i 0) (fun i => L.getD i 0) _ (hz.view hzc HY.out) (hp.view hpc HY.out) (by omega) (fun _ _ => rfl)).mono ?_
  rintro e w10 ⟨rfl, hb10⟩
  replace hp := hp.belowAll hb10
  replace hq2 := hq2.belowAll hb10
  replace hz := hz.belowAll hb10
  replace hX := hX.below hb10
  clear x0 x1
  obtain ⟨x0, x1⟩ := hX.cells
  replace hB := hB.trans (hb10.mono hB.size)
  clear hb10
  go_wp2_with fail
  refine (held_any _ L.length _ _ 1 _ (hq2.view hqc HM.out) (fun _ _ => rfl) (by omega) (by omega)).mono ?_
  rintro e w11 ⟨rfl, hb11⟩
  replace hp := hp.belowAll hb11
  replace hq2 := hq2.belowAll hb11
  replace hz := hz.belowAll hb11
  replace hX := hX.below hb11
  clear x0 x1
  obtain ⟨x0, x1⟩ := hX.cells
  replace hB := hB.trans (hb11.mono hB.size)
  clear hb11
  go_wp2
  go_ret
  exact ⟨rfl, hB⟩

set_option maxHeartbeats 2000000 in
theorem lawGetMeta (ao : Option Addr) (n cap : Nat) (f : Nat → Int) (w : World) (hv : View w ao n cap f) :
    Calls Try.prog 5 #[.slice ao n cap] w fun e w' => e = .returned (.bool true) ∧ Below w.heap.size w w' := by
  by_cases hbig0 : 1048576 < n
  · have hz : (1048576 : Int) < (n : Int) := by omega
    go_enter Try.func5, Try.ntmps5
    go_wp2
    go_ret
    exact ⟨rfl, Below.refl _ _⟩
  have hz0 : (n : Int) ≤ 1048576 := by omega
  obtain ⟨g, r, ok, hM⟩ : ∃ g r ok, Hid (getMe n f = (g, r, ok)) := ⟨_, _, _, rfl⟩
  have hS : ∀ (b c : Nat) (W : World), View W (some ⟨b, 0, none⟩) n c f → Calls Try.prog 15 #[.slice (some ⟨b, 0, none⟩) n c] W (MeTo W (g, r, ok)) := by
    intro b c W h
    have := specGetMeta_any _ n c f W (fun _ => ⟨b, rfl⟩) h (by omega)
    rwa [hM.out] at this
  have hI : ∀ (b c : Nat) (W : World), View W (some ⟨b, 0, none⟩) n c f → Calls Try.prog 17 #[.slice (some ⟨b, 0, none⟩) n c] W (MeTo W (g, r, ok)) := by
    intro b c W h
    have := implGetMeta_any _ n c f W (fun _ => ⟨b, rfl⟩) h (by omega)
    rwa [hM.out] at this
  have hbb : (ok == ok) = true := beq_self_eq_true _
  clear hM
  go_enter Try.func5, Try.ntmps5
  go_wp2_with fail
  refine (toByteS_any ao n cap f w hv (by omega)).mono ?_
  rintro e w1 ⟨rfl, hr1, hb1, -⟩
  go_wp2_with fail
  refine (hS _ _ _ ((Row.ofIs hr1).view (Nat.le_refl _) hv.byte)).mono ?_
  rintro e w2 ⟨rfl, hb2⟩
  replace hb2 := hb1.trans (hb2.mono hb1.size)
  clear hr1 hb1 hS
  go_wp2_with fail
  obtain ⟨W3, hW3, hb3⟩ : ∃ W3, Hid (W3 = w2.alloc (.cells #[.int .i64 g, .int .i64 r] 25)) ∧ Below w.heap.size w W3 := ⟨_, rfl, hb2.alloc hb2.size _⟩
  have hX := MBox.new w2 g r
  rw [← hW3.out] at hX ⊢
  obtain ⟨X, hXe⟩ : ∃ X, Hid (w2.heap.size = X) := ⟨_, rfl⟩
  rw [hXe.out] at hX ⊢
  refine (toByteS_any ao n cap f W3 (hv.below hb3) (by omega)).mono ?_
  rintro e w4 ⟨rfl, hr4, hb4, -⟩
  replace hX := hX.below hb4
  have hB := hb3.trans (hb4.mono hb3.size)
  have hx4 := Row.ofIs hr4
  obtain ⟨Y, hYe⟩ : ∃ Y, Hid (W3.heap.size = Y) := ⟨_, rfl⟩
  rw [hYe.out] at hx4 ⊢
  clear hb2 hb3 hb4 hr4 hW3 hXe hYe
  go_wp2_with fail
  refine (hI _ _ _ (hx4.view (Nat.le_refl _) hv.byte)).mono ?_
  rintro e w5 ⟨rfl, hb5⟩
  replace hX := hX.below hb5
  replace hx4 := hx4.belowAll hb5
  replace hB := hB.trans (hb5.mono hB.size)
  have hxl := hX.lt
  obtain ⟨x0, x1⟩ := hX.cells
  clear hb5 hI
  go_wp2_with fail
  obtain ⟨W6, hW6⟩ : ∃ W6, Hid (w5.alloc (.cells #[.int .i64 g, .int .i64 r] 25) = W6) := ⟨_, rfl⟩
  have hb6 : Below w5.heap.size w5 W6 := by rw [← hW6.out]; exact (Below.refl _ _).alloc (Nat.le_refl _) _
  rw [hW6.out]
  refine (eqMeta_same g r W6).mono ?_
  rintro e w7 ⟨rfl, hb7⟩
  replace hb7 := hb6.trans (hb7.mono hb6.size)
  replace hx4 := hx4.belowAll hb7
  replace hB := hB.trans (hb7.mono hB.size)
  clear hb6 hb7 hW6 hX hxl x0 x1
  go_wp2_with fail
  refine (toByteS_any ao n cap f w7 (hv.below hB) (by omega)).mono ?_
  rintro e w8 ⟨rfl, hr8, hb8, -⟩
  replace hx4 := hx4.belowAll hb8
  replace hB := hB.trans (hb8.mono hB.size)
  clear hb8
  go_wp2_with fail
  refine (eqByteS_same _ _ n _ _ f f w8 (hx4.view (Nat.le_refl _) hv.byte) ((Row.ofIs hr8).view (Nat.le_refl _) hv.byte) (by omega) (fun _ _ => rfl)).mono ?_
  rintro e w9 ⟨rfl, hb9⟩
  replace hB := hB.trans (hb9.mono hB.size)
  clear hb9 hr8 hx4
  go_wp2
  go_ret
  exact ⟨rfl, hB⟩
end Go.Proofs.Ytgnhlnlejkgnkaa

