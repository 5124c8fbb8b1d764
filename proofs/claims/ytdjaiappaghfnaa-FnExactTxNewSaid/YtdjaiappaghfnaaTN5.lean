/-
  Together: But, MetaBox, MetaGet, MetaGetS, DiskView, ReadPlainD, DiskOwn, EqBytes, Mark
-/
import Derived.Test.YtdjaiappaghfnaaTN1
import Derived.Test.YtdjaiappaghfnaaTN4
import Derived.Test.YtdjaiappaghfnaaTN3
/-
  What turns but one block: how it is carried.
-/
namespace Go.Proofs.Ytdjaiappaghfnaa
open Go.RowKit
set_option maxRecDepth 4000

/-- Of what was there block g alone may have turned. -/
structure But (g : Nat) (w w' : World) : Prop where
  os : w'.os = w.os
  tape : w'.tape = w.tape
  output : w'.output = w.output
  size : w.heap.size ≤ w'.heap.size
  block : ∀ k, k < w.heap.size → k ≠ g → w'.heap[k]? = w.heap[k]?

theorem But.refl (g : Nat) (w : World) : But g w w := ⟨rfl, rfl, rfl, Nat.le_refl _, fun _ _ _ => rfl⟩
theorem But.trans {g : Nat} {a b c : World} (h : But g a b) (k : But g b c) : But g a c :=
  ⟨k.os.trans h.os, k.tape.trans h.tape, k.output.trans h.output, Nat.le_trans h.size k.size, fun i hi hg => (k.block i (Nat.lt_of_lt_of_le hi h.size) hg).trans (h.block i hi hg)⟩
theorem But.ofOnly {g : Nat} {w w' : World} (h : Only g w w') : But g w w' := ⟨h.os, h.tape, h.output, by rw [h.size]; exact Nat.le_refl _, fun k _ hk => h.block k hk⟩
theorem But.ofBelow {g : Nat} {w w' : World} (h : Below w.heap.size w w') : But g w w' := ⟨h.os, h.tape, h.output, h.size, fun k hk _ => h.block k hk⟩
theorem But.below {g B : Nat} {w w' : World} (h : But g w w') (hB : B ≤ g) (hs : B ≤ w.heap.size) : Below B w w' := ⟨h.os, h.tape, h.output, h.size, fun k hk => h.block k (by omega) (by omega)⟩
theorem But.row {t : TypeId} {g b n : Nat} {f : Nat → Int} {w w' : World} (h : But g w w') (hr : Row t w b n f) (hne : b ≠ g) : Row t w' b n f := hr.of_block (h.block b hr.lt hne)
theorem But.view {g : Nat} {ao : Option Addr} {n cap : Nat} {f : Nat → Int} {w w' : World} (h : But g w w') (hv : View w ao n cap f) (hne : ∀ a, ao = some a → 0 < n → a.block ≠ g) : View w' ao n cap f := by
  refine ⟨hv.le, hv.byte, fun hn => ?_⟩
  obtain ⟨b', off, e, hlt, hc⟩ := hv.cells hn
  refine ⟨b', off, e, Nat.lt_of_lt_of_le hlt h.size, fun i hi => ?_⟩
  rw [World.cell?_of_block (w := w) (h.block b' hlt (hne _ e hn))]
  exact hc i hi
theorem Only.grown {g : Nat} {w w' : World} (h : Only g w w') : w.grownBy w' (some g) :=
  ⟨h.os, h.tape, h.output, by rw [h.size]; exact Nat.le_refl _, fun k _ hk => h.block k (fun e => hk (by rw [e]))⟩
theorem But.grown {g : Nat} {w w' : World} (h : But g w w') : w.grownBy w' (some g) := ⟨h.os, h.tape, h.output, h.size, fun k hk hne => h.block k hk (fun e => hne (by rw [e]))⟩
end Go.Proofs.Ytdjaiappaghfnaa

/-
  A root in a variable of the call's own.
-/
namespace Go.Proofs.Ytdjaiappaghfnaa
open Go.RowKit
set_option maxRecDepth 4000

/-- The two cells of a root. -/
def metaC (g r : Int) : Nat → Value
  | 0 => .int .i64 g
  | _ => .int .i64 r
/-- A root in a variable of the call's own. -/
def MBox (w : World) (B : Nat) (g r : Int) : Prop := w.rowIs B 33 2 (metaC g r)
theorem MBox.new (w : World) (g r : Int) : MBox (w.alloc (.cells #[.int .i64 g, .int .i64 r] 33)) w.heap.size g r :=
  World.rowIs_alloc w _ 33 (metaC g r) (fun j hj => by match j, hj with | 0, _ => rfl | 1, _ => rfl)
theorem MBox.cells {w : World} {B : Nat} {g r : Int} (h : MBox w B g r) : w.cell? ⟨B, 0, none⟩ = some (.int .i64 g) ∧ w.cell? ⟨B, 1, none⟩ = some (.int .i64 r) :=
  ⟨h.cell (i := 0) (by decide), h.cell (i := 1) (by decide)⟩
theorem MBox.frozen {w : World} {B : Nat} {g r : Int} (h : MBox w B g r) : w.frozen? ⟨B, 0, none⟩ = false ∧ w.frozen? ⟨B, 1, none⟩ = false :=
  ⟨World.rowIs.frozen h 0, World.rowIs.frozen h 1⟩
theorem MBox.lt {w : World} {B : Nat} {g r : Int} (h : MBox w B g r) : B < w.heap.size := World.rowIs.lt h
theorem MBox.below {w w' : World} {B : Nat} {g r : Int} (h : MBox w B g r) (hb : Below w.heap.size w w') : MBox w' B g r := h.of_block (hb.block B h.lt)
theorem MBox.but {w w' : World} {B c : Nat} {g r : Int} (h : MBox w B g r) (hb : But c w w') (hne : B ≠ c) : MBox w' B g r := h.of_block (hb.block B h.lt hne)
theorem MBox.set0 {w : World} {B : Nat} {g r : Int} (h : MBox w B g r) (x : Int) : MBox (w.setCell ⟨B, 0, none⟩ (.int .i64 x)) B x r :=
  (World.rowIs.set h 0 _).congr (fun j hj => by match j, hj with | 0, _ => rfl | 1, _ => rfl)
theorem MBox.set1 {w : World} {B : Nat} {g r : Int} (h : MBox w B g r) (x : Int) : MBox (w.setCell ⟨B, 1, none⟩ (.int .i64 x)) B g x :=
  (World.rowIs.set h 1 _).congr (fun j hj => by match j, hj with | 0, _ => rfl | 1, _ => rfl)
theorem MBox.other {w : World} {B D i : Nat} {g r : Int} (h : MBox w B g r) (hne : B ≠ D) (u : Value) : MBox (w.setCell ⟨D, i, none⟩ u) B g r := h.of_block (Below.heap_setCell _ _ _ _ hne)
end Go.Proofs.Ytdjaiappaghfnaa

/-
  The program's GetMeta and the model's: what is read as a root.
-/
namespace Go.Proofs.Ytdjaiappaghfnaa
open Go.RowKit
set_option maxRecDepth 4000

/-- What GetMeta comes to. -/
def MeTo (w : World) (r : Int × Int × Bool) (e : Ending) (w' : World) : Prop := e = .returned (.tuple #[.agg #[.int .i64 r.1, .int .i64 r.2.1], .bool r.2.2]) ∧ Below w.heap.size w w'
theorem metaEq {L : List Int} {n : Nat} {f : Nat → Int} (hL : ∀ y ∈ L, 0 ≤ y ∧ y ≤ 255) (hf : ∀ i, i < n → 0 ≤ f i ∧ f i ≤ 255) : ((strOfNums (lof L.length (fun i => L.getD i 0))).toList == (strOfNums (lof n f)).toList) = decide (L = lof n f) := by
  rw [lof_self, Bool.eq_iff_iff, beq_iff_eq, decide_eq_true_eq]
  constructor
  · intro h
    refine strOfNums_inj hL (lof_byteS hf) ?_
    rw [ByteArray.toList_eq, ByteArray.toList_eq] at h
    exact ByteArray.ext (Array.ext' h)
  · intro h; rw [h]
theorem getU_lim {M : Nat} {F : Nat → Int} {p a q : Int} {c : Bool} (hb : ∀ i, i < M → 0 ≤ F i ∧ F i ≤ 255) (h : getU M F p = (a, q, c)) : 0 ≤ a ∧ a ≤ 1000000 ∧ 0 ≤ q ∧ q ≤ M := by
  cases c with
  | true =>
    obtain ⟨i, -, hA, hq, h0, h1⟩ := getU_read hb h
    have := hA.le
    omega
  | false =>
    obtain ⟨rfl, rfl⟩ := getU_none13 h
    omega
/-- What was read is no root. -/
theorem getMe_no {n : Nat} {f : Nat → Int} {k g q r e : Int} {s : ByteArray} {ok told led : Bool} (hp : getPg n f = (k, s, ok)) (ha : getU s.size (fun i => (sl s).getD i 0) 0 = (g, q, told)) (hb : getU s.size (fun i => (sl s).getD i 0) q = (r, e, led)) (h : ¬ (ok = true ∧ told = true ∧ led = true ∧ k = 2 ∧ e = (s.size : Int) ∧ metaOk g r = true)) : getMe n f = (0, 0, false) := by
  rw [getMe_is hp ha hb, if_neg h]

set_option maxHeartbeats 4000000 in
theorem implGetMeta_any (ao : Option Addr) (n cap : Nat) (f : Nat → Int) (w : World) (hao : 4 ≤ n → ∃ b, ao = some ⟨b, 0, none⟩) (hv : View w ao n cap f) (hn : n ≤ 1048576) :
    Calls Try.prog 70 #[.slice ao n cap] w (MeTo w (getMe n f)) := by
  obtain ⟨k, s, ok, hp⟩ : ∃ k s ok, Hid (getPg n f = (k, s, ok)) := ⟨_, _, _, rfl⟩
  obtain ⟨g, q, told, ha⟩ : ∃ g q told, Hid (getU s.size (fun i => (sl s).getD i 0) 0 = (g, q, told)) := ⟨_, _, _, rfl⟩
  obtain ⟨r, e, led, hb⟩ : ∃ r e led, Hid (getU s.size (fun i => (sl s).getD i 0) q = (r, e, led)) := ⟨_, _, _, rfl⟩
  have HY : Hid (∀ i, i < s.size → 0 ≤ (sl s).getD i 0 ∧ (sl s).getD i 0 ≤ 255) := by
    have := bytes_of_list (sl_byte s)
    rwa [sl_len] at this
  have l1 := getU_lim HY.out ha.out
  have l2 := getU_lim HY.out hb.out
  have HNO : Hid (¬ (ok = true ∧ told = true ∧ led = true ∧ k = 2 ∧ e = (s.size : Int) ∧ metaOk g r = true) → getMe n f = (0, 0, false)) := getMe_no hp.out ha.out hb.out
  have HIS : Hid (getMe n f = if ok = true ∧ told = true ∧ led = true ∧ k = 2 ∧ e = (s.size : Int) ∧ metaOk g r = true then (g, r, true) else (0, 0, false)) := getMe_is hp.out ha.out hb.out
  have hG := getPage_impl ao n cap f (w.alloc (.cells #[.int .i64 0, .int .i64 0] 33)) hao (hv.below ((Below.refl _ _).alloc (Nat.le_refl _) _)) hn
  rw [hp.out] at hG
  have hs : s.size ≤ 281474976710656 := by
    cases ok with
    | true => have := (getPg_read hv.byte hp.out).2.1; omega
    | false => have h2 := getPg_none (n := n) (f := f) (by rw [hp.out]); rw [hp.out] at h2; cases h2; rw [str_size]; simp
  have hbA : Below w.heap.size w (w.alloc (.cells #[.int .i64 0, .int .i64 0] 33)) := (Below.refl _ _).alloc (Nat.le_refl _) _
  have hR := MBox.new w 0 0
  have HCA : Hid (ok = true → ∃ b, ao = some ⟨b, 0, none⟩) := by
    intro h
    refine hao ?_
    by_cases h4 : 4 ≤ n
    · exact h4
    · have := getPg_bad (n := n) (f := f) (by unfold sumGood; simp; omega)
      rw [hp.out] at this
      cases this
      cases h
  have HV : Hid (View w ao n cap f) := hv
  have HFB : Hid (∀ i, i < n → 0 ≤ f i ∧ f i ≤ 255) := hv.byte
  clear hv hao
  go_enter Try.func70, Try.ntmps70
  go_wp2_with fail
  refine hG.mono ?_
  rintro e1 w1 ⟨g1, c1, rfl, hg1, hc1, hz1, hb1⟩
  have hv1 := hz1.view hc1 HY.out
  replace hR := hR.below hb1
  obtain ⟨x0, x1⟩ := hR.cells
  obtain ⟨r0, r1⟩ := hR.frozen
  have hxl := hR.lt
  have hB1 := hbA.trans (hb1.mono hbA.size)
  clear hG hz1 hg1 hb1 hbA
  go_wp2_with fail
  refine (getU_impl' _ s.size c1 _ 0 w1 ha hv1 (by omega) (by omega)).mono ?_
  rintro e1 _ ⟨rfl, rfl⟩
  go_wp2_with fail
  refine (getU_impl' _ s.size c1 _ q w1 hb hv1 (by omega) (by omega)).mono ?_
  rintro e1 _ ⟨rfl, rfl⟩
  clear hv1
  by_cases hall : ok = true ∧ told = true ∧ led = true
  case neg =>
    have HN : Hid (getMe n f = (0, 0, false)) := HNO.out (fun h => hall ⟨h.1, h.2.1, h.2.2.1⟩)
    clear HNO HIS HCA
    have hgs := stored2 (.int .i64 0) (.int .i64 0) x0 x1
    have HB : Hid (Below w.heap.size w ((w1.setCell ⟨w.heap.size, 0, none⟩ (.int .i64 0)).setCell ⟨w.heap.size, 1, none⟩ (.int .i64 0))) := (hB1.setCell (Nat.le_refl _) _).setCell (Nat.le_refl _) _
    clear HV HFB HY hp ha hb hR hB1
    cases ok with
    | false =>
      go_wp2
      exact bodyPost_ret (v := .tuple #[.agg #[.int .i64 0, .int .i64 0], .bool false]) (by simp [results, Try.results70, go_sem, hgs]) rfl (by rw [HN.out]; exact ⟨rfl, HB.out⟩)
    | true =>
      cases told with
      | false =>
        go_wp2
        exact bodyPost_ret (v := .tuple #[.agg #[.int .i64 0, .int .i64 0], .bool false]) (by simp [results, Try.results70, go_sem, hgs]) rfl (by rw [HN.out]; exact ⟨rfl, HB.out⟩)
      | true =>
        cases led with
        | false =>
          go_wp2
          exact bodyPost_ret (v := .tuple #[.agg #[.int .i64 0, .int .i64 0], .bool false]) (by simp [results, Try.results70, go_sem, hgs]) rfl (by rw [HN.out]; exact ⟨rfl, HB.out⟩)
        | true => exact absurd ⟨rfl, rfl, rfl⟩ hall
  case pos =>
    obtain ⟨rfl, rfl, rfl⟩ := hall
    obtain ⟨b, rfl⟩ := HCA.out rfl
    have HI : Hid (metaF g r = lof n f ↔ (k = 2 ∧ e = (s.size : Int) ∧ metaOk g r = true)) := meta_iff HFB.out hp.out ha.out hb.out
    have HE : Hid (((strOfNums (lof (metaF g r).length (fun i => (metaF g r).getD i 0))).toList == (strOfNums (lof n f)).toList) = decide (metaF g r = lof n f)) := metaEq (metaF_byte g r) HFB.out
    have HPB : Hid (∀ y ∈ metaF g r, 0 ≤ y ∧ y ≤ 255) := metaF_byte g r
    have hPM := fun W => implPutMeta_any g r W
    obtain ⟨L, hL⟩ : ∃ L, Hid (metaF g r = L) := ⟨_, rfl⟩
    rw [hL.out] at HI HE HPB
    simp only [hL.out] at hPM
    clear hL HNO HCA
    have hM := MBox.new w1 g r
    have hB2 : Below w.heap.size w (w1.alloc (.cells #[.int .i64 g, .int .i64 r] 33)) := hB1.alloc hB1.size _
    replace hR := hR.below ((Below.refl _ _).alloc (Nat.le_refl _) (.cells #[.int .i64 g, .int .i64 r] 33))
    clear x0 x1 r0 r1 hB1 ha hb hp
    go_wp2_with fail
    refine (hPM _).mono ?_
    rintro e1 w2 ⟨g3, c3, rfl, hg3, hc3, hr3, hb3⟩
    replace hM := hM.below hb3
    replace hR := hR.below hb3
    replace hB2 := hB2.trans (hb3.mono hB2.size)
    obtain ⟨m0, m1⟩ := hM.cells
    obtain ⟨x0, x1⟩ := hR.cells
    obtain ⟨r0, r1⟩ := hR.frozen
    clear hb3 hPM
    go_wp2_with fail
    refine (equal_any g3 0 L.length c3 _ b 0 n cap f w2 (hr3.view hc3 (bytes_of_list HPB.out)) (HV.out.below hB2)).mono ?_
    rintro e1 _ ⟨he, rfl⟩
    rw [HE.out] at he
    subst he
    clear hr3 HE HPB HV HFB HY
    by_cases hq : L = lof n f
    · have HG : Hid (getMe n f = (g, r, true)) := by show _ = _; rw [HIS.out, if_pos ⟨trivial, trivial, trivial, HI.out.1 hq⟩]
      have hd : decide (L = lof n f) = true := by simpa using hq
      have hgs := stored2 (.int .i64 g) (.int .i64 r) x0 x1
      have HB : Hid (Below w.heap.size w ((w2.setCell ⟨w.heap.size, 0, none⟩ (.int .i64 g)).setCell ⟨w.heap.size, 1, none⟩ (.int .i64 r))) := (hB2.setCell (Nat.le_refl _) _).setCell (Nat.le_refl _) _
      rw [hd]
      clear HIS HI hq hd hB2 hM hR
      go_wp2
      exact bodyPost_ret (v := .tuple #[.agg #[.int .i64 g, .int .i64 r], .bool true]) (by simp [results, Try.results70, go_sem, hgs]) rfl (by rw [HG.out]; exact ⟨rfl, HB.out⟩)
    · have HG : Hid (getMe n f = (0, 0, false)) := by show _ = _; rw [HIS.out, if_neg (fun h => hq (HI.out.2 h.2.2.2))]
      have hd : decide (L = lof n f) = false := by simpa using hq
      have hgs := stored2 (.int .i64 0) (.int .i64 0) x0 x1
      have HB : Hid (Below w.heap.size w ((w2.setCell ⟨w.heap.size, 0, none⟩ (.int .i64 0)).setCell ⟨w.heap.size, 1, none⟩ (.int .i64 0))) := (hB2.setCell (Nat.le_refl _) _).setCell (Nat.le_refl _) _
      rw [hd]
      clear HIS HI hq hd hB2 hM hR
      go_wp2
      exact bodyPost_ret (v := .tuple #[.agg #[.int .i64 0, .int .i64 0], .bool false]) (by simp [results, Try.results70, go_sem, hgs]) rfl (by rw [HG.out]; exact ⟨rfl, HB.out⟩)
end Go.Proofs.Ytdjaiappaghfnaa

/-
  The model's GetMeta: what is read as a root.
-/
namespace Go.Proofs.Ytdjaiappaghfnaa
open Go.RowKit
set_option maxRecDepth 4000

set_option maxHeartbeats 4000000 in
theorem specGetMeta_any (ao : Option Addr) (n cap : Nat) (f : Nat → Int) (w : World) (hao : 4 ≤ n → ∃ b, ao = some ⟨b, 0, none⟩) (hv : View w ao n cap f) (hn : n ≤ 1048576) :
    Calls Try.prog 39 #[.slice ao n cap] w (MeTo w (getMe n f)) := by
  obtain ⟨k, s, ok, hp⟩ : ∃ k s ok, Hid (getPg n f = (k, s, ok)) := ⟨_, _, _, rfl⟩
  obtain ⟨g, q, told, ha⟩ : ∃ g q told, Hid (getU s.size (fun i => (sl s).getD i 0) 0 = (g, q, told)) := ⟨_, _, _, rfl⟩
  obtain ⟨r, e, led, hb⟩ : ∃ r e led, Hid (getU s.size (fun i => (sl s).getD i 0) q = (r, e, led)) := ⟨_, _, _, rfl⟩
  have HY : Hid (∀ i, i < s.size → 0 ≤ (sl s).getD i 0 ∧ (sl s).getD i 0 ≤ 255) := by
    have := bytes_of_list (sl_byte s)
    rwa [sl_len] at this
  have l1 := getU_lim HY.out ha.out
  have l2 := getU_lim HY.out hb.out
  have HNO : Hid (¬ (ok = true ∧ told = true ∧ led = true ∧ k = 2 ∧ e = (s.size : Int) ∧ metaOk g r = true) → getMe n f = (0, 0, false)) := getMe_no hp.out ha.out hb.out
  have HIS : Hid (getMe n f = if ok = true ∧ told = true ∧ led = true ∧ k = 2 ∧ e = (s.size : Int) ∧ metaOk g r = true then (g, r, true) else (0, 0, false)) := getMe_is hp.out ha.out hb.out
  have hG := getPage_spec ao n cap f (w.alloc (.cells #[.int .i64 0, .int .i64 0] 33)) hao (hv.below ((Below.refl _ _).alloc (Nat.le_refl _) _)) hn
  rw [hp.out] at hG
  have hs : s.size ≤ 281474976710656 := by
    cases ok with
    | true => have := (getPg_read hv.byte hp.out).2.1; omega
    | false => have h2 := getPg_none (n := n) (f := f) (by rw [hp.out]); rw [hp.out] at h2; cases h2; rw [str_size]; simp
  have hbA : Below w.heap.size w (w.alloc (.cells #[.int .i64 0, .int .i64 0] 33)) := (Below.refl _ _).alloc (Nat.le_refl _) _
  have hR := MBox.new w 0 0
  clear hv hao
  go_enter Try.func39, Try.ntmps39
  go_wp2_with fail
  refine hG.mono ?_
  rintro e1 w1 ⟨g1, c1, rfl, hg1, hc1, hz1, hb1⟩
  have hv1 := hz1.view hc1 HY.out
  replace hR := hR.below hb1
  have hR2 := hR.below ((Below.refl _ _).alloc (Nat.le_refl _) (.cells #[.int .i64 g, .int .i64 r] 33))
  have hxl := hR.lt
  have hB1 := hbA.trans (hb1.mono hbA.size)
  clear hG hz1 hg1 hb1 hbA
  go_wp2_with fail
  refine (getU_spec' _ s.size c1 _ 0 w1 ha hv1 (by omega) (by omega)).mono ?_
  rintro e1 _ ⟨rfl, rfl⟩
  go_wp2_with fail
  refine (getU_spec' _ s.size c1 _ q w1 hb hv1 (by omega) (by omega)).mono ?_
  rintro e1 _ ⟨rfl, rfl⟩
  clear hv1
  have hB2 : Below w.heap.size w (w1.alloc (.cells #[.int .i64 g, .int .i64 r] 33)) := hB1.alloc hB1.size _
  have HQ : Hid (k = 2 → (k == 2) = true) := fun h => by rw [h]; rfl
  clear hp ha hb
  by_cases hall : ok = true ∧ k = 2 ∧ told = true ∧ led = true ∧ e = (s.size : Int)
  case neg =>
    have HN : Hid (getMe n f = (0, 0, false)) := HNO.out (fun h => hall ⟨h.1, h.2.2.2.1, h.2.1, h.2.2.1, h.2.2.2.2.1⟩)
    obtain ⟨x0, x1⟩ := hR.cells
    obtain ⟨r0, r1⟩ := hR.frozen
    have hgs := stored2A (.int .i64 0) (.int .i64 0) x0 x1 hxl (.cells #[.int .i64 g, .int .i64 r] 33)
    have HB : Hid (Below w.heap.size w (((w1.setCell ⟨w.heap.size, 0, none⟩ (.int .i64 0)).setCell ⟨w.heap.size, 1, none⟩ (.int .i64 0)).alloc (.cells #[.int .i64 g, .int .i64 r] 33))) := ((hB1.setCell (Nat.le_refl _) _).setCell (Nat.le_refl _) _).alloc (by simp; omega) _
    clear HNO HIS HY hR2 hB2 hR hB1
    cases ok with
    | false =>
      clear hall HQ
      go_wp2
      exact bodyPost_ret (v := .tuple #[.agg #[.int .i64 0, .int .i64 0], .bool false]) (by simp [results, Try.results39, go_sem, hgs]) rfl (by rw [HN.out]; exact ⟨rfl, HB.out⟩)
    | true =>
      by_cases hk : k = 2
      case neg =>
        have hk' : (k == 2) = false := beq_eq_false_iff_ne.2 hk
        clear hall HQ
        go_wp2
        exact bodyPost_ret (v := .tuple #[.agg #[.int .i64 0, .int .i64 0], .bool false]) (by simp [results, Try.results39, go_sem, hgs]) rfl (by rw [HN.out]; exact ⟨rfl, HB.out⟩)
      case pos =>
        subst hk
        clear HQ
        cases told with
        | false =>
          clear hall
          go_wp2
          exact bodyPost_ret (v := .tuple #[.agg #[.int .i64 0, .int .i64 0], .bool false]) (by simp [results, Try.results39, go_sem, hgs]) rfl (by rw [HN.out]; exact ⟨rfl, HB.out⟩)
        | true =>
          cases led with
          | false =>
            clear hall
            go_wp2
            exact bodyPost_ret (v := .tuple #[.agg #[.int .i64 0, .int .i64 0], .bool false]) (by simp [results, Try.results39, go_sem, hgs]) rfl (by rw [HN.out]; exact ⟨rfl, HB.out⟩)
          | true =>
            have he : ¬ e = (s.size : Int) := fun h => hall ⟨rfl, rfl, rfl, rfl, h⟩
            have he' : (e == (s.size : Int)) = false := beq_eq_false_iff_ne.2 he
            clear hall
            go_wp2
            exact bodyPost_ret (v := .tuple #[.agg #[.int .i64 0, .int .i64 0], .bool false]) (by simp [results, Try.results39, go_sem, hgs]) rfl (by rw [HN.out]; exact ⟨rfl, HB.out⟩)
  case pos =>
    obtain ⟨rfl, hk, rfl, rfl, hes⟩ := hall
    subst hk
    subst hes
    have hM := fun W => specMetaOk_any g r W
    clear hR hB1
    cases hok : metaOk g r with
    | false =>
      have HN : Hid (getMe n f = (0, 0, false)) := HNO.out (fun h => by have := h.2.2.2.2.2; rw [hok] at this; cases this)
      rw [hok] at hM
      clear HNO HIS HQ hok HY
      go_wp2_with fail
      refine (hM _).mono ?_
      rintro e1 w2 ⟨rfl, hb2⟩
      have hR3 := hR2.below hb2
      obtain ⟨x0, x1⟩ := hR3.cells
      obtain ⟨r0, r1⟩ := hR3.frozen
      have hgs := stored2 (.int .i64 0) (.int .i64 0) x0 x1
      have hB3 := hB2.trans (hb2.mono hB2.size)
      have HB : Hid (Below w.heap.size w ((w2.setCell ⟨w.heap.size, 0, none⟩ (.int .i64 0)).setCell ⟨w.heap.size, 1, none⟩ (.int .i64 0))) := (hB3.setCell (Nat.le_refl _) _).setCell (Nat.le_refl _) _
      clear hM hb2 hR2 hR3 hB2 hB3
      go_wp2
      exact bodyPost_ret (v := .tuple #[.agg #[.int .i64 0, .int .i64 0], .bool false]) (by simp [results, Try.results39, go_sem, hgs]) rfl (by rw [HN.out]; exact ⟨rfl, HB.out⟩)
    | true =>
      have HN : Hid (getMe n f = (g, r, true)) := by show _ = _; rw [HIS.out, if_pos ⟨rfl, rfl, rfl, rfl, rfl, hok⟩]
      rw [hok] at hM
      clear HNO HIS HQ hok HY
      have hX := MBox.new w1 g r
      go_wp2_with fail
      refine (hM _).mono ?_
      rintro e1 w2 ⟨rfl, hb2⟩
      have hR3 := hR2.below hb2
      have hX3 := hX.below hb2
      obtain ⟨m0, m1⟩ := hX3.cells
      obtain ⟨x0, x1⟩ := hR3.cells
      obtain ⟨r0, r1⟩ := hR3.frozen
      have hgs := stored2 (.int .i64 g) (.int .i64 r) x0 x1
      have hB3 := hB2.trans (hb2.mono hB2.size)
      have HB : Hid (Below w.heap.size w ((w2.setCell ⟨w.heap.size, 0, none⟩ (.int .i64 g)).setCell ⟨w.heap.size, 1, none⟩ (.int .i64 r))) := (hB3.setCell (Nat.le_refl _) _).setCell (Nat.le_refl _) _
      clear hM hb2 hR2 hR3 hB2 hB3 hX hX3
      go_wp2
      exact bodyPost_ret (v := .tuple #[.agg #[.int .i64 g, .int .i64 r], .bool true]) (by simp [results, Try.results39, go_sem, hgs]) rfl (by rw [HN.out]; exact ⟨rfl, HB.out⟩)
end Go.Proofs.Ytdjaiappaghfnaa

/-
  Disks, plainly; rows whose elements have several cells that read; a disk that reads.
-/
namespace Go.Proofs.Ytdjaiappaghfnaa
open Go.RowKit
set_option maxRecDepth 4000

/-- A letter for a thing. -/
theorem hidEx {α : Type} (y : α) : ∃ x, Hid (y = x) := ⟨y, rfl⟩
structure PFault where
  pos : Int
  keep : Int
  cut : Int
structure PDisk where
  secs : List (List Int)
  cache : List (Int × List Int)
  ops : Int
  faults : List PFault
  down : Bool
def bf (l : List Int) (i : Nat) : Int := l.getD i 0
theorem lof_bf (l : List Int) : lof l.length (bf l) = l := lof_self l

/-- A slice value that reads as these bytes. -/
structure LV (w : World) (v : Value) (l : List Int) : Prop where
  is : ∃ a c, v = .slice a l.length c ∧ View w a l.length c (bf l) ∧ (a = none → c = 0)
theorem LV.below {w w' : World} {v : Value} {l : List Int} (h : LV w v l) (hb : Below w.heap.size w w') : LV w' v l := by
  obtain ⟨a, c, e, hv, hn⟩ := h.is
  exact ⟨a, c, e, hv.below hb, hn⟩

/-- A row whose elements have c cells each, of which P says what they are. -/
structure RV {α : Type} (c : Nat) (P : World → List Value → α → Prop) (w : World) (a : Option Addr) (cap : Nat) (l : List α) : Prop where
  le : l.length ≤ cap
  nil : a = none → cap = 0
  cells : 0 < l.length → ∃ b off, a = some ⟨b, off, none⟩ ∧ b < w.heap.size ∧ ∀ i x, l[i]? = some x → ∃ us, P w us x ∧ ∀ j u, us[j]? = some u → w.cell? ⟨b, off + i * c + j, none⟩ = some u
theorem RV.below {α : Type} {c : Nat} {P : World → List Value → α → Prop} {w w' : World} {a : Option Addr} {cap : Nat} {l : List α} (h : RV c P w a cap l) (hP : ∀ us x, P w us x → P w' us x) (hb : Below w.heap.size w w') : RV c P w' a cap l := by
  refine ⟨h.le, h.nil, fun hn => ?_⟩
  obtain ⟨b, off, e, hlt, hc⟩ := h.cells hn
  refine ⟨b, off, e, Nat.lt_of_lt_of_le hlt hb.size, fun i x hi => ?_⟩
  obtain ⟨us, h1, h2⟩ := hc i x hi
  exact ⟨us, hP _ _ h1, fun j u hj => by rw [hb.cell (p := ⟨b, off + i * c + j, none⟩) hlt]; exact h2 j u hj⟩

def SP (w : World) (us : List Value) (x : List Int) : Prop := ∃ u, us = [u] ∧ LV w u x
def WP (w : World) (us : List Value) (x : Int × List Int) : Prop := ∃ u, us = [.int .i64 x.1, u] ∧ LV w u x.2
def FP (_ : World) (us : List Value) (x : PFault) : Prop := us = [.int .i64 x.pos, .int .i64 x.keep, .int .i64 x.cut]
abbrev SView := RV 1 SP
abbrev WView := RV 2 WP
abbrev FView := RV 3 FP
theorem SP.below {w w' : World} (hb : Below w.heap.size w w') (us : List Value) (x : List Int) (h : SP w us x) : SP w' us x := by
  obtain ⟨u, e, hu⟩ := h
  exact ⟨u, e, hu.below hb⟩
theorem WP.below {w w' : World} (hb : Below w.heap.size w w') (us : List Value) (x : Int × List Int) (h : WP w us x) : WP w' us x := by
  obtain ⟨u, e, hu⟩ := h
  exact ⟨u, e, hu.below hb⟩
theorem sview_below {w w' : World} {a : Option Addr} {cap : Nat} {l : List (List Int)} (h : SView w a cap l) (hb : Below w.heap.size w w') : SView w' a cap l := h.below (SP.below hb) hb
theorem wview_below {w w' : World} {a : Option Addr} {cap : Nat} {l : List (Int × List Int)} (h : WView w a cap l) (hb : Below w.heap.size w w') : WView w' a cap l := h.below (WP.below hb) hb
theorem fview_below {w w' : World} {a : Option Addr} {cap : Nat} {l : List PFault} (h : FView w a cap l) (hb : Below w.heap.size w w') : FView w' a cap l := h.below (fun _ _ h => h) hb
/-- An element of a row of byte slices. -/
theorem sview_at {w : World} {a : Option Addr} {cap : Nat} {l : List (List Int)} (h : SView w a cap l) {i : Nat} (hi : i < l.length) : ∃ b off a' c', a = some ⟨b, off, none⟩ ∧ b < w.heap.size ∧ w.cell? ⟨b, off + i, none⟩ = some (.slice a' (l[i]).length c') ∧ View w a' (l[i]).length c' (bf l[i]) ∧ (a' = none → c' = 0) := by
  obtain ⟨b, off, e, hlt, hc⟩ := h.cells (by omega)
  obtain ⟨us, ⟨u, rfl, hu⟩, h2⟩ := hc i l[i] (List.getElem?_eq_getElem hi)
  obtain ⟨a', c', rfl, hv, hn⟩ := hu.is
  exact ⟨b, off, a', c', e, hlt, by simpa using h2 0 _ rfl, hv, hn⟩
theorem wview_at {w : World} {a : Option Addr} {cap : Nat} {l : List (Int × List Int)} (h : WView w a cap l) {i : Nat} (hi : i < l.length) : ∃ b off a' c', a = some ⟨b, off, none⟩ ∧ b < w.heap.size ∧ w.cell? ⟨b, off + i * 2, none⟩ = some (.int .i64 (l[i]).1) ∧ w.cell? ⟨b, off + i * 2 + 1, none⟩ = some (.slice a' (l[i]).2.length c') ∧ View w a' (l[i]).2.length c' (bf (l[i]).2) ∧ (a' = none → c' = 0) := by
  obtain ⟨b, off, e, hlt, hc⟩ := h.cells (by omega)
  obtain ⟨us, ⟨u, rfl, hu⟩, h2⟩ := hc i l[i] (List.getElem?_eq_getElem hi)
  obtain ⟨a', c', rfl, hv, hn⟩ := hu.is
  exact ⟨b, off, a', c', e, hlt, by simpa using h2 0 _ rfl, by simpa using h2 1 _ rfl, hv, hn⟩
theorem fview_at {w : World} {a : Option Addr} {cap : Nat} {l : List PFault} (h : FView w a cap l) {i : Nat} (hi : i < l.length) : ∃ b off, a = some ⟨b, off, none⟩ ∧ b < w.heap.size ∧ w.cell? ⟨b, off + i * 3, none⟩ = some (.int .i64 (l[i]).pos) ∧ w.cell? ⟨b, off + i * 3 + 1, none⟩ = some (.int .i64 (l[i]).keep) ∧ w.cell? ⟨b, off + i * 3 + 2, none⟩ = some (.int .i64 (l[i]).cut) := by
  obtain ⟨b, off, e, hlt, hc⟩ := h.cells (by omega)
  obtain ⟨us, rfl, h2⟩ := hc i l[i] (List.getElem?_eq_getElem hi)
  exact ⟨b, off, e, hlt, by simpa using h2 0 _ rfl, by simpa using h2 1 _ rfl, by simpa using h2 2 _ rfl⟩

/-- A disk's value. -/
structure KView (w : World) (v : Value) (D : PDisk) : Prop where
  is : ∃ sa sc ca cc fa fc, v = .agg #[.slice sa D.secs.length sc, .slice ca D.cache.length cc, .int .i64 D.ops, .slice fa D.faults.length fc, .bool D.down] ∧ SView w sa sc D.secs ∧ WView w ca cc D.cache ∧ FView w fa fc D.faults
theorem KView.below {w w' : World} {v : Value} {D : PDisk} (h : KView w v D) (hb : Below w.heap.size w w') : KView w' v D := by
  obtain ⟨sa, sc, ca, cc, fa, fc, e, h1, h2, h3⟩ := h.is
  exact ⟨sa, sc, ca, cc, fa, fc, e, sview_below h1 hb, wview_below h2 hb, fview_below h3 hb⟩
/-- Nothing is great. -/
structure KFine (D : PDisk) : Prop where
  ns : D.secs.length ≤ 1048576
  sec : ∀ x, x ∈ D.secs → x.length ≤ 1048576
  nc : D.cache.length ≤ 1048576
  cache : ∀ x, x ∈ D.cache → x.2.length ≤ 1048576
  nf : D.faults.length ≤ 1048576
end Go.Proofs.Ytdjaiappaghfnaa

/-
  What a sector reads as, plainly.
-/
namespace Go.Proofs.Ytdjaiappaghfnaa
open Go.RowKit
set_option maxRecDepth 4000

/-- What the last of the first k writes of this sector has. -/
def lastW (l : List (Int × List Int)) (n : Int) : Nat → Option (List Int)
  | 0 => none
  | k + 1 => if (l[k]?).map (·.1) = some n then (l[k]?).map (·.2) else lastW l n k
theorem lastW_hit {l : List (Int × List Int)} {n : Int} {k : Nat} (h : k < l.length) (e : (l[k]).1 = n) : lastW l n (k + 1) = some (l[k]).2 := by
  rw [lastW, List.getElem?_eq_getElem h]
  simp [e]
theorem lastW_miss {l : List (Int × List Int)} {n : Int} {k : Nat} (h : k < l.length) (e : (l[k]).1 ≠ n) : lastW l n (k + 1) = lastW l n k := by
  rw [lastW, List.getElem?_eq_getElem h]
  simp [e]
def readB (D : PDisk) (n : Int) : List Int := if 0 ≤ n ∧ n < D.secs.length then (lastW D.cache n D.cache.length).getD (D.secs.getD n.toNat []) else []
def HasS (D : PDisk) (n : Int) : Prop := 0 ≤ n ∧ n < D.secs.length
theorem readB_none {D : PDisk} {n : Int} (h : ¬ HasS D n) : readB D n = [] := by unfold readB; rw [if_neg (show ¬ (0 ≤ n ∧ n < D.secs.length) from h)]
theorem readB_hit {D : PDisk} {n : Int} (h : HasS D n) {b : List Int} (e : lastW D.cache n D.cache.length = some b) : readB D n = b := by unfold readB; rw [if_pos (show 0 ≤ n ∧ n < D.secs.length from h), e]; rfl
theorem readB_sec {D : PDisk} {n : Int} (h : HasS D n) (e : lastW D.cache n D.cache.length = none) (hi : n.toNat < D.secs.length) : readB D n = D.secs[n.toNat] := by
  unfold readB
  rw [if_pos (show 0 ≤ n ∧ n < D.secs.length from h), e]
  simp [hi]
end Go.Proofs.Ytdjaiappaghfnaa

/-
  Disks of the call's own: rows that may be written, byte rows that lie apart.
-/
namespace Go.Proofs.Ytdjaiappaghfnaa
open Go.RowKit
set_option maxRecDepth 4000

theorem flat_get {α β : Type} (f : α → List β) (c : Nat) (hf : ∀ x, (f x).length = c) : ∀ (l : List α) (i j : Nat), j < c → (l.flatMap f)[i * c + j]? = (l[i]?).bind (fun x => (f x)[j]?)
  | [], i, j, _ => by simp
  | x :: l, 0, j, hj => by
    rw [List.flatMap_cons, Nat.zero_mul, Nat.zero_add, List.getElem?_append_left (by rw [hf]; exact hj)]
    simp
  | x :: l, i + 1, j, hj => by
    rw [List.flatMap_cons, List.getElem?_append_right (by rw [hf, Nat.add_mul]; omega), hf]
    have e : (i + 1) * c + j - c = i * c + j := by rw [Nat.add_mul]; omega
    rw [e, flat_get f c hf l i j hj]
    simp
theorem flat_len {α β : Type} (f : α → List β) (c : Nat) (hf : ∀ x, (f x).length = c) : ∀ (l : List α), (l.flatMap f).length = l.length * c
  | [] => by simp
  | x :: l => by rw [List.flatMap_cons, List.length_append, hf, flat_len f c hf l, List.length_cons, Nat.add_mul]; omega
/-- The cells of writes, whose bytes are these slices; of faults. -/
def wEl (p : Int × Value) : List Value := [.int .i64 p.1, p.2]
def fEl (x : PFault) : List Value := [.int .i64 x.pos, .int .i64 x.keep, .int .i64 x.cut]
def wcells (l : List (Int × List Int)) (cs : List Value) : List Value := ((l.map (·.1)).zip cs).flatMap wEl
def fcells (l : List PFault) : List Value := l.flatMap fEl
theorem zip_get {l : List (Int × List Int)} {cs : List Value} {i : Nat} {x : Int × List Int} {v : Value} (h1 : l[i]? = some x) (h2 : cs[i]? = some v) : ((l.map (·.1)).zip cs)[i]? = some (x.1, v) := by
  simp [List.getElem?_zip_eq_some, h1, h2]
theorem wcells_get {l : List (Int × List Int)} {cs : List Value} {i : Nat} {x : Int × List Int} {v : Value} (h1 : l[i]? = some x) (h2 : cs[i]? = some v) : (wcells l cs)[i * 2]? = some (.int .i64 x.1) ∧ (wcells l cs)[i * 2 + 1]? = some v := by
  have e := zip_get h1 h2
  have g0 := flat_get wEl 2 (fun _ => rfl) ((l.map (·.1)).zip cs) i 0 (by decide)
  have g1 := flat_get wEl 2 (fun _ => rfl) ((l.map (·.1)).zip cs) i 1 (by decide)
  rw [e] at g0 g1
  exact ⟨g0, g1⟩
theorem fcells_get {l : List PFault} {i j : Nat} {x : PFault} (h1 : l[i]? = some x) (hj : j < 3) : (fcells l)[i * 3 + j]? = (fEl x)[j]? := by
  have g0 := flat_get fEl 3 (fun _ => rfl) l i j hj
  rw [h1] at g0
  exact g0

/-- Bytes of the call's own. -/
structure OB (w : World) (B : Nat) (v : Value) (l : List Int) : Prop where
  is : ∃ a c, v = .slice a l.length c ∧ l.length ≤ c ∧ (a = none → c = 0) ∧ (∀ x ∈ l, 0 ≤ x ∧ x ≤ 255) ∧ (l = [] ∨ ∃ g, a = some ⟨g, 0, none⟩ ∧ B ≤ g ∧ Row 5 w g l.length (bf l))
/-- Two slices do not share a block. -/
def Apt (u v : Value) : Prop := ∀ g, u.ownBlock = some g → v.ownBlock = some g → False
/-- Byte rows of the call's own, each by itself. -/
structure Bs (w : World) (B : Nat) (vs : List Value) (ls : List (List Int)) : Prop where
  len : vs.length = ls.length
  ob : ∀ (i : Nat) v l, vs[i]? = some v → ls[i]? = some l → OB w B v l
  lt : ∀ v, v ∈ vs → ∀ g, v.ownBlock = some g → B ≤ g ∧ g < w.heap.size
  apt : vs.Pairwise Apt
/-- A row of the call's own with (at least) these cells. -/
def RL (T : TypeId) (w : World) (B : Nat) (a : Option Addr) (xs : List Value) : Prop := xs = [] ∨ ∃ g cur, a = some ⟨g, 0, none⟩ ∧ B ≤ g ∧ w.heap[g]? = some (.cells cur T (0, 0)) ∧ ∀ (i : Nat) u, xs[i]? = some u → cur[i]? = some u
/-- A disk of the call's own. -/
structure KO (w : World) (B : Nat) (sa : Option Addr) (sc : Nat) (ca : Option Addr) (cc : Nat) (fa : Option Addr) (fc : Nat) (ss cs : List Value) (D : PDisk) : Prop where
  sle : D.secs.length ≤ sc
  snil : sa = none → sc = 0
  cle : D.cache.length ≤ cc
  cnil : ca = none → cc = 0
  fle : D.faults.length ≤ fc
  fnil : fa = none → fc = 0
  ns : ss.length = D.secs.length
  nc : cs.length = D.cache.length
  secs : RL 63 w B sa ss
  cache : RL 79 w B ca (wcells D.cache cs)
  faults : RL 70 w B fa (fcells D.faults)
  bytes : Bs w B (ss ++ cs) (D.secs ++ D.cache.map (·.2))
def dval (D : PDisk) (sa : Option Addr) (sc : Nat) (ca : Option Addr) (cc : Nat) (fa : Option Addr) (fc : Nat) : Value := .agg #[.slice sa D.secs.length sc, .slice ca D.cache.length cc, .int .i64 D.ops, .slice fa D.faults.length fc, .bool D.down]
def KOwn (w : World) (B : Nat) (v : Value) (D : PDisk) : Prop := ∃ sa sc ca cc fa fc ss cs, v = dval D sa sc ca cc fa fc ∧ KO w B sa sc ca cc fa fc ss cs D

/-- What was there from B on is there. -/
def Up (B : Nat) (w w' : World) : Prop := w.heap.size ≤ w'.heap.size ∧ ∀ k, B ≤ k → k < w.heap.size → w'.heap[k]? = w.heap[k]?
theorem Up.ofBelow {B : Nat} {w w' : World} (h : Below w.heap.size w w') : Up B w w' := ⟨h.size, fun k _ hk => h.block k hk⟩
theorem OB.up {w w' : World} {B : Nat} {v : Value} {l : List Int} (h : OB w B v l) (hu : Up B w w') : OB w' B v l := by
  obtain ⟨a, c, e, h1, h2, h3, h4⟩ := h.is
  refine ⟨a, c, e, h1, h2, h3, ?_⟩
  rcases h4 with h4 | ⟨g, ea, hb, hr⟩
  · exact .inl h4
  · exact .inr ⟨g, ea, hb, hr.of_block (hu.2 g hb hr.lt)⟩
theorem RL.up {T : TypeId} {w w' : World} {B : Nat} {a : Option Addr} {xs : List Value} (h : RL T w B a xs) (hu : Up B w w') : RL T w' B a xs := by
  rcases h with h | ⟨g, cur, ea, hb, hg, hc⟩
  · exact .inl h
  · exact .inr ⟨g, cur, ea, hb, (hu.2 g hb (Array.getElem?_eq_some_iff.1 hg).1).trans hg, hc⟩
theorem Bs.up {w w' : World} {B : Nat} {vs : List Value} {ls : List (List Int)} (h : Bs w B vs ls) (hu : Up B w w') : Bs w' B vs ls :=
  ⟨h.len, fun i v l h1 h2 => (h.ob i v l h1 h2).up hu, fun v hv g hg => ⟨(h.lt v hv g hg).1, Nat.lt_of_lt_of_le (h.lt v hv g hg).2 hu.1⟩, h.apt⟩
theorem KO.up {w w' : World} {B : Nat} {sa : Option Addr} {sc : Nat} {ca : Option Addr} {cc : Nat} {fa : Option Addr} {fc : Nat} {ss cs : List Value} {D : PDisk} (h : KO w B sa sc ca cc fa fc ss cs D) (hu : Up B w w') : KO w' B sa sc ca cc fa fc ss cs D :=
  ⟨h.sle, h.snil, h.cle, h.cnil, h.fle, h.fnil, h.ns, h.nc, h.secs.up hu, h.cache.up hu, h.faults.up hu, h.bytes.up hu⟩
theorem KOwn.up {w w' : World} {B : Nat} {v : Value} {D : PDisk} (h : KOwn w B v D) (hu : Up B w w') : KOwn w' B v D := by
  obtain ⟨sa, sc, ca, cc, fa, fc, ss, cs, e, hk⟩ := h
  exact ⟨sa, sc, ca, cc, fa, fc, ss, cs, e, hk.up hu⟩
theorem KOwn.below {w w' : World} {B : Nat} {v : Value} {D : PDisk} (h : KOwn w B v D) (hb : Below w.heap.size w w') : KOwn w' B v D := h.up (Up.ofBelow hb)
theorem OB.mono {w : World} {B B' : Nat} {v : Value} {l : List Int} (h : OB w B v l) (hB : B' ≤ B) : OB w B' v l := by
  obtain ⟨a, c, e, h1, h2, h3, h4⟩ := h.is
  refine ⟨a, c, e, h1, h2, h3, ?_⟩
  rcases h4 with h4 | ⟨g, ea, hb, hr⟩
  · exact .inl h4
  · exact .inr ⟨g, ea, by omega, hr⟩
theorem RL.mono {T : TypeId} {w : World} {B B' : Nat} {a : Option Addr} {xs : List Value} (h : RL T w B a xs) (hB : B' ≤ B) : RL T w B' a xs := by
  rcases h with h | ⟨g, cur, ea, hb, hg, hc⟩
  · exact .inl h
  · exact .inr ⟨g, cur, ea, by omega, hg, hc⟩
theorem Bs.mono {w : World} {B B' : Nat} {vs : List Value} {ls : List (List Int)} (h : Bs w B vs ls) (hB : B' ≤ B) : Bs w B' vs ls := ⟨h.len, fun i v l h1 h2 => (h.ob i v l h1 h2).mono hB, fun v hv g hg => ⟨Nat.le_trans hB (h.lt v hv g hg).1, (h.lt v hv g hg).2⟩, h.apt⟩

theorem OB.lv {w : World} {B : Nat} {v : Value} {l : List Int} (h : OB w B v l) : LV w v l := by
  obtain ⟨a, c, e, h1, h2, h3, h4⟩ := h.is
  refine ⟨a, c, e, ⟨h1, fun i hi => ?_, fun hn => ?_⟩, h2⟩
  · have : bf l i = l[i] := by simp [bf, hi]
    rw [this]
    exact h3 _ (List.getElem_mem hi)
  · rcases h4 with h4 | ⟨g, ea, hb, hr⟩
    · subst h4; simp at hn
    · exact ⟨g, 0, ea, hr.lt, fun i hi => by rw [Nat.zero_add]; exact hr.cell hi⟩
theorem RL.cell {T : TypeId} {w : World} {B : Nat} {a : Option Addr} {xs : List Value} (h : RL T w B a xs) (hn : 0 < xs.length) : ∃ g, a = some ⟨g, 0, none⟩ ∧ B ≤ g ∧ g < w.heap.size ∧ ∀ (i : Nat) u, xs[i]? = some u → w.cell? ⟨g, i, none⟩ = some u := by
  rcases h with h | ⟨g, cur, ea, hb, hg, hc⟩
  · subst h; simp at hn
  · exact ⟨g, ea, hb, (Array.getElem?_eq_some_iff.1 hg).1, fun i u hi => by simp [World.cell?, hg, hc i u hi]⟩
theorem KO.view {w : World} {B : Nat} {sa : Option Addr} {sc : Nat} {ca : Option Addr} {cc : Nat} {fa : Option Addr} {fc : Nat} {ss cs : List Value} {D : PDisk} (h : KO w B sa sc ca cc fa fc ss cs D) : SView w sa sc D.secs ∧ WView w ca cc D.cache ∧ FView w fa fc D.faults := by
  refine ⟨⟨h.sle, h.snil, fun hn => ?_⟩, ⟨h.cle, h.cnil, fun hn => ?_⟩, ⟨h.fle, h.fnil, fun hn => ?_⟩⟩
  · obtain ⟨g, ea, -, hlt, hc⟩ := h.secs.cell (by rw [h.ns]; exact hn)
    refine ⟨g, 0, ea, hlt, fun i x hi => ?_⟩
    have hi' : i < ss.length := by rw [h.ns]; exact (List.getElem?_eq_some_iff.1 hi).1
    have hv := List.getElem?_eq_getElem hi'
    refine ⟨[ss[i]], ⟨ss[i], rfl, (h.bytes.ob i _ x ?_ ?_).lv⟩, fun j u hj => ?_⟩
    · rw [List.getElem?_append_left hi']; exact hv
    · rw [List.getElem?_append_left (by rw [← h.ns]; exact hi')]; exact hi
    · match j, hj with
      | 0, hj => cases hj; simpa using hc i _ hv
  · have hl : (wcells D.cache cs).length = D.cache.length * 2 := by
      unfold wcells
      rw [flat_len wEl 2 (fun _ => rfl), List.length_zip, List.length_map, h.nc, Nat.min_self]
    obtain ⟨g, ea, -, hlt, hc⟩ := h.cache.cell (by omega)
    refine ⟨g, 0, ea, hlt, fun i x hi => ?_⟩
    have hi1 := (List.getElem?_eq_some_iff.1 hi).1
    have hi' : i < cs.length := by rw [h.nc]; exact hi1
    have hv := List.getElem?_eq_getElem hi'
    obtain ⟨g0, g1⟩ := wcells_get hi hv
    refine ⟨[.int .i64 x.1, cs[i]], ⟨cs[i], rfl, (h.bytes.ob (ss.length + i) _ x.2 ?_ ?_).lv⟩, fun j u hj => ?_⟩
    · rw [List.getElem?_append_right (by omega), Nat.add_sub_cancel_left]; exact hv
    · rw [h.ns, List.getElem?_append_right (by omega), Nat.add_sub_cancel_left]; simp [hi]
    · match j, hj with
      | 0, hj => cases hj; simpa using hc _ _ g0
      | 1, hj => cases hj; simpa using hc _ _ g1
  · have hl : (fcells D.faults).length = D.faults.length * 3 := flat_len fEl 3 (fun _ => rfl) _
    obtain ⟨g, ea, -, hlt, hc⟩ := h.faults.cell (by omega)
    refine ⟨g, 0, ea, hlt, fun i x hi => ⟨fEl x, rfl, fun j u hj => ?_⟩⟩
    have hj3 : j < 3 := (List.getElem?_eq_some_iff.1 hj).1
    have g0 := fcells_get hi hj3
    rw [hj] at g0
    simpa using hc _ _ g0
theorem KOwn.view {w : World} {B : Nat} {v : Value} {D : PDisk} (h : KOwn w B v D) : KView w v D := by
  obtain ⟨sa, sc, ca, cc, fa, fc, ss, cs, e, hk⟩ := h
  obtain ⟨h1, h2, h3⟩ := hk.view
  exact ⟨sa, sc, ca, cc, fa, fc, e, h1, h2, h3⟩

/-- One more byte row, a new one. -/
theorem Bs.push {w : World} {B : Nat} {vs : List Value} {ls : List (List Int)} (h : Bs w B vs ls) {v : Value} {l : List Int} (hb : OB w B v l) (hv : ∀ g, v.ownBlock = some g → (B ≤ g ∧ g < w.heap.size) ∧ ∀ u ∈ vs, u.ownBlock ≠ some g) : Bs w B (vs ++ [v]) (ls ++ [l]) := by
  refine ⟨by simp [h.len], fun i u x h1 h2 => ?_, fun u hu g hg => ?_, ?_⟩
  · by_cases hi : i < vs.length
    · rw [List.getElem?_append_left hi] at h1
      rw [List.getElem?_append_left (by rw [← h.len]; exact hi)] at h2
      exact h.ob i u x h1 h2
    · rw [List.getElem?_append_right (by omega)] at h1
      rw [List.getElem?_append_right (by rw [← h.len]; omega)] at h2
      have e0 : i - vs.length = 0 := by
        have := (List.getElem?_eq_some_iff.1 h1).1
        simp at this; omega
      rw [← h.len] at h2
      rw [e0] at h1 h2
      simp at h1 h2
      subst h1 h2
      exact hb
  · rcases List.mem_append.1 hu with hu | hu
    · exact h.lt u hu g hg
    · simp at hu; subst hu
      exact (hv g hg).1
  · rw [List.pairwise_append]
    refine ⟨h.apt, by simp, fun a ha b hb' => ?_⟩
    simp at hb'; subst hb'
    intro g h1 h2
    exact (hv g h2).2 a ha h1
theorem Bs.nil (w : World) (B : Nat) : Bs w B [] [] := ⟨rfl, fun i v l h => by simp at h, fun v hv => by simp at hv, List.Pairwise.nil⟩
/-- What came behind is new to what was there. -/
theorem Bs.newer {w : World} {B : Nat} {vs : List Value} {ls : List (List Int)} (h : Bs w B vs ls) {g : Nat} (hg : w.heap.size ≤ g) : ∀ u ∈ vs, u.ownBlock ≠ some g := by
  intro u hu e
  have := (h.lt u hu g e).2
  omega
/-- Rows, and rows that came behind them. -/
theorem Bs.app {w : World} {B B' : Nat} {vs us : List Value} {ls ms : List (List Int)} (h : Bs w B vs ls) (k : Bs w B' us ms) (hB : B ≤ B') (hlt : ∀ v, v ∈ vs → ∀ g, v.ownBlock = some g → g < B') : Bs w B (vs ++ us) (ls ++ ms) := by
  refine ⟨by simp [h.len, k.len], fun i u x h1 h2 => ?_, fun u hu g hg => ?_, ?_⟩
  · by_cases hi : i < vs.length
    · rw [List.getElem?_append_left hi] at h1
      rw [List.getElem?_append_left (by rw [← h.len]; exact hi)] at h2
      exact h.ob i u x h1 h2
    · rw [List.getElem?_append_right (by omega)] at h1
      rw [List.getElem?_append_right (by rw [← h.len]; omega), ← h.len] at h2
      exact (k.ob _ u x h1 h2).mono hB
  · rcases List.mem_append.1 hu with hu | hu
    · exact h.lt u hu g hg
    · have := k.lt u hu g hg
      exact ⟨by omega, this.2⟩
  · rw [List.pairwise_append]
    refine ⟨h.apt, k.apt, fun a ha b hb g h1 h2 => ?_⟩
    have h3 := hlt a ha g h1
    have h4 := (k.lt b hb g h2).1
    omega
/-- A cell of a block below is written. -/
theorem Up.set {B C i : Nat} {w : World} {u : Value} (h : C < B) : Up B w (w.setCell ⟨C, i, none⟩ u) := ⟨by simp, fun k hk _ => Below.heap_setCell _ _ _ _ (show k ≠ C by omega)⟩
theorem Up.refl (B : Nat) (w : World) : Up B w w := ⟨Nat.le_refl _, fun _ _ _ => rfl⟩
theorem Up.trans {B : Nat} {a b c : World} (h : Up B a b) (k : Up B b c) : Up B a c := ⟨Nat.le_trans h.1 k.1, fun i hi hl => (k.2 i hi (Nat.lt_of_lt_of_le hl h.1)).trans (h.2 i hi hl)⟩
theorem OB.ofIs {w : World} {B g : Nat} {l : List Int} (h : w.rowIs g 5 l.length (fun i => .int .u8 (bf l i))) (hB : B ≤ g) (hb : ∀ i, i < l.length → 0 ≤ bf l i ∧ bf l i ≤ 255) : OB w B (.slice (some ⟨g, 0, none⟩) l.length l.length) l := by
  refine ⟨_, _, rfl, Nat.le_refl _, (fun e => by cases e), fun x hx => ?_, .inr ⟨g, rfl, hB, Row.ofIs h⟩⟩
  obtain ⟨i, hi, rfl⟩ := List.getElem_of_mem hx
  have := hb i hi
  have e : bf l i = l[i] := by simp [bf, hi]
  rw [e] at this
  exact this

/-- A variable of several cells. -/
def VN (w : World) (B : Nat) (T : TypeId) (xs : List Value) : Prop := w.heap[B]? = some (.cells ⟨xs⟩ T (0, 0))
theorem VN.new (w : World) (T : TypeId) (xs : List Value) : VN (w.alloc (.cells ⟨xs⟩ T)) w.heap.size T xs := by unfold VN; show (w.heap.push _)[w.heap.size]? = _; simp
theorem VN.lt {w : World} {B : Nat} {T : TypeId} {xs : List Value} (h : VN w B T xs) : B < w.heap.size := (Array.getElem?_eq_some_iff.1 h).1
theorem VN.block {w w' : World} {B : Nat} {T : TypeId} {xs : List Value} (h : VN w B T xs) (e : w'.heap[B]? = w.heap[B]?) : VN w' B T xs := e.trans h
theorem VN.below {w w' : World} {B : Nat} {T : TypeId} {xs : List Value} (h : VN w B T xs) (hb : Below w.heap.size w w') : VN w' B T xs := h.block (hb.block B h.lt)
theorem VN.other {w : World} {B C i : Nat} {T : TypeId} {xs : List Value} {u : Value} (h : VN w B T xs) (hne : B ≠ C) : VN (w.setCell ⟨C, i, none⟩ u) B T xs := h.block (Below.heap_setCell _ _ _ _ hne)
theorem VN.cell {w : World} {B : Nat} {T : TypeId} {xs : List Value} (h : VN w B T xs) (i : Nat) : w.cell? ⟨B, i, none⟩ = xs[i]? := by
  unfold VN at h
  simp [World.cell?, h]
theorem VN.fz {w : World} {B : Nat} {T : TypeId} {xs : List Value} (h : VN w B T xs) (i : Nat) : w.frozen? ⟨B, i, none⟩ = false := by
  unfold VN at h
  simp [World.frozen?, h]
theorem VN.set {w : World} {B : Nat} {T : TypeId} {xs : List Value} (h : VN w B T xs) (i : Nat) (u : Value) : VN (w.setCell ⟨B, i, none⟩ u) B T (xs.set i u) := by
  unfold VN at h ⊢
  simp [World.setCell, Array.getElem?_modify, h]
end Go.Proofs.Ytdjaiappaghfnaa

/-
  What the law's own helper eqByteS comes to on rows that are alike.
-/
namespace Go.Proofs.Ytdjaiappaghfnaa
open Go.RowKit
set_option maxRecDepth 4000

/-- Two slices that read alike: true. -/
theorem eqByteS_same (a1 a2 : Option Addr) (n c1 c2 : Nat) (f g : Nat → Int) (w : World) (h1 : View w a1 n c1 f) (h2 : View w a2 n c2 g) (hn : n ≤ 281474976710656) (he : ∀ i, i < n → f i = g i) :
    Calls Try.prog 58 #[.slice a1 n c1, .slice a2 n c2] w fun e w' => e = .returned (.bool true) ∧ Below w.heap.size w w' := by
  go_enter Try.func58, Try.ntmps58
  go_wp2
  go_loopg [5] n (fun q i wr => ∃ k : Nat, k ≤ n ∧ q = n - k ∧ i = .int .i64 k ∧ Below w.heap.size w wr)
  case atStart => exact ⟨0, Nat.zero_le _, rfl, rfl, Below.refl _ _⟩
  case round =>
    obtain ⟨k, hk, rfl, rfl, hB⟩ := hrel
    by_cases hlt : k < n
    · obtain ⟨b1, o1, rfl, hb1, hc1⟩ := h1.cells (by omega)
      obtain ⟨b2, o2, rfl, hb2, hc2⟩ := h2.cells (by omega)
      have hkz : (k : Int) < (n : Int) := by omega
      have e1 : wr.cell? ⟨b1, o1 + k, none⟩ = some (.int .u8 (f k)) := by rw [hB.cell (p := ⟨b1, o1 + k, none⟩) hb1]; exact hc1 k hlt
      have e2 : wr.cell? ⟨b2, o2 + k, none⟩ = some (.int .u8 (f k)) := by rw [hB.cell (p := ⟨b2, o2 + k, none⟩) hb2, he k hlt]; exact hc2 k hlt
      clear hc1 hc2 he
      go_wp2
      go_region
      all_goals go_wp2
      all_goals
        go_roundg (n - (k + 1))
        case measure => omega
        case rel => exact ⟨k + 1, by omega, rfl, by go_num, by first | exact hB.drew | exact hB⟩
    · go_wp2
      go_ret
      exact ⟨rfl, hB⟩
end Go.Proofs.Ytdjaiappaghfnaa

/-
  What the law's own helpers markByteS and heldByteS come to: the one writes a count into a row of the call's own, the other finds it there.
-/
namespace Go.Proofs.Ytdjaiappaghfnaa
open Go.RowKit
set_option maxRecDepth 4000

structure Marked (w wr : World) (b n : Nat) (f : Nat → Int) (k : Int) (j : Nat) : Prop where
  only : Only b w wr
  row : Row 5 wr b n (fun i => if i < j then (k + i) % 256 else f i)

theorem marked_step {w wr : World} {b n : Nat} {f : Nat → Int} {k : Int} {j : Nat} (h : Marked w wr b n f k j) : Marked w (wr.setCell ⟨b, j, none⟩ (.int .u8 ((k + j) % 256))) b n f k (j + 1) := by
  refine ⟨h.only.setCell _, (h.row.set j _).congr (fun i _ => ?_)⟩
  by_cases e : i = j
  · subst e; simp
  · rw [if_neg e]
    by_cases hlt : i < j
    · rw [if_pos hlt, if_pos (by omega)]
    · rw [if_neg hlt, if_neg (by omega)]

set_option maxHeartbeats 400000 in
theorem mark_any (b n cap : Nat) (f : Nat → Int) (k : Int) (w : World) (hr : Row 5 w b n f) (hk : 0 ≤ k) (hk1 : k + n ≤ 4611686018427387904) :
    Calls Try.prog 60 #[.slice (some ⟨b, 0, none⟩) n cap, .int .i64 k] w fun e w' => e = .returned (.int .i64 (k + n)) ∧ Row 5 w' b n (fun i => (k + i) % 256) ∧ Only b w w' := by
  go_enter Try.func60, Try.ntmps60
  go_wp2
  go_loopg [1, 5] n (fun g s i wr => ∃ j : Nat, j ≤ n ∧ g = n - j ∧ s = .int .i64 (k + j) ∧ i = .int .i64 j ∧ Marked w wr b n f k j)
  case atStart => exact ⟨0, Nat.zero_le _, rfl, by simp, rfl, Only.refl _ _, hr.congr (fun i _ => by simp)⟩
  case round =>
    obtain ⟨j, hj, rfl, rfl, rfl, hM⟩ := hrel
    clear hr
    by_cases hlt : j < n
    · have hjz : (j : Int) < (n : Int) := by omega
      have hc := hM.row.cell hlt
      have hf := hM.row.frozen j
      have hS : Hid (Marked w (wr.setCell ⟨b, j, none⟩ (.int .u8 ((k + j) % 256))) b n f k (j + 1)) := marked_step hM
      have hw : ∀ x : Int, IntKind.u8.wrap x = x % 256 := u8_wrap
      clear hM
      go_wp2
      go_roundg (n - (j + 1))
      case measure => omega
      case rel => exact ⟨j + 1, by omega, rfl, by go_num, by go_num, hS.out⟩
    · obtain rfl : j = n := by omega
      have hF : Hid (Row 5 wr b j (fun i => (k + i) % 256)) := hM.row.congr (fun i hi => by rw [if_pos (by omega)])
      have hO := hM.only
      clear hM
      go_wp2
      go_ret
      exact ⟨rfl, hF.out, hO⟩

set_option maxHeartbeats 400000 in
theorem held_any (ao : Option Addr) (n cap : Nat) (f : Nat → Int) (k : Int) (w : World) (hv : View w ao n cap f) (he : ∀ i, i < n → f i = (k + i) % 256) (hk : 0 ≤ k) (hk1 : k + n ≤ 4611686018427387904) :
    Calls Try.prog 81 #[.slice ao n cap, .int .i64 k] w fun e w' => e = .returned (.int .i64 (k + n)) ∧ Below w.heap.size w w' := by
  go_enter Try.func81, Try.ntmps81
  go_wp2
  go_loopg [1, 5] n (fun g s i wr => ∃ j : Nat, j ≤ n ∧ g = n - j ∧ s = .int .i64 (k + j) ∧ i = .int .i64 j ∧ Below w.heap.size w wr)
  case atStart => exact ⟨0, Nat.zero_le _, rfl, by simp, rfl, Below.refl _ _⟩
  case round =>
    obtain ⟨j, hj, rfl, rfl, rfl, hB⟩ := hrel
    by_cases hlt : j < n
    · obtain ⟨b, off, rfl, hb, hc⟩ := hv.cells (by omega)
      have hjz : (j : Int) < (n : Int) := by omega
      have hc1 : wr.cell? ⟨b, off + j, none⟩ = some (.int .u8 ((k + j) % 256)) := by rw [hB.cell (p := ⟨b, off + j, none⟩) hb, ← he j hlt]; exact hc j hlt
      have hw : ∀ x : Int, IntKind.u8.wrap x = x % 256 := u8_wrap
      clear hc he
      go_wp2
      all_goals
        go_roundg (n - (j + 1))
        case measure => omega
        case rel => exact ⟨j + 1, by omega, rfl, by go_num, by go_num, by first | exact hB.drew | exact hB⟩
    · obtain rfl : j = n := by omega
      go_wp2
      go_ret
      exact ⟨rfl, hB⟩
end Go.Proofs.Ytdjaiappaghfnaa

