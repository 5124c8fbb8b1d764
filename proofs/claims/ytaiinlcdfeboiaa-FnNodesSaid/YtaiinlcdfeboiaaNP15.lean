/-
  Together: NodeRdS, NodeGetP, NodeGetS
-/
import Derived.Test.YtaiinlcdfeboiaaNP14
import Derived.Test.YtaiinlcdfeboiaaNP1
import Derived.Deep.RegionHeld3
import Derived.Deep.LoopGhost
import Derived.Deep.DeepCutAuto
import Derived.Deep.CutBlock
/-
  The model's reader: l14Num, l14Text.
-/
namespace Go.Proofs.Ytaiinlcdfeboiaa
open Go.RowKit
set_option maxRecDepth 4000

set_option maxHeartbeats 2000000 in
theorem l14Num_any (B b off n cap : Nat) (F : Nat → Int) (P : Int) (bad : Bool) (W : World) (hV : V3 W B 64 (.slice (some ⟨b, off, none⟩) n cap) (.int .i64 P) (.bool bad)) (hv : View W (some ⟨b, off, none⟩) n cap F) (hn : n ≤ 4194304) (hp : P ≤ 9223372036854775807) (a : Int) (q : Int) (ok : Bool) (hg : Hid (getU n F P = (a, q, ok))) :
    Calls Try.prog 40 #[.pointer (some ⟨B, 0, none⟩)] W fun e w' =>
      (bad = false ∧ ok = true ∧ e = .returned (.int .i64 a) ∧ w' = (W.setCell ⟨B, 1, none⟩ (.int .i64 q)).drew) ∨ ((bad = true ∨ ok = false) ∧ e = .returned (.int .i64 0) ∧ w' = (W.setCell ⟨B, 2, none⟩ (.bool true)).drew) := by
  obtain ⟨x0, x1, x2⟩ := hV.cells
  obtain ⟨z0, z1, z2⟩ := hV.fz
  have hC : ∀ W' : World, Below W.heap.size W W' → Calls Try.prog 70 #[.slice (some ⟨b, off, none⟩) n cap, .int .i64 P] W' fun e w' => e = .returned (.tuple #[.int .i64 a, .int .i64 q, .bool ok]) ∧ W' = w' := fun W' hb => getU_spec' _ n cap F P W' hg (hv.below hb) (by omega) hp
  have hb0 : Below W.heap.size W W.drew := (Below.refl _ _).drew
  clear hV hv hg
  go_enter Try.func40, Try.ntmps40
  go_wp2_with fail
  go_region_held3 (fun WW => WW.cell? ⟨B, 0, none⟩ = some (.slice (some ⟨b, off, none⟩) n cap) ∧ WW.cell? ⟨B, 1, none⟩ = some (.int .i64 P)) (first | assumption | go_keep) (first
    | (go_at_call 70; refine (hC _ hb0).mono ?_; rintro e _ ⟨rfl, rfl⟩))
  all_goals
    clear hC hb0
    cases bad <;> cases ok
    all_goals
      go_wp2
      go_ret
      first
        | exact ⟨rfl, rfl⟩
        | exact .inl ⟨rfl, rfl, rfl, rfl⟩
        | exact .inr ⟨.inl rfl, rfl, rfl⟩
        | exact .inr ⟨.inr rfl, rfl, rfl⟩
set_option maxHeartbeats 2000000 in
theorem l14Text_any (B b off n cap : Nat) (F : Nat → Int) (P : Int) (bad : Bool) (W : World) (hV : V3 W B 64 (.slice (some ⟨b, off, none⟩) n cap) (.int .i64 P) (.bool bad)) (hv : View W (some ⟨b, off, none⟩) n cap F) (hn : n ≤ 4194304) (hp : P ≤ 9223372036854775807) (a : ByteArray) (q : Int) (ok : Bool) (hg : Hid (getText n F P = (a, q, ok))) :
    Calls Try.prog 41 #[.pointer (some ⟨B, 0, none⟩)] W fun e w' =>
      (bad = false ∧ ok = true ∧ e = .returned (.string a) ∧ w' = (W.setCell ⟨B, 1, none⟩ (.int .i64 q)).drew) ∨ ((bad = true ∨ ok = false) ∧ e = .returned (.string ⟨#[]⟩) ∧ w' = (W.setCell ⟨B, 2, none⟩ (.bool true)).drew) := by
  obtain ⟨x0, x1, x2⟩ := hV.cells
  obtain ⟨z0, z1, z2⟩ := hV.fz
  have hC : ∀ W' : World, Below W.heap.size W W' → Calls Try.prog 71 #[.slice (some ⟨b, off, none⟩) n cap, .int .i64 P] W' fun e w' => e = .returned (.tuple #[.string a, .int .i64 q, .bool ok]) ∧ W' = w' := fun W' hb => getText_spec b off n cap F P W' a q ok hg (hv.below hb) (by omega) hp
  have hb0 : Below W.heap.size W W.drew := (Below.refl _ _).drew
  clear hV hv hg
  go_enter Try.func41, Try.ntmps41
  go_wp2_with fail
  go_region_held3 (fun WW => WW.cell? ⟨B, 0, none⟩ = some (.slice (some ⟨b, off, none⟩) n cap) ∧ WW.cell? ⟨B, 1, none⟩ = some (.int .i64 P)) (first | assumption | go_keep) (first
    | (go_at_call 71; refine (hC _ hb0).mono ?_; rintro e _ ⟨rfl, rfl⟩))
  all_goals
    clear hC hb0
    cases bad <;> cases ok
    all_goals
      go_wp2
      go_ret
      first
        | exact ⟨rfl, rfl⟩
        | exact .inl ⟨rfl, rfl, rfl, rfl⟩
        | exact .inr ⟨.inl rfl, rfl, rfl⟩
        | exact .inr ⟨.inr rfl, rfl, rfl⟩
end Go.Proofs.Ytaiinlcdfeboiaa

/-
  The model's GetNode: what its reading comes to.
-/
namespace Go.Proofs.Ytaiinlcdfeboiaa
open Go.RowKit
set_option maxRecDepth 4000

/-- What is from base on in W is in W' too. -/
structure Mid (base : Nat) (W W' : World) : Prop where
  size : W.heap.size ≤ W'.heap.size
  keep : ∀ k, base ≤ k → k < W.heap.size → W'.heap[k]? = W.heap[k]?
theorem Mid.refl (base : Nat) (W : World) : Mid base W W := ⟨Nat.le_refl _, fun _ _ _ => rfl⟩
theorem Mid.set {base : Nat} {W W' : World} (h : Mid base W W') {k i : Nat} (hk : k < base) (u : Value) : Mid base W (W'.setCell ⟨k, i, none⟩ u) :=
  ⟨by simpa using h.size, fun j hj hlt => by rw [Below.heap_setCell _ _ _ _ (by show j ≠ k; omega)]; exact h.keep j hj hlt⟩
theorem Mid.drew {base : Nat} {W W' : World} (h : Mid base W W') : Mid base W W'.drew := ⟨h.size, h.keep⟩
theorem Mid.alloc {base : Nat} {W W' : World} (h : Mid base W W') (o : Obj) : Mid base W (W'.alloc o) :=
  ⟨by have := h.size; simp; omega, fun j hj hlt => by rw [Below.heap_alloc _ _ _ (by have := h.size; omega)]; exact h.keep j hj hlt⟩
theorem Mid.grown {base : Nat} {W W' W'' : World} {ob : Option Nat} (h : Mid base W W') (hg : W'.grownBy W'' ob) (ho : ∀ k, ob = some k → W.heap.size ≤ k) : Mid base W W'' :=
  ⟨Nat.le_trans h.size hg.size, fun j hj hlt => by rw [hg.block j (by have := h.size; omega) (fun e => by have := ho j e.symm; omega)]; exact h.keep j hj hlt⟩
theorem OV.mid {base : Nat} {W W' : World} {a : Option Addr} {n c : Nat} {f : Nat → Value} (h : OV W a n c f) (hh : HiA base a) (hm : Mid base W W') : OV W' a n c f := by
  refine ⟨h.le, fun hn => ?_⟩
  obtain ⟨b, off, e, hlt, hc⟩ := h.cells hn
  have hb : base ≤ b := hh _ e
  refine ⟨b, off, e, Nat.lt_of_lt_of_le hlt hm.size, fun j hj => ?_⟩
  rw [World.cell?_of_block (w := W) (a := ⟨b, off + j, none⟩) (hm.keep b hb hlt)]
  exact hc j hj
theorem own_lo {W : World} {base T c N k i : Nat} {v u : Value} {xs : List Value} (h : W.ownsRow base T c v N xs) (hk : k < base) : (W.setCell ⟨k, i, none⟩ u).ownsRow base T c v N xs := by
  obtain ⟨hl, h⟩ := h
  refine ⟨hl, ?_⟩
  rcases h with h | ⟨g, kk, cur, e, hb, hg, hr⟩
  · exact .inl h
  · exact .inr ⟨g, kk, cur, e, hb, by rw [Below.heap_setCell _ _ _ _ (by show g ≠ k; omega)]; exact hg, hr⟩
/-- The model's GetNode under way: its reader, its node, its result. -/
structure RS (w W : World) (b off n cap : Nat) (at_ : Int) (bad lf : Bool) (kv vv dv : Value) : Prop where
  box : V3 W (w.heap.size + 1) 64 (.slice (some ⟨b, off, none⟩) n cap) (.int .i64 at_) (.bool bad)
  var : V4 W (w.heap.size + 1 + 1) 27 (.bool lf) kv vv dv
  res : V4 W w.heap.size 27 (.bool false) (.slice none 0 0) (.slice none 0 0) (.slice none 0 0)
  below : Below w.heap.size w W
namespace RS
variable {w W W' : World} {b off n cap : Nat} {at_ : Int} {bad lf : Bool} {kv vv dv : Value}
theorem setAt (h : RS w W b off n cap at_ bad lf kv vv dv) (q : Int) : RS w (W.setCell ⟨w.heap.size + 1, 1, none⟩ (.int .i64 q)).drew b off n cap q bad lf kv vv dv :=
  ⟨V3.block (h.box.set1 _) rfl, V4.block (h.var.other (C := w.heap.size + 1) (by omega)) rfl, V4.block (h.res.other (C := w.heap.size + 1) (by omega)) rfl, (h.below.setCell (p := ⟨w.heap.size + 1, 1, none⟩) (by simp) _).drew⟩
theorem setBad (h : RS w W b off n cap at_ bad lf kv vv dv) (q : Bool) : RS w (W.setCell ⟨w.heap.size + 1, 2, none⟩ (.bool q)).drew b off n cap at_ q lf kv vv dv :=
  ⟨V3.block (h.box.set2 _) rfl, V4.block (h.var.other (C := w.heap.size + 1) (by omega)) rfl, V4.block (h.res.other (C := w.heap.size + 1) (by omega)) rfl, (h.below.setCell (p := ⟨w.heap.size + 1, 2, none⟩) (by simp) _).drew⟩
theorem alloc (h : RS w W b off n cap at_ bad lf kv vv dv) (o : Obj) : RS w (W.alloc o) b off n cap at_ bad lf kv vv dv :=
  ⟨h.box.block (Below.heap_alloc _ _ _ h.box.lt), h.var.block (Below.heap_alloc _ _ _ h.var.lt), h.res.block (Below.heap_alloc _ _ _ h.res.lt), h.below.alloc h.below.size _⟩
theorem grown (h : RS w W b off n cap at_ bad lf kv vv dv) {ob : Option Nat} (hg : W.grownBy W' ob) (ho : ∀ k, ob = some k → w.heap.size + 3 ≤ k) : RS w W' b off n cap at_ bad lf kv vv dv :=
  ⟨h.box.block (hg.block _ h.box.lt (fun e => by have := ho _ e.symm; omega)), h.var.block (hg.block _ h.var.lt (fun e => by have := ho _ e.symm; omega)), h.res.block (hg.block _ h.res.lt (fun e => by have := ho _ e.symm; omega)), h.below.grown hg h.below.size (fun k e => by have := ho k e; omega)⟩
theorem setK (h : RS w W b off n cap at_ bad lf kv vv dv) (u : Value) : RS w (W.setCell ⟨w.heap.size + 1 + 1, 1, none⟩ u) b off n cap at_ bad lf u vv dv :=
  ⟨h.box.other (C := w.heap.size + 1 + 1) (by omega), h.var.set1 _, h.res.other (C := w.heap.size + 1 + 1) (by omega), h.below.setCell (p := ⟨w.heap.size + 1 + 1, 1, none⟩) (by simp; omega) _⟩
theorem setV (h : RS w W b off n cap at_ bad lf kv vv dv) (u : Value) : RS w (W.setCell ⟨w.heap.size + 1 + 1, 2, none⟩ u) b off n cap at_ bad lf kv u dv :=
  ⟨h.box.other (C := w.heap.size + 1 + 1) (by omega), h.var.set2 _, h.res.other (C := w.heap.size + 1 + 1) (by omega), h.below.setCell (p := ⟨w.heap.size + 1 + 1, 2, none⟩) (by simp; omega) _⟩
theorem setD (h : RS w W b off n cap at_ bad lf kv vv dv) (u : Value) : RS w (W.setCell ⟨w.heap.size + 1 + 1, 3, none⟩ u) b off n cap at_ bad lf kv vv u :=
  ⟨h.box.other (C := w.heap.size + 1 + 1) (by omega), h.var.set3 _, h.res.other (C := w.heap.size + 1 + 1) (by omega), h.below.setCell (p := ⟨w.heap.size + 1 + 1, 3, none⟩) (by simp; omega) _⟩
end RS
/-- No node that is right has these bytes. -/
def NoN (n : Nat) (F : Nat → Int) : Prop := ∀ E, OkS E → bytesN E ≠ lof n F
theorem noN_of {n : Nat} {F : Nat → Int} (h : ∀ E, Shape E → ¬ AtF n F 0 (bytesN E)) : NoN n F := fun E hE he => h E hE.i.shape (at_lof he)
/-- What a reader's step comes to. -/
def NumSem (n : Nat) (F : Nat → Int) (at_ : Int) (bad : Bool) (v at' : Int) (bad' : Bool) : Prop := (bad' = true ∧ (bad = true ∨ (getU n F at_).2.2 = false)) ∨ (bad' = false ∧ bad = false ∧ getU n F at_ = (v, at', true))
def TextSem (n : Nat) (F : Nat → Int) (at_ : Int) (bad : Bool) (v : ByteArray) (at' : Int) (bad' : Bool) : Prop := (bad' = true ∧ (bad = true ∨ (getText n F at_).2.2 = false)) ∨ (bad' = false ∧ bad = false ∧ getText n F at_ = (v, at', true))
/-- The reader alone, ahead of the node. -/
structure R0 (w W : World) (b off n cap : Nat) (at_ : Int) (bad : Bool) : Prop where
  box : V3 W (w.heap.size + 1) 64 (.slice (some ⟨b, off, none⟩) n cap) (.int .i64 at_) (.bool bad)
  res : V4 W w.heap.size 27 (.bool false) (.slice none 0 0) (.slice none 0 0) (.slice none 0 0)
  below : Below w.heap.size w W
  sz : W.heap.size = w.heap.size + 1 + 1
  ab : 0 ≤ at_ ∧ at_ ≤ n
namespace R0
variable {w W : World} {b off n cap : Nat} {at_ : Int} {bad : Bool}
theorem setAt (h : R0 w W b off n cap at_ bad) {q : Int} (hq : 0 ≤ q ∧ q ≤ n) : R0 w (W.setCell ⟨w.heap.size + 1, 1, none⟩ (.int .i64 q)).drew b off n cap q bad :=
  ⟨V3.block (h.box.set1 _) rfl, V4.block (h.res.other (C := w.heap.size + 1) (by omega)) rfl, (h.below.setCell (p := ⟨w.heap.size + 1, 1, none⟩) (by simp) _).drew, by have := h.sz; simpa using this, hq⟩
theorem setBad (h : R0 w W b off n cap at_ bad) (q : Bool) : R0 w (W.setCell ⟨w.heap.size + 1, 2, none⟩ (.bool q)).drew b off n cap at_ q :=
  ⟨V3.block (h.box.set2 _) rfl, V4.block (h.res.other (C := w.heap.size + 1) (by omega)) rfl, (h.below.setCell (p := ⟨w.heap.size + 1, 2, none⟩) (by simp) _).drew, by have := h.sz; simpa using this, h.ab⟩
theorem setBad' (h : R0 w W b off n cap at_ bad) (q : Bool) : R0 w (W.setCell ⟨w.heap.size + 1, 2, none⟩ (.bool q)) b off n cap at_ q :=
  ⟨h.box.set2 _, h.res.other (C := w.heap.size + 1) (by omega), h.below.setCell (p := ⟨w.heap.size + 1, 2, none⟩) (by simp) _, by have := h.sz; simpa using this, h.ab⟩
theorem rs (h : R0 w W b off n cap at_ bad) (lf : Bool) : RS w (W.alloc (.cells #[.bool lf, .slice none 0 0, .slice none 0 0, .slice none 0 0] 27)) b off n cap at_ bad lf (.slice none 0 0) (.slice none 0 0) (.slice none 0 0) :=
  ⟨h.box.block (Below.heap_alloc _ _ _ h.box.lt), by rw [← h.sz]; exact V4.new W _ _ _ _ _, h.res.block (Below.heap_alloc _ _ _ h.res.lt), h.below.alloc h.below.size _⟩
end R0
theorem get_in {n : Nat} {F : Nat → Int} {p a q : Int} (hF : ∀ i, i < n → 0 ≤ F i ∧ F i ≤ 255) (h : getU n F p = (a, q, true)) : 0 ≤ q ∧ q ≤ n := by
  obtain ⟨-, -, h3, h4⟩ := getU_bd hF h
  exact ⟨h3, h4⟩
theorem getT_in {n : Nat} {F : Nat → Int} {p q : Int} {s : ByteArray} (hF : ∀ i, i < n → 0 ≤ F i ∧ F i ≤ 255) (h : getText n F p = (s, q, true)) : 0 ≤ q ∧ q ≤ n := by
  obtain ⟨i, -, hA, hq, -⟩ := getText_read hF h
  have := hA.le
  omega
theorem num_step {w W : World} {b off n cap : Nat} {F : Nat → Int} {at_ : Int} {bad : Bool} (h : R0 w W b off n cap at_ bad) (hv : View w (some ⟨b, off, none⟩) n cap F) (hn : n ≤ 4194304) :
    Calls Try.prog 40 #[.pointer (some ⟨w.heap.size + 1, 0, none⟩)] W fun e w' => ∃ v at' bad', e = .returned (.int .i64 v) ∧ R0 w w' b off n cap at' bad' ∧ NumSem n F at_ bad v at' bad' := by
  obtain ⟨a, q, ok, hg⟩ : ∃ a q ok, Hid (getU n F at_ = (a, q, ok)) := ⟨_, _, _, rfl⟩
  refine (l14Num_any _ b off n cap F at_ bad W h.box (hv.below h.below) hn (by have := h.ab; omega) a q ok hg).mono ?_
  rintro e w' (⟨rfl, rfl, rfl, rfl⟩ | ⟨hc, rfl, rfl⟩)
  · exact ⟨a, q, false, rfl, h.setAt (get_in hv.byte hg.out), .inr ⟨rfl, rfl, hg.out⟩⟩
  · exact ⟨0, at_, true, rfl, h.setBad true, .inl ⟨rfl, hc.imp id (fun e => by rw [hg.out]; exact e)⟩⟩
theorem num_stepR {w W : World} {b off n cap : Nat} {F : Nat → Int} {at_ : Int} {bad lf : Bool} {kv vv dv : Value} (h : RS w W b off n cap at_ bad lf kv vv dv) (hv : View w (some ⟨b, off, none⟩) n cap F) (hn : n ≤ 4194304) (hat : at_ ≤ n) :
    Calls Try.prog 40 #[.pointer (some ⟨w.heap.size + 1, 0, none⟩)] W fun e w' => ∃ v at' bad', e = .returned (.int .i64 v) ∧ RS w w' b off n cap at' bad' lf kv vv dv ∧ (∃ i u, w' = (W.setCell ⟨w.heap.size + 1, i, none⟩ u).drew) ∧ NumSem n F at_ bad v at' bad' ∧ at' ≤ n := by
  obtain ⟨a, q, ok, hg⟩ : ∃ a q ok, Hid (getU n F at_ = (a, q, ok)) := ⟨_, _, _, rfl⟩
  refine (l14Num_any _ b off n cap F at_ bad W h.box (hv.below h.below) hn (by omega) a q ok hg).mono ?_
  rintro e w' (⟨rfl, rfl, rfl, rfl⟩ | ⟨hc, rfl, rfl⟩)
  · exact ⟨a, q, false, rfl, h.setAt q, ⟨_, _, rfl⟩, .inr ⟨rfl, rfl, hg.out⟩, (get_in hv.byte hg.out).2⟩
  · exact ⟨0, at_, true, rfl, h.setBad true, ⟨_, _, rfl⟩, .inl ⟨rfl, hc.imp id (fun e => by rw [hg.out]; exact e)⟩, hat⟩
theorem text_stepR {w W : World} {b off n cap : Nat} {F : Nat → Int} {at_ : Int} {bad lf : Bool} {kv vv dv : Value} (h : RS w W b off n cap at_ bad lf kv vv dv) (hv : View w (some ⟨b, off, none⟩) n cap F) (hn : n ≤ 4194304) (hat : at_ ≤ n) :
    Calls Try.prog 41 #[.pointer (some ⟨w.heap.size + 1, 0, none⟩)] W fun e w' => ∃ v at' bad', e = .returned (.string v) ∧ RS w w' b off n cap at' bad' lf kv vv dv ∧ (∃ i u, w' = (W.setCell ⟨w.heap.size + 1, i, none⟩ u).drew) ∧ TextSem n F at_ bad v at' bad' ∧ at' ≤ n := by
  obtain ⟨a, q, ok, hg⟩ : ∃ a q ok, Hid (getText n F at_ = (a, q, ok)) := ⟨_, _, _, rfl⟩
  refine (l14Text_any _ b off n cap F at_ bad W h.box (hv.below h.below) hn (by omega) a q ok hg).mono ?_
  rintro e w' (⟨rfl, rfl, rfl, rfl⟩ | ⟨hc, rfl, rfl⟩)
  · exact ⟨a, q, false, rfl, h.setAt q, ⟨_, _, rfl⟩, .inr ⟨rfl, rfl, hg.out⟩, (getT_in hv.byte hg.out).2⟩
  · exact ⟨⟨#[]⟩, at_, true, rfl, h.setBad true, ⟨_, _, rfl⟩, .inl ⟨rfl, hc.imp id (fun e => by rw [hg.out]; exact e)⟩, hat⟩
/-- What the model's GetNode says: whether there is a node that is right of these bytes. -/
def GotB (w : World) (n : Nat) (F : Nat → Int) (e : Ending) (w' : World) : Prop :=
  Below w.heap.size w w' ∧ ∃ (r : Bool) (v : Value), e = .returned (.tuple #[v, .bool r]) ∧ NdForm v ∧ (r = true → ∃ E, OkS E ∧ bytesN E = lof n F) ∧ (r = false → NoN n F)
theorem SameP.okS {D E : PNode} (h : SameP D E) (k : OkS E) : OkS D := ⟨h.okI k.1, fun i hi => by rw [h.key i hi]; exact k.2 i (by rw [← h.nk]; exact hi)⟩
theorem noN_leaf {n : Nat} {F : Nat → Int} {m : Int} {Q : Nat} {ok : Bool} (h : getU n F 0 = (m, (Q : Int), ok)) (hm : 1 < m) : NoN n F := noN_of fun E hs ha => by
  obtain ⟨p1, p2, d1, -, -, -⟩ := at_parts hs ha
  rw [h] at d1
  simp only [Prod.mk.injEq] at d1
  have := d1.1
  unfold mk at this
  split at this <;> omega
theorem noN_many {n : Nat} {F : Nat → Int} {m : Int} {Q C P : Nat} {ok ok2 : Bool} (h1 : getU n F 0 = (m, (Q : Int), ok)) (h2 : getU n F (Q : Int) = ((C : Int), (P : Int), ok2)) (hc : n < C) : NoN n F := noN_of fun E hs ha => by
  obtain ⟨p1, p2, d1, d2, d3, -⟩ := at_parts hs ha
  rw [h1] at d1
  simp only [Prod.mk.injEq] at d1
  rw [← d1.2.1, h2] at d2
  simp only [Prod.mk.injEq] at d2
  have e1 : E.nk = C := by omega
  have := d3.le
  have := (textsL_has E.key E.nk 0 (by omega)).2
  omega
/-- The mark and the count were read. -/
def GF (n : Nat) (F : Nat → Int) (lv cv : Int) (P C : Nat) : Prop :=
  cv = (C : Int) ∧ C ≤ n ∧ P ≤ n ∧ (0 ≤ lv ∧ lv ≤ 1) ∧ ∃ Q : Nat, getU n F 0 = (lv, (Q : Int), true) ∧ getU n F (Q : Int) = ((C : Int), (P : Int), true)
def G1 (n : Nat) (F : Nat → Int) (lv cv : Int) (P C : Nat) (l : List ByteArray) (at_ : Int) (bad : Bool) : Prop :=
  (bad = true ∧ NoN n F) ∨ (bad = false ∧ GF n F lv cv P C ∧ l.length ≤ C ∧ NoneL 1000000 l.length (lfT l) ∧ at_ = ((P + (textsL (lfT l) l.length).length : Nat) : Int) ∧ AtF n F P (textsL (lfT l) l.length))
theorem G1.step {n : Nat} {F : Nat → Int} {lv cv : Int} {P C : Nat} {l : List ByteArray} {at_ : Int} (h : G1 n F lv cv P C l at_ false) (hlt : (l.length : Int) < cv) {s : ByteArray} {at' : Int} {bad' : Bool} (hs : TextSem n F at_ false s at' bad') (hF : ∀ i, i < n → 0 ≤ F i ∧ F i ≤ 255) : G1 n F lv cv P C (l ++ [s]) at' bad' := by
  rcases h with ⟨h, -⟩ | ⟨-, hG, hl, hN, hat, hA⟩
  · cases h
  obtain ⟨hc, hCn, hPn, hlv, Q, g1, g2⟩ := hG
  rcases hs with ⟨hb, hs⟩ | ⟨hb, -, hs⟩
  · refine .inl ⟨hb, noN_of (no_of_keys g1 g2 (fun g hg ha => ?_))⟩
    have := textsL_more (k := l.length) (by omega) hN hg hA ha
    rw [← hat] at this
    rcases hs with hs | hs
    · cases hs
    · rw [this] at hs; cases hs
  · obtain ⟨p, hp, ha, hq, hsz⟩ := getText_read hF hs
    have e0 : p = P + (textsL (lfT l) l.length).length := by omega
    refine .inr ⟨hb, ⟨hc, hCn, hPn, hlv, Q, g1, g2⟩, by simp; omega, by rw [List.length_append]; exact noneT_push hN hsz, ?_, ?_⟩
    · rw [List.length_append, List.length_singleton, textsL_push, List.length_append, oneT_txtL hsz, hq, e0]; push_cast; omega
    · rw [List.length_append, List.length_singleton, textsL_push, oneT_txtL hsz]
      exact hA.append (by rw [← e0]; exact ha)
/-- The keys were read. -/
def K1 (n : Nat) (F : Nat → Int) (P C : Nat) (l : List ByteArray) : Prop := l.length = C ∧ NoneL 1000000 C (lfT l) ∧ AtF n F P (textsL (lfT l) C)
def TT (P : Nat) (l : List ByteArray) : Nat := P + (textsL (lfT l) l.length).length
def G2 (n : Nat) (F : Nat → Int) (lv cv : Int) (P C : Nat) (lf : Bool) (l l2 : List ByteArray) (at_ : Int) (bad : Bool) : Prop :=
  (bad = true ∧ NoN n F) ∨ (bad = false ∧ GF n F lv cv P C ∧ K1 n F P C l ∧ ((lf = true ∧ l2.length ≤ C ∧ NoneL 1000000 l2.length (lfT l2) ∧ at_ = ((TT P l + (textsL (lfT l2) l2.length).length : Nat) : Int) ∧ AtF n F (TT P l) (textsL (lfT l2) l2.length)) ∨ (lf = false ∧ l2 = [] ∧ at_ = (TT P l : Nat))))
theorem G1.next {n : Nat} {F : Nat → Int} {lv cv : Int} {P C : Nat} {l : List ByteArray} {at_ : Int} {bad : Bool} (h : G1 n F lv cv P C l at_ bad) (hge : bad = false → ¬ (l.length : Int) < cv) (lf : Bool) : G2 n F lv cv P C lf l [] at_ bad := by
  rcases h with h | ⟨hb, hG, hl, hN, hat, hA⟩
  · exact .inl h
  · have hlC : l.length = C := by have := hge hb; have := hG.1; omega
    refine .inr ⟨hb, hG, ⟨hlC, by rw [← hlC]; exact hN, by rw [← hlC]; exact hA⟩, ?_⟩
    cases lf with
    | true => exact .inl ⟨rfl, Nat.zero_le _, (fun i hi => absurd hi (Nat.not_lt_zero _)), by rw [hat]; unfold TT; simp [textsL], AtF.nil hA.le⟩
    | false => exact .inr ⟨rfl, rfl, hat⟩
theorem G2.step {n : Nat} {F : Nat → Int} {lv cv : Int} {P C : Nat} {l l2 : List ByteArray} {at_ : Int} (h : G2 n F lv cv P C true l l2 at_ false) (hlv1 : lv = 1) (hlt : (l2.length : Int) < cv) {s : ByteArray} {at' : Int} {bad' : Bool} (hs : TextSem n F at_ false s at' bad') (hF : ∀ i, i < n → 0 ≤ F i ∧ F i ≤ 255) : G2 n F lv cv P C true l (l2 ++ [s]) at' bad' := by
  rcases h with ⟨h, -⟩ | ⟨-, hG, hK, hh⟩
  · cases h
  rcases hh with ⟨-, hl, hN, hat, hA⟩ | ⟨h, -⟩
  case inr => cases h
  obtain ⟨hc, hCn, hPn, hlv, Q, g1, g2⟩ := hG
  obtain ⟨k1, k2, k3⟩ := hK
  have hT : TT P l = P + (textsL (lfT l) C).length := by unfold TT; rw [k1]
  rcases hs with ⟨hb, hs⟩ | ⟨hb, -, hs⟩
  · refine .inl ⟨hb, noN_of (no_of_vals (by rw [← hlv1]; exact g1) g2 k2 k3 (fun g hg ha => ?_))⟩
    rw [← hT] at ha
    have := textsL_more (k := l2.length) (by omega) hN hg hA ha
    rw [← hat] at this
    rcases hs with hs | hs
    · cases hs
    · rw [this] at hs; cases hs
  · obtain ⟨p, hp, ha, hq, hsz⟩ := getText_read hF hs
    have e0 : p = TT P l + (textsL (lfT l2) l2.length).length := by omega
    refine .inr ⟨hb, ⟨hc, hCn, hPn, hlv, Q, g1, g2⟩, ⟨k1, k2, k3⟩, .inl ⟨rfl, by simp; omega, by rw [List.length_append]; exact noneT_push hN hsz, ?_, ?_⟩⟩
    · rw [List.length_append, List.length_singleton, textsL_push, List.length_append, oneT_txtL hsz, hq, e0]; push_cast; omega
    · rw [List.length_append, List.length_singleton, textsL_push, oneT_txtL hsz]
      exact hA.append (by rw [← e0]; exact ha)
def G3 (n : Nat) (F : Nat → Int) (lv cv : Int) (P C : Nat) (lf : Bool) (l l2 : List ByteArray) (l3 : List Int) (at_ : Int) (bad : Bool) : Prop :=
  (bad = true ∧ NoN n F) ∨ (bad = false ∧ GF n F lv cv P C ∧ K1 n F P C l ∧ ((lf = true ∧ l2.length = C ∧ NoneL 1000000 l2.length (lfT l2) ∧ at_ = ((TT P l + (textsL (lfT l2) l2.length).length : Nat) : Int) ∧ AtF n F (TT P l) (textsL (lfT l2) l2.length) ∧ l3 = []) ∨ (lf = false ∧ l2 = [] ∧ l3.length ≤ C + 1 ∧ InU l3.length (lfN l3) ∧ at_ = ((TT P l + (numL (lfN l3) l3.length).length : Nat) : Int) ∧ AtF n F (TT P l) (numL (lfN l3) l3.length))))
theorem G2.next {n : Nat} {F : Nat → Int} {lv cv : Int} {P C : Nat} {lf : Bool} {l l2 : List ByteArray} {at_ : Int} {bad : Bool} (h : G2 n F lv cv P C lf l l2 at_ bad) (hge : bad = false → lf = true → ¬ (l2.length : Int) < cv) : G3 n F lv cv P C lf l l2 [] at_ bad := by
  rcases h with h | ⟨hb, hG, hK, hh⟩
  · exact .inl h
  · rcases hh with ⟨hl, h1, h2, h3, h4⟩ | ⟨hl, h1, h2⟩
    · have := hge hb hl
      have := hG.1
      exact .inr ⟨hb, hG, hK, .inl ⟨hl, by omega, h2, h3, h4, rfl⟩⟩
    · refine .inr ⟨hb, hG, hK, .inr ⟨hl, h1, Nat.zero_le _, (fun i hi => absurd hi (Nat.not_lt_zero _)), by rw [h2]; simp [numL], AtF.nil ?_⟩⟩
      have := hK.2.2.le
      unfold TT; rw [hK.1]; exact this
theorem G3.step {n : Nat} {F : Nat → Int} {lv cv : Int} {P C : Nat} {l l2 : List ByteArray} {l3 : List Int} {at_ : Int} (h : G3 n F lv cv P C false l l2 l3 at_ false) (hlv1 : lv ≠ 1) (hlt : (l3.length : Int) ≤ cv) {s : Int} {at' : Int} {bad' : Bool} (hs : NumSem n F at_ false s at' bad') (hF : ∀ i, i < n → 0 ≤ F i ∧ F i ≤ 255) : G3 n F lv cv P C false l l2 (l3 ++ [s]) at' bad' := by
  rcases h with ⟨h, -⟩ | ⟨-, hG, hK, hh⟩
  · cases h
  rcases hh with ⟨h, -⟩ | ⟨-, hl2, hl, hN, hat, hA⟩
  · cases h
  obtain ⟨hc, hCn, hPn, hlv, Q, g1, g2⟩ := hG
  obtain ⟨k1, k2, k3⟩ := hK
  have hT : TT P l = P + (textsL (lfT l) C).length := by unfold TT; rw [k1]
  rcases hs with ⟨hb, hs⟩ | ⟨hb, -, hs⟩
  · refine .inl ⟨hb, noN_of (no_of_kids g1 g2 k2 k3 hlv1 (fun g hg ha => ?_))⟩
    rw [← hT] at ha
    have := numL_more (k := l3.length) (by omega) hN hg hA ha
    rw [← hat] at this
    rcases hs with hs | hs
    · cases hs
    · rw [this] at hs; cases hs
  · obtain ⟨p, hp, ha, hq, hsz⟩ := getU_read hF hs
    have e0 : p = TT P l + (numL (lfN l3) l3.length).length := by omega
    refine .inr ⟨hb, ⟨hc, hCn, hPn, hlv, Q, g1, g2⟩, ⟨k1, k2, k3⟩, .inr ⟨rfl, hl2, by simp; omega, by rw [List.length_append]; exact inU_push hN hsz, ?_, ?_⟩⟩
    · rw [List.length_append, List.length_singleton, numL_push, List.length_append, clampN_in hsz.1 hsz.2, hq, e0]; push_cast; omega
    · rw [List.length_append, List.length_singleton, numL_push, clampN_in hsz.1 hsz.2]
      exact hA.append (by rw [← e0]; exact ha)
/-- The node that was read. -/
def nodeE (lf : Bool) (l l2 : List ByteArray) (l3 : List Int) : PNode := ⟨lf, l.length, lfT l, l2.length, lfT l2, l3.length, lfN l3⟩
theorem G3.fin {n : Nat} {F : Nat → Int} {lv cv : Int} {P C : Nat} {lf : Bool} {l l2 : List ByteArray} {l3 : List Int} {at_ : Int} (h : G3 n F lv cv P C lf l l2 l3 at_ false) (hn : n ≤ 1000000) (hlf : lf = (lv == 1)) (hge : lf = false → ¬ (l3.length : Int) ≤ cv) (hF : ∀ i, i < n → 0 ≤ F i ∧ F i ≤ 255) :
    Shape (nodeE lf l l2 l3) ∧ AtF n F 0 (bytesN (nodeE lf l l2 l3)) ∧ at_ = (bytesN (nodeE lf l l2 l3)).length := by
  rcases h with ⟨h, -⟩ | ⟨-, hG, hK, hh⟩
  · cases h
  obtain ⟨hc, hCn, hPn, hlv, Q, g1, g2⟩ := hG
  obtain ⟨k1, k2, k3⟩ := hK
  obtain ⟨h0, hfa, hP⟩ := front_at hF g1 g2
  have hT : TT P l = P + (textsL (lfT l) C).length := by unfold TT; rw [k1]
  have hmk : mk (nodeE lf l l2 l3) = lv := by
    unfold mk nodeE
    rw [hlf]
    rcases (show lv = 0 ∨ lv = 1 by omega) with e | e <;> rw [e] <;> rfl
  have hsh : Shape (nodeE lf l l2 l3) := by
    rcases hh with ⟨e1, e2, e3, -, -, e6⟩ | ⟨e1, e2, e3, e4, -, -⟩
    · subst e6
      exact ⟨.inl ⟨e1, rfl⟩, .inl ⟨e1, by show l2.length = l.length; omega⟩, by show l.length ≤ _; omega, by show NoneL _ l.length _; rw [k1]; exact k2, e3, fun i hi => absurd hi (Nat.not_lt_zero _)⟩
    · subst e2
      have := hge e1
      exact ⟨.inr ⟨e1, rfl⟩, .inr ⟨e1, by show l3.length = l.length + 1; omega⟩, by show l.length ≤ _; omega, by show NoneL _ l.length _; rw [k1]; exact k2, (fun i hi => absurd hi (Nat.not_lt_zero _)), e4⟩
  have hb := bytesN_shape hsh
  rw [hmk, show (nodeE lf l l2 l3).nk = C from k1, show (nodeE lf l l2 l3).key = lfT l from rfl] at hb
  have hrest : AtF n F (TT P l) (restL (nodeE lf l l2 l3)) ∧ at_ = ((TT P l + (restL (nodeE lf l l2 l3)).length : Nat) : Int) := by
    unfold restL nodeE
    rcases hh with ⟨e1, e2, e3, e4, e5, e6⟩ | ⟨e1, e2, e3, e4, e5, e6⟩
    · subst e1; exact ⟨e5, e4⟩
    · subst e1; exact ⟨e6, e5⟩
  rw [hb]
  refine ⟨hsh, ?_, ?_⟩
  · refine hfa.append ?_
    rw [Nat.zero_add, ← hP]
    exact k3.append (by rw [← hT]; exact hrest.1)
  · rw [hrest.2, hT]
    simp only [List.length_append] at hP ⊢
    omega
theorem noN_len {n : Nat} {F : Nat → Int} {E : PNode} (hs : Shape E) (ha : AtF n F 0 (bytesN E)) (h : (bytesN E).length ≠ n) : NoN n F := fun D hD he => by
  have hsame := bytesN_uniq hs hD.i.shape ha (at_lof he)
  rw [hsame.bytes, he, lof_len] at h
  exact h rfl
theorem noN_ok {n : Nat} {F : Nat → Int} {E : PNode} (hs : Shape E) (ha : AtF n F 0 (bytesN E)) (h : ¬ OkS E) : NoN n F := fun _ hD he =>
  h ((bytesN_uniq hs hD.i.shape ha (at_lof he)).okS hD)
theorem at_all {n : Nat} {F : Nat → Int} {L : List Int} (ha : AtF n F 0 L) (h : L.length = n) : L = lof n F := by
  have := ha.lof
  simp only [Nat.zero_add] at this
  rw [h] at this
  exact this.symm
end Go.Proofs.Ytaiinlcdfeboiaa

/-
  The model's GetNode.
-/
namespace Go.Proofs.Ytaiinlcdfeboiaa
open Go.RowKit
set_option maxRecDepth 4000

set_option maxHeartbeats 16000000 in
theorem specGetNode_any (b off n cap : Nat) (F : Nat → Int) (w : World) (hv : View w (some ⟨b, off, none⟩) n cap F) (hn : n ≤ 1000000) :
    Calls Try.prog 13 #[.slice (some ⟨b, off, none⟩) n cap] w (GotB w n F) := by
  obtain ⟨i0, hi, hz0, hz1, hz2⟩ := infoTxt
  obtain ⟨j0, hj, hy0, hy1, hy2⟩ := infoNum
  have HV : Hid (View w (some ⟨b, off, none⟩) n cap F) := hv
  have HF : Hid (∀ i, i < n → 0 ≤ F i ∧ F i ≤ 255) := hv.byte
  obtain ⟨W0, hW0⟩ : ∃ W0, Hid ((w.alloc (.cells #[.bool false, .slice none 0 0, .slice none 0 0, .slice none 0 0] 27)).alloc (.cells #[.slice (some ⟨b, off, none⟩) n cap, .int .i64 0, .bool false] 64) = W0) := ⟨_, rfl⟩
  have hR : R0 w W0 b off n cap 0 false := by
    rw [← hW0.out]
    refine ⟨?_, V4.below (V4.new w _ _ _ _ _) ((Below.refl _ _).alloc (Nat.le_refl _) _), ((Below.refl _ _).alloc (Nat.le_refl _) _).alloc (by simp) _, by simp, by omega⟩
    have := V3.new (w.alloc (.cells #[.bool false, .slice none 0 0, .slice none 0 0, .slice none 0 0] 27)) 64 (.slice (some ⟨b, off, none⟩) n cap) (.int .i64 0) (.bool false)
    simpa using this
  have hC := num_step hR hv (by omega)
  clear hv hR
  go_enter Try.func13, Try.ntmps13
  go_wp2_with (first | rw [hW0.out] | fail)
  refine hC.mono ?_
  rintro e w1 ⟨lv, at1, bad1, rfl, hR1, hs1⟩
  have HS1 : Hid (NumSem n F 0 false lv at1 bad1) := hs1
  have hC := num_step hR1 HV.out (by omega)
  clear hs1 hR1 hW0
  go_wp2_with fail
  refine hC.mono ?_
  rintro e w2 ⟨cv, at2, bad2, rfl, hR2, hs2⟩
  have HS2 : Hid (NumSem n F at1 bad1 cv at2 bad2) := hs2
  clear hs2 hC
  go_upto_region 4 with fail
  go_cut [] (fun wx => ∃ (bad : Bool) (P C : Nat), R0 w wx b off n cap at2 bad ∧ Hid (G1 n F lv cv P C [] at2 bad))
  case first =>
    obtain ⟨x0, x1, x2⟩ := hR2.box.cells
    obtain ⟨z0, z1, z2⟩ := hR2.box.fz
    have HT : Hid (R0 w (w2.setCell ⟨w.heap.size + 1, 2, none⟩ (.bool true)) b off n cap at2 true) := hR2.setBad' true
    have HO : Hid (R0 w (w2.setCell ⟨w.heap.size + 1, 2, none⟩ (.bool false)) b off n cap at2 false) := hR2.setBad' false
    have HAB := hR2.ab
    clear hR2
    cases bad2 with
    | true =>
      have HN : Hid (NoN n F) := by
        rcases HS2.out with ⟨-, h⟩ | ⟨h, -⟩
        · rcases HS1.out with ⟨-, h1⟩ | ⟨e1, -, g1⟩
          · rcases h1 with h1 | h1
            · cases h1
            · obtain ⟨a, q, ok, hg⟩ : ∃ a q ok, getU n F 0 = (a, q, ok) := ⟨_, _, _, rfl⟩
              rw [hg] at h1; subst h1
              exact noN_of (no_of_get1 hg)
          · rcases h with h | h
            · rw [e1] at h; cases h
            · obtain ⟨a, q, ok, hg⟩ : ∃ a q ok, getU n F at1 = (a, q, ok) := ⟨_, _, _, rfl⟩
              rw [hg] at h; subst h
              obtain ⟨A, Q, -, rfl, -, -⟩ := getU_small HF.out g1
              exact noN_of (no_of_get2 g1 hg)
        · cases h
      clear HS1 HS2 HO
      go_wp2
      go_meet
      exact ⟨true, 0, 0, HT.out, .inl ⟨rfl, HN.out⟩⟩
    | false =>
      obtain ⟨Q, P, C, hc, ha, g1, g2⟩ : ∃ Q P C : Nat, cv = C ∧ at2 = P ∧ getU n F 0 = (lv, (Q : Int), true) ∧ getU n F (Q : Int) = ((C : Int), (P : Int), true) := by
        rcases HS2.out with ⟨h, -⟩ | ⟨-, e1, g2⟩
        · cases h
        · rcases HS1.out with ⟨h, -⟩ | ⟨-, -, g1⟩
          · rw [e1] at h; cases h
          · obtain ⟨A, Q, -, rfl, -, -⟩ := getU_small HF.out g1
            obtain ⟨C, P, rfl, rfl, -, -⟩ := getU_small HF.out g2
            exact ⟨Q, P, C, rfl, rfl, g1, g2⟩
      have HG : Hid (getU n F 0 = (lv, (Q : Int), true) ∧ getU n F (Q : Int) = ((C : Int), (P : Int), true)) := ⟨g1, g2⟩
      have hlv0 : 0 ≤ lv := by obtain ⟨A, Q, rfl, -, -, -⟩ := getU_small HF.out g1; omega
      have HPn : Hid (P ≤ n) := by show _ ≤ _; omega
      subst hc
      clear HS1 HS2 g1 g2
      by_cases hl1 : (1 : Int) < lv
      · have HN : Hid (NoN n F) := noN_leaf HG.out.1 hl1
        clear HG HO HAB
        go_wp2
        go_meet
        exact ⟨true, 0, 0, HT.out, .inl ⟨rfl, HN.out⟩⟩
      · by_cases hcn : (n : Int) < (C : Int)
        · have HN : Hid (NoN n F) := noN_many HG.out.1 HG.out.2 (by omega)
          have hl2 : ¬ lv > 1 := hl1
          clear HG HO HAB
          go_wp2
          go_meet
          exact ⟨true, 0, 0, HT.out, .inl ⟨rfl, HN.out⟩⟩
        · have HN : Hid (G1 n F lv (C : Int) P C [] at2 false) := .inr ⟨rfl, ⟨rfl, by omega, HPn.out, ⟨hlv0, by omega⟩, Q, HG.out.1, HG.out.2⟩, Nat.zero_le _, (fun i hi => absurd hi (Nat.not_lt_zero _)), by rw [ha]; simp [textsL], AtF.nil HPn.out⟩
          have hl2 : ¬ lv > 1 := hl1
          have hc2 : ¬ (C : Int) > (n : Int) := hcn
          clear HG HT HAB HPn
          go_wp2
          go_meet
          exact ⟨false, P, C, HO.out, HN.out⟩
  case rest =>
  obtain ⟨bad, P, C, hR3, HG1⟩ := hcut
  have HAT2 : Hid (at2 ≤ n) := hR2.ab.2
  have HR4 := hR3.rs (lv == 1)
  have hsz := hR3.sz
  clear hR2 hR3 HS1 HS2
  obtain ⟨lf, hlf⟩ := hidN (lv == 1)
  rw [hlf.out] at HR4
  have HLF : Hid (lf = (lv == 1)) := hlf.out.symm
  clear hC
  go_upto_block 0 with fail
  simp only [hlf.out]
  clear hlf hsz
  obtain ⟨W4, hW4⟩ := hidN (wc.alloc (.cells #[.bool lf, .slice none 0 0, .slice none 0 0, .slice none 0 0] 27))
  rw [hW4.out] at HR4 ⊢
  have hs4 : w.heap.size + 3 ≤ W4.heap.size := by have := HR4.var.lt; omega
  clear hW4
  go_cut [] (fun wx => ∃ (l : List ByteArray) (at_ : Int) (bad : Bool) (kv : Value), RS w wx b off n cap at_ bad lf kv (.slice none 0 0) (.slice none 0 0) ∧ wx.ownsRow (w.heap.size + 3) 9 1 kv l.length (txc l) ∧ at_ ≤ n ∧ Hid (G1 n F lv cv P C l at_ bad ∧ (bad = false → ¬ (l.length : Int) < cv)))
  case first =>
    go_wp2
    go_loopg [8] (if bad then 0 else cv.toNat + 2) (fun q i wr => ∃ (l : List ByteArray) (at_ : Int) (bad : Bool) (kv : Value), i = .int .i64 l.length ∧ q = (if bad then 0 else cv.toNat + 2 - l.length) ∧ RS w wr b off n cap at_ bad lf kv (.slice none 0 0) (.slice none 0 0) ∧ wr.ownsRow (w.heap.size + 3) 9 1 kv l.length (txc l) ∧ at_ ≤ n ∧ Hid (G1 n F lv cv P C l at_ bad))
    case atStart => exact ⟨[], at2, bad, .slice none 0 0, rfl, (by simp), HR4, World.ownsRow_nil _ _ _ _, HAT2.out, HG1.out⟩
    case round =>
      clear HR4 HG1
      obtain ⟨l, at_, bad, kv, rfl, rfl, hR, hown, hat, HG⟩ := hrel
      by_cases hlt : (l.length : Int) < cv
      case neg =>
        have HO : Hid (∃ (l : List ByteArray) (at_ : Int) (bad : Bool) (kv : Value), RS w wr b off n cap at_ bad lf kv (.slice none 0 0) (.slice none 0 0) ∧ wr.ownsRow (w.heap.size + 3) 9 1 kv l.length (txc l) ∧ at_ ≤ n ∧ Hid (G1 n F lv cv P C l at_ bad ∧ (bad = false → ¬ (l.length : Int) < cv))) := ⟨l, at_, bad, kv, hR, hown, hat, HG.out, fun _ => hlt⟩
        have hlt2 : ¬ (l.length : Int) < cv := hlt
        obtain ⟨x0, x1, x2⟩ := hR.box.cells
        obtain ⟨y0, y1, y2, y3⟩ := hR.var.cells
        clear hR hown HG
        go_wp2
        go_meet
        exact HO.out
      cases bad with
      | true =>
        have HO : Hid (∃ (l : List ByteArray) (at_ : Int) (bad : Bool) (kv : Value), RS w wr b off n cap at_ bad lf kv (.slice none 0 0) (.slice none 0 0) ∧ wr.ownsRow (w.heap.size + 3) 9 1 kv l.length (txc l) ∧ at_ ≤ n ∧ Hid (G1 n F lv cv P C l at_ bad ∧ (bad = false → ¬ (l.length : Int) < cv))) := ⟨l, at_, true, kv, hR, hown, hat, HG.out, fun h => by cases h⟩
        obtain ⟨x0, x1, x2⟩ := hR.box.cells
        obtain ⟨y0, y1, y2, y3⟩ := hR.var.cells
        clear hR hown HG
        go_wp2
        go_meet
        exact HO.out
      | false =>
      obtain ⟨-, HLEN⟩ : True ∧ Hid ((l.length : Int) ≤ 1000000) := ⟨trivial, by
        rcases HG.out with ⟨h, -⟩ | ⟨-, hG, hl, -⟩
        · cases h
        · have := hG.2.1; show _ ≤ _; omega⟩
      have hC := text_stepR hR HV.out (by omega) hat
      obtain ⟨x0, x1, x2⟩ := hR.box.cells
      obtain ⟨y0, y1, y2, y3⟩ := hR.var.cells
      have HLT : Hid ((l.length : Int) < cv) := hlt
      have hwl : IntKind.i64.wrap ((l.length : Int) + 1) = (l.length : Int) + 1 := by have := HLEN.out; rw [IntKind.wrap_i64]; omega
      clear hR
      go_wp2_with fail
      refine hC.mono ?_
      rintro e w5 ⟨s, at', bad', rfl, hR5, ⟨i, u, hw5⟩, hsem, hat'⟩
      have HG5 : Hid (G1 n F lv cv P C (l ++ [s]) at' bad') := HG.out.step HLT.out hsem HF.out
      have hown5 : w5.ownsRow (w.heap.size + 3) 9 1 kv l.length (txc l) := by rw [hw5]; exact own_lo hown (by omega)

      have hRa := hR5.alloc (.cells #[.string s] 9)
      clear hC hown hw5 hsem HG x0 x1 x2 y0 y1 y2 y3 hlt 
      obtain ⟨y0, y1, y2, y3⟩ := hR5.var.cells
      go_wp2_with (at_builtin; go_must (refine wpList_append_own _ rfl (.tmp 56) (.tmp 58) 24 rfl (w.heap.size + 3) 9 i0 (.string ⟨#[]⟩) 1 16 Try.underlying24 hi hz0 hz1 hz2 rfl (by decide) _ _ _ rfl (hown5.alloc _) ⟨w5.heap.size, 0, none⟩ 1 1 [.string s] rfl rfl (cellNew _ _ _) (oneS _) (by unfold maxLen; have := HLEN.out; have := HLT.out; omega) (by have := HLEN.out; omega) (by have := hR5.var.lt; simp; omega) ?_); intro v2 w6 hown6 hgr6 _; obtain ⟨qa, qc, eq6⟩ := own_form hown6; subst eq6; have hR6 := hRa.grown hgr6 (fun k e => (hown5.lt k e).1); obtain ⟨x0, x1, x2, x3⟩ := hR6.var.cells; obtain ⟨z0, z1, z2, z3⟩ := hR6.var.fz; clear y0 y1 y2 y3)

      have hO6 : w6.ownsRow (w.heap.size + 3) 9 1 (.slice qa (l.length + 1) qc) (l ++ [s]).length (txc (l ++ [s])) := by
        rw [List.length_append, txc_app]
        exact hown6
      have hR7 := hR6.setK (.slice qa (l.length + 1) qc)
      have hO7 : (w6.setCell ⟨w.heap.size + 1 + 1, 1, none⟩ (.slice qa (l.length + 1) qc)).ownsRow (w.heap.size + 3) 9 1 (.slice qa (l.length + 1) qc) (l ++ [s]).length (txc (l ++ [s])) := own_lo hO6 (by omega)

      clear hRa hgr6 hown5 hown6 hO6 hR6 hR5 x0 x1 x2 x3 z0 z1 z2 z3 
      go_wp2
      go_roundg (if bad' then 0 else cv.toNat + 2 - (l.length + 1))
      case measure => have := HLT.out; cases bad' <;> simp <;> omega
      case rel => exact ⟨l ++ [s], at', bad', .slice qa (l.length + 1) qc, by simp, by simp, hR7, hO7, hat', HG5.out⟩
  case rest =>
  obtain ⟨l, at_, bad, kv, hR, hown, hat, HG⟩ := hcut
  obtain ⟨a1, c1, rfl, ht1, hh1⟩ := own_txHi rfl hown
  have HG2 : Hid (G2 n F lv cv P C lf l [] at_ bad) := HG.out.1.next HG.out.2 lf
  have HAT : Hid (at_ ≤ n) := hat
  have HK : Hid (TxV wc a1 l.length c1 (lfT l) ∧ HiA (w.heap.size + 3) a1) := ⟨ht1, hh1⟩
  have hs5 : w.heap.size + 3 ≤ wc.heap.size := by have := hR.var.lt; omega
  clear hown hat HG ht1 hh1 HR4 HG1 HAT2 hs4
  obtain ⟨W5, hW5⟩ := hidN wc
  rw [hW5.out] at hR HK hs5 ⊢
  clear hW5
  have HR4 : Hid (RS w W5 b off n cap at_ bad lf (.slice a1 l.length c1) (.slice none 0 0) (.slice none 0 0)) := hR
  clear hR
  go_upto_block 2 with fail
  go_cut [] (fun wx => ∃ (l2 : List ByteArray) (at_ : Int) (bad : Bool) (vv : Value), RS w wx b off n cap at_ bad lf (.slice a1 l.length c1) vv (.slice none 0 0) ∧ wx.ownsRow W5.heap.size 9 1 vv l2.length (txc l2) ∧ at_ ≤ n ∧ Mid (w.heap.size + 3) W5 wx ∧ Hid (G2 n F lv cv P C lf l l2 at_ bad ∧ (bad = false → lf = true → ¬ (l2.length : Int) < cv)))
  case first =>
    go_wp2
    go_loopg [10] (if bad || !lf then 0 else cv.toNat + 2) (fun q i wr => ∃ (l2 : List ByteArray) (at_ : Int) (bad : Bool) (vv : Value), i = .int .i64 l2.length ∧ q = (if bad || !lf then 0 else cv.toNat + 2 - l2.length) ∧ RS w wr b off n cap at_ bad lf (.slice a1 l.length c1) vv (.slice none 0 0) ∧ wr.ownsRow W5.heap.size 9 1 vv l2.length (txc l2) ∧ at_ ≤ n ∧ Mid (w.heap.size + 3) W5 wr ∧ Hid (G2 n F lv cv P C lf l l2 at_ bad))
    case atStart => exact ⟨[], at_, bad, .slice none 0 0, rfl, (by simp), HR4.out, World.ownsRow_nil _ _ _ _, HAT.out, Mid.refl _ _, HG2.out⟩
    case round =>
      clear HR4 HG2 HAT
      obtain ⟨l2, at_, bad, vv, rfl, rfl, hR, hown, hat, hM, HG⟩ := hrel
      by_cases hlt : (l2.length : Int) < cv
      case neg =>
        have HO : Hid (∃ (l2 : List ByteArray) (at_ : Int) (bad : Bool) (vv : Value), RS w wr b off n cap at_ bad lf (.slice a1 l.length c1) vv (.slice none 0 0) ∧ wr.ownsRow W5.heap.size 9 1 vv l2.length (txc l2) ∧ at_ ≤ n ∧ Mid (w.heap.size + 3) W5 wr ∧ Hid (G2 n F lv cv P C lf l l2 at_ bad ∧ (bad = false → lf = true → ¬ (l2.length : Int) < cv))) := ⟨l2, at_, bad, vv, hR, hown, hat, hM, HG.out, fun _ _ => hlt⟩
        have hlt2 : ¬ (l2.length : Int) < cv := hlt
        obtain ⟨x0, x1, x2⟩ := hR.box.cells
        obtain ⟨y0, y1, y2, y3⟩ := hR.var.cells
        clear hR hown HG
        go_wp2
        go_meet
        exact HO.out
      cases bad with
      | true =>
        have HO : Hid (∃ (l2 : List ByteArray) (at_ : Int) (bad : Bool) (vv : Value), RS w wr b off n cap at_ bad lf (.slice a1 l.length c1) vv (.slice none 0 0) ∧ wr.ownsRow W5.heap.size 9 1 vv l2.length (txc l2) ∧ at_ ≤ n ∧ Mid (w.heap.size + 3) W5 wr ∧ Hid (G2 n F lv cv P C lf l l2 at_ bad ∧ (bad = false → lf = true → ¬ (l2.length : Int) < cv))) := ⟨l2, at_, true, vv, hR, hown, hat, hM, HG.out, fun h => by cases h⟩
        obtain ⟨x0, x1, x2⟩ := hR.box.cells
        obtain ⟨y0, y1, y2, y3⟩ := hR.var.cells
        clear hR hown HG
        go_wp2
        go_meet
        exact HO.out
      | false =>
      cases lf with
      | false =>
        have HO : Hid (∃ (l2 : List ByteArray) (at_ : Int) (bad : Bool) (vv : Value), RS w wr b off n cap at_ bad false (.slice a1 l.length c1) vv (.slice none 0 0) ∧ wr.ownsRow W5.heap.size 9 1 vv l2.length (txc l2) ∧ at_ ≤ n ∧ Mid (w.heap.size + 3) W5 wr ∧ Hid (G2 n F lv cv P C false l l2 at_ bad ∧ (bad = false → false = true → ¬ (l2.length : Int) < cv))) := ⟨l2, at_, false, vv, hR, hown, hat, hM, HG.out, fun _ h => by cases h⟩
        obtain ⟨x0, x1, x2⟩ := hR.box.cells
        obtain ⟨y0, y1, y2, y3⟩ := hR.var.cells
        clear hR hown HG
        go_wp2
        go_meet
        exact HO.out
      | true =>
      obtain ⟨-, HLEN⟩ : True ∧ Hid ((l2.length : Int) ≤ 1000000) := ⟨trivial, by
        rcases HG.out with ⟨h, -⟩ | ⟨-, hG, -, ⟨-, hl, -⟩ | ⟨h, -⟩⟩
        · cases h
        · have := hG.2.1; show _ ≤ _; omega
        · cases h⟩
      have HLV : Hid (lv = 1) := by have h := HLF.out.symm; show _ = _; simpa using h
      have hC := text_stepR hR HV.out (by omega) hat
      obtain ⟨x0, x1, x2⟩ := hR.box.cells
      obtain ⟨y0, y1, y2, y3⟩ := hR.var.cells
      have HLT : Hid ((l2.length : Int) < cv) := hlt
      have hwl : IntKind.i64.wrap ((l2.length : Int) + 1) = (l2.length : Int) + 1 := by have := HLEN.out; rw [IntKind.wrap_i64]; omega
      clear hR
      go_wp2_with fail
      refine hC.mono ?_
      rintro e w5 ⟨s, at', bad', rfl, hR5, ⟨i, u, hw5⟩, hsem, hat'⟩
      have HG5 : Hid (G2 n F lv cv P C true l (l2 ++ [s]) at' bad') := HG.out.step HLV.out HLT.out hsem HF.out
      have hown5 : w5.ownsRow W5.heap.size 9 1 vv l2.length (txc l2) := by rw [hw5]; exact own_lo hown (by omega)
      have hM5 : Mid (w.heap.size + 3) W5 w5 := by rw [hw5]; exact (hM.set (by omega) _).drew

      have hRa := hR5.alloc (.cells #[.string s] 9)
      clear hC hown hw5 hsem HG x0 x1 x2 y0 y1 y2 y3 hlt hM
      obtain ⟨y0, y1, y2, y3⟩ := hR5.var.cells
      go_wp2_with (at_builtin; go_must (refine wpList_append_own _ rfl (.tmp 80) (.tmp 82) 24 rfl W5.heap.size 9 i0 (.string ⟨#[]⟩) 1 16 Try.underlying24 hi hz0 hz1 hz2 rfl (by decide) _ _ _ rfl (hown5.alloc _) ⟨w5.heap.size, 0, none⟩ 1 1 [.string s] rfl rfl (cellNew _ _ _) (oneS _) (by unfold maxLen; have := HLEN.out; have := HLT.out; omega) (by have := HLEN.out; omega) (by have := hM5.size; simp; omega) ?_); intro v2 w6 hown6 hgr6 _; obtain ⟨qa, qc, eq6⟩ := own_form hown6; subst eq6; have hR6 := hRa.grown hgr6 (fun k e => by have := (hown5.lt k e).1; omega); obtain ⟨x0, x1, x2, x3⟩ := hR6.var.cells; obtain ⟨z0, z1, z2, z3⟩ := hR6.var.fz; clear y0 y1 y2 y3)
      have hM6 : Mid (w.heap.size + 3) W5 w6 := (hM5.alloc _).grown hgr6 (fun k e => (hown5.lt k e).1)

      have hO6 : w6.ownsRow W5.heap.size 9 1 (.slice qa (l2.length + 1) qc) (l2 ++ [s]).length (txc (l2 ++ [s])) := by
        rw [List.length_append, txc_app]
        exact hown6
      have hR7 := hR6.setV (.slice qa (l2.length + 1) qc)
      have hO7 : (w6.setCell ⟨w.heap.size + 1 + 1, 2, none⟩ (.slice qa (l2.length + 1) qc)).ownsRow W5.heap.size 9 1 (.slice qa (l2.length + 1) qc) (l2 ++ [s]).length (txc (l2 ++ [s])) := own_lo hO6 (by omega)
      have hM7 := hM6.set (k := w.heap.size + 1 + 1) (i := 2) (by omega) (.slice qa (l2.length + 1) qc)

      clear hRa hgr6 hown5 hown6 hO6 hR6 hR5 x0 x1 x2 x3 z0 z1 z2 z3 hM5 hM6
      go_wp2
      go_roundg (if bad' then 0 else cv.toNat + 2 - (l2.length + 1))
      case measure => have := HLT.out; cases bad' <;> simp <;> omega
      case rel => exact ⟨l2 ++ [s], at', bad', .slice qa (l2.length + 1) qc, by simp, by simp, hR7, hO7, hat', hM7, HG5.out⟩
  case rest =>
  obtain ⟨l2, at_, bad, vv, hR, hown, hat, hM, HG⟩ := hcut
  obtain ⟨a2, c2, rfl, ht2, hh2⟩ := own_txHi rfl hown
  have HG2 : Hid (G3 n F lv cv P C lf l l2 [] at_ bad) := HG.out.1.next HG.out.2
  have HAT : Hid (at_ ≤ n) := hat
  have HK2 : Hid ((TxV wc a1 l.length c1 (lfT l) ∧ HiA (w.heap.size + 3) a1) ∧ (TxV wc a2 l2.length c2 (lfT l2) ∧ HiA (w.heap.size + 3) a2)) := ⟨⟨HK.out.1.mid HK.out.2 hM, HK.out.2⟩, ht2, fun p e => Nat.le_trans hs5 (hh2 p e)⟩
  have hs6 : w.heap.size + 3 ≤ wc.heap.size := by have := hM.size; omega
  clear hown hat HG ht2 hh2 HR4 HK hM hs5
  obtain ⟨W6, hW6⟩ := hidN wc
  rw [hW6.out] at hR HK2 hs6 ⊢
  clear hW6
  have HR4 : Hid (RS w W6 b off n cap at_ bad lf (.slice a1 l.length c1) (.slice a2 l2.length c2) (.slice none 0 0)) := hR
  clear hR
  go_upto_block 4 with fail
  go_cut [] (fun wx => ∃ (l3 : List Int) (at_ : Int) (bad : Bool) (dv : Value), RS w wx b off n cap at_ bad lf (.slice a1 l.length c1) (.slice a2 l2.length c2) dv ∧ wx.ownsRow W6.heap.size 3 1 dv l3.length (nuc l3) ∧ at_ ≤ n ∧ Mid (w.heap.size + 3) W6 wx ∧ Hid (G3 n F lv cv P C lf l l2 l3 at_ bad ∧ (bad = false → lf = false → ¬ (l3.length : Int) ≤ cv)))
  case first =>
    go_wp2
    go_loopg [12] (if bad || lf then 0 else cv.toNat + 2) (fun q i wr => ∃ (l3 : List Int) (at_ : Int) (bad : Bool) (dv : Value), i = .int .i64 l3.length ∧ q = (if bad || lf then 0 else cv.toNat + 2 - l3.length) ∧ RS w wr b off n cap at_ bad lf (.slice a1 l.length c1) (.slice a2 l2.length c2) dv ∧ wr.ownsRow W6.heap.size 3 1 dv l3.length (nuc l3) ∧ at_ ≤ n ∧ Mid (w.heap.size + 3) W6 wr ∧ Hid (G3 n F lv cv P C lf l l2 l3 at_ bad))
    case atStart => exact ⟨[], at_, bad, .slice none 0 0, rfl, (by simp), HR4.out, World.ownsRow_nil _ _ _ _, HAT.out, Mid.refl _ _, HG2.out⟩
    case round =>
      clear HR4 HG2 HAT
      obtain ⟨l3, at_, bad, dv, rfl, rfl, hR, hown, hat, hM, HG⟩ := hrel
      by_cases hlt : (l3.length : Int) ≤ cv
      case neg =>
        have HO : Hid (∃ (l3 : List Int) (at_ : Int) (bad : Bool) (dv : Value), RS w wr b off n cap at_ bad lf (.slice a1 l.length c1) (.slice a2 l2.length c2) dv ∧ wr.ownsRow W6.heap.size 3 1 dv l3.length (nuc l3) ∧ at_ ≤ n ∧ Mid (w.heap.size + 3) W6 wr ∧ Hid (G3 n F lv cv P C lf l l2 l3 at_ bad ∧ (bad = false → lf = false → ¬ (l3.length : Int) ≤ cv))) := ⟨l3, at_, bad, dv, hR, hown, hat, hM, HG.out, fun _ _ => hlt⟩
        have hlt2 : ¬ (l3.length : Int) ≤ cv := hlt
        obtain ⟨x0, x1, x2⟩ := hR.box.cells
        obtain ⟨y0, y1, y2, y3⟩ := hR.var.cells
        clear hR hown HG
        go_wp2
        go_meet
        exact HO.out
      cases bad with
      | true =>
        have HO : Hid (∃ (l3 : List Int) (at_ : Int) (bad : Bool) (dv : Value), RS w wr b off n cap at_ bad lf (.slice a1 l.length c1) (.slice a2 l2.length c2) dv ∧ wr.ownsRow W6.heap.size 3 1 dv l3.length (nuc l3) ∧ at_ ≤ n ∧ Mid (w.heap.size + 3) W6 wr ∧ Hid (G3 n F lv cv P C lf l l2 l3 at_ bad ∧ (bad = false → lf = false → ¬ (l3.length : Int) ≤ cv))) := ⟨l3, at_, true, dv, hR, hown, hat, hM, HG.out, fun h => by cases h⟩
        obtain ⟨x0, x1, x2⟩ := hR.box.cells
        obtain ⟨y0, y1, y2, y3⟩ := hR.var.cells
        clear hR hown HG
        go_wp2
        go_meet
        exact HO.out
      | false =>
      cases lf with
      | true =>
        have HO : Hid (∃ (l3 : List Int) (at_ : Int) (bad : Bool) (dv : Value), RS w wr b off n cap at_ bad true (.slice a1 l.length c1) (.slice a2 l2.length c2) dv ∧ wr.ownsRow W6.heap.size 3 1 dv l3.length (nuc l3) ∧ at_ ≤ n ∧ Mid (w.heap.size + 3) W6 wr ∧ Hid (G3 n F lv cv P C true l l2 l3 at_ bad ∧ (bad = false → true = false → ¬ (l3.length : Int) ≤ cv))) := ⟨l3, at_, false, dv, hR, hown, hat, hM, HG.out, fun _ h => by cases h⟩
        obtain ⟨x0, x1, x2⟩ := hR.box.cells
        obtain ⟨y0, y1, y2, y3⟩ := hR.var.cells
        clear hR hown HG
        go_wp2
        go_meet
        exact HO.out
      | false =>
      obtain ⟨-, HLEN⟩ : True ∧ Hid ((l3.length : Int) ≤ 1000001) := ⟨trivial, by
        rcases HG.out with ⟨h, -⟩ | ⟨-, hG, -, ⟨h, -⟩ | ⟨-, -, hl, -⟩⟩
        · cases h
        · cases h
        · have := hG.2.1; show _ ≤ _; omega⟩
      have HLV : Hid (lv ≠ 1) := by have h := HLF.out.symm; show _ ≠ _; simpa using h
      have hC := num_stepR hR HV.out (by omega) hat
      obtain ⟨x0, x1, x2⟩ := hR.box.cells
      obtain ⟨y0, y1, y2, y3⟩ := hR.var.cells
      have HLT : Hid ((l3.length : Int) ≤ cv) := hlt
      have hwl : IntKind.i64.wrap ((l3.length : Int) + 1) = (l3.length : Int) + 1 := by have := HLEN.out; rw [IntKind.wrap_i64]; omega
      clear hR
      go_wp2_with fail
      refine hC.mono ?_
      rintro e w5 ⟨s, at', bad', rfl, hR5, ⟨i, u, hw5⟩, hsem, hat'⟩
      have HG5 : Hid (G3 n F lv cv P C false l l2 (l3 ++ [s]) at' bad') := HG.out.step HLV.out HLT.out hsem HF.out
      have hown5 : w5.ownsRow W6.heap.size 3 1 dv l3.length (nuc l3) := by rw [hw5]; exact own_lo hown (by omega)
      have hM5 : Mid (w.heap.size + 3) W6 w5 := by rw [hw5]; exact (hM.set (by omega) _).drew

      have hRa := hR5.alloc (.cells #[.int .i64 s] 3)
      clear hC hown hw5 hsem HG x0 x1 x2 y0 y1 y2 y3 hlt hM
      obtain ⟨y0, y1, y2, y3⟩ := hR5.var.cells
      go_wp2_with (at_builtin; go_must (refine wpList_append_own _ rfl (.tmp 105) (.tmp 107) 25 rfl W6.heap.size 3 j0 (.int .i64 0) 1 8 Try.underlying25 hj hy0 hy1 hy2 rfl (by decide) _ _ _ rfl (hown5.alloc _) ⟨w5.heap.size, 0, none⟩ 1 1 [.int .i64 s] rfl rfl (cellNew _ _ _) (oneI _) (by unfold maxLen; have := HLEN.out; have := HLT.out; omega) (by have := HLEN.out; omega) (by have := hM5.size; simp; omega) ?_); intro v2 w6 hown6 hgr6 _; obtain ⟨qa, qc, eq6⟩ := own_form hown6; subst eq6; have hR6 := hRa.grown hgr6 (fun k e => by have := (hown5.lt k e).1; omega); obtain ⟨x0, x1, x2, x3⟩ := hR6.var.cells; obtain ⟨z0, z1, z2, z3⟩ := hR6.var.fz; clear y0 y1 y2 y3)
      have hM6 : Mid (w.heap.size + 3) W6 w6 := (hM5.alloc _).grown hgr6 (fun k e => (hown5.lt k e).1)

      have hO6 : w6.ownsRow W6.heap.size 3 1 (.slice qa (l3.length + 1) qc) (l3 ++ [s]).length (nuc (l3 ++ [s])) := by
        rw [List.length_append, nuc_app]
        exact hown6
      have hR7 := hR6.setD (.slice qa (l3.length + 1) qc)
      have hO7 : (w6.setCell ⟨w.heap.size + 1 + 1, 3, none⟩ (.slice qa (l3.length + 1) qc)).ownsRow W6.heap.size 3 1 (.slice qa (l3.length + 1) qc) (l3 ++ [s]).length (nuc (l3 ++ [s])) := own_lo hO6 (by omega)
      have hM7 := hM6.set (k := w.heap.size + 1 + 1) (i := 3) (by omega) (.slice qa (l3.length + 1) qc)

      clear hRa hgr6 hown5 hown6 hO6 hR6 hR5 x0 x1 x2 x3 z0 z1 z2 z3 hM5 hM6
      go_wp2
      go_roundg (if bad' then 0 else cv.toNat + 2 - (l3.length + 1))
      case measure => have := HLT.out; cases bad' <;> simp <;> omega
      case rel => exact ⟨l3 ++ [s], at', bad', .slice qa (l3.length + 1) qc, by simp, by simp, hR7, hO7, hat', hM7, HG5.out⟩
  case rest =>
  obtain ⟨l3, at_, bad, dv, hR, hown, hat, hM, HG⟩ := hcut
  obtain ⟨a3, c3, rfl, ht3, hh3⟩ := own_nuHi rfl hown
  have HNV : Hid (NdView wc (.agg #[.bool lf, .slice a1 l.length c1, .slice a2 l2.length c2, .slice a3 l3.length c3]) (nodeE lf l l2 l3)) := ⟨a1, c1, a2, c2, a3, c3, rfl, HK2.out.1.1.mid HK2.out.1.2 hM, HK2.out.2.1.mid HK2.out.2.2 hM, ht3⟩
  clear hown hat ht3 hh3 HR4 HK2 hM hs6 HAT HG2
  obtain ⟨x0, x1, x2⟩ := hR.box.cells
  obtain ⟨y0, y1, y2, y3⟩ := hR.var.cells
  obtain ⟨r0, r1, r2, r3⟩ := hR.res.cells
  obtain ⟨z0, z1, z2, z3⟩ := hR.res.fz
  have HSZ : Hid (V4 ((((wc.setCell ⟨w.heap.size, 0, none⟩ (.bool false)).setCell ⟨w.heap.size, 1, none⟩ (.slice none 0 0)).setCell ⟨w.heap.size, 2, none⟩ (.slice none 0 0)).setCell ⟨w.heap.size, 3, none⟩ (.slice none 0 0)) w.heap.size 27 (.bool false) (.slice none 0 0) (.slice none 0 0) (.slice none 0 0) ∧ Below w.heap.size w ((((wc.setCell ⟨w.heap.size, 0, none⟩ (.bool false)).setCell ⟨w.heap.size, 1, none⟩ (.slice none 0 0)).setCell ⟨w.heap.size, 2, none⟩ (.slice none 0 0)).setCell ⟨w.heap.size, 3, none⟩ (.slice none 0 0))) := ⟨(((hR.res.set0 _).set1 _).set2 _).set3 _, (((hR.below.setCell (Nat.le_refl _) _).setCell (Nat.le_refl _) _).setCell (Nat.le_refl _) _).setCell (Nat.le_refl _) _⟩
  cases bad with
  | true =>
    have HN : Hid (NoN n F) := by
      rcases HG.out.1 with ⟨-, h⟩ | ⟨h, -⟩
      · exact h
      · cases h
    clear HG HNV hR HLF HV
    go_wp2
    obtain ⟨m0, m1, m2, m3⟩ := HSZ.out.1.cells
    exact bodyPost_ret (v := .tuple #[.agg #[.bool false, .slice none 0 0, .slice none 0 0, .slice none 0 0], .bool false]) (by simp [results, Try.results13, go_sem, m0, m1, m2, m3]) rfl ⟨HSZ.out.2, false, _, rfl, ⟨_, _, _, _, _, _, _, _, _, _, rfl⟩, (fun h => by cases h), fun _ => HN.out⟩
  | false =>
  have HFIN : Hid (Shape (nodeE lf l l2 l3) ∧ AtF n F 0 (bytesN (nodeE lf l l2 l3)) ∧ at_ = (bytesN (nodeE lf l l2 l3)).length) := HG.out.1.fin hn HLF.out (fun h => HG.out.2 rfl h) HF.out
  clear HG
  by_cases hend : at_ = (n : Int)
  case neg =>
    have HN : Hid (NoN n F) := noN_len HFIN.out.1 HFIN.out.2.1 (fun h => hend (by rw [HFIN.out.2.2, h]))
    have hq1 : (at_ == (n : Int)) = false := by simpa using hend
    have hq2 : (at_ != (n : Int)) = true := by simpa using hend
    clear HFIN HNV hR HLF HV
    go_wp2
    obtain ⟨m0, m1, m2, m3⟩ := HSZ.out.1.cells
    exact bodyPost_ret (v := .tuple #[.agg #[.bool false, .slice none 0 0, .slice none 0 0, .slice none 0 0], .bool false]) (by simp [results, Try.results13, go_sem, m0, m1, m2, m3]) rfl ⟨HSZ.out.2, false, _, rfl, ⟨_, _, _, _, _, _, _, _, _, _, rfl⟩, (fun h => by cases h), fun _ => HN.out⟩
  have HLEN : Hid ((bytesN (nodeE lf l l2 l3)).length = n) := by have := HFIN.out.2.2; show _ = _; omega
  have hq1 : (at_ == (n : Int)) = true := by simpa using hend
  have hq2 : (at_ != (n : Int)) = false := by simpa using hend
  have hOK := specNodeOk_any _ _ wc HNV.out HFIN.out.1.fine
  obtain ⟨Q, hQ⟩ : ∃ Q : Prop, Hid (OkS (nodeE lf l l2 l3) = Q) := ⟨_, rfl⟩
  rw [hQ.out] at hOK
  clear hend r0 r1 r2 r3 z0 z1 z2 z3 HSZ
  go_wp2_with fail
  refine hOK.mono ?_
  rintro e w7 ⟨r, rfl, hr, hb7⟩
  have hR7 : RS w w7 b off n cap at_ false lf (.slice a1 l.length c1) (.slice a2 l2.length c2) (.slice a3 l3.length c3) := ⟨hR.box.below hb7, hR.var.below hb7, hR.res.below hb7, hR.below.trans (hb7.mono hR.below.size)⟩
  have HR7 : Hid (r = true ↔ OkS (nodeE lf l l2 l3)) := by rw [hQ.out]; exact hr
  clear hOK hQ hr hb7 hR x0 x1 x2 y0 y1 y2 y3
  obtain ⟨y0, y1, y2, y3⟩ := hR7.var.cells
  obtain ⟨r0, r1, r2, r3⟩ := hR7.res.cells
  obtain ⟨z0, z1, z2, z3⟩ := hR7.res.fz
  have HSZ : Hid (V4 ((((w7.setCell ⟨w.heap.size, 0, none⟩ (.bool false)).setCell ⟨w.heap.size, 1, none⟩ (.slice none 0 0)).setCell ⟨w.heap.size, 2, none⟩ (.slice none 0 0)).setCell ⟨w.heap.size, 3, none⟩ (.slice none 0 0)) w.heap.size 27 (.bool false) (.slice none 0 0) (.slice none 0 0) (.slice none 0 0) ∧ Below w.heap.size w ((((w7.setCell ⟨w.heap.size, 0, none⟩ (.bool false)).setCell ⟨w.heap.size, 1, none⟩ (.slice none 0 0)).setCell ⟨w.heap.size, 2, none⟩ (.slice none 0 0)).setCell ⟨w.heap.size, 3, none⟩ (.slice none 0 0))) := ⟨(((hR7.res.set0 _).set1 _).set2 _).set3 _, (((hR7.below.setCell (Nat.le_refl _) _).setCell (Nat.le_refl _) _).setCell (Nat.le_refl _) _).setCell (Nat.le_refl _) _⟩
  have HSX : Hid (V4 ((((w7.setCell ⟨w.heap.size, 0, none⟩ (.bool lf)).setCell ⟨w.heap.size, 1, none⟩ (.slice a1 l.length c1)).setCell ⟨w.heap.size, 2, none⟩ (.slice a2 l2.length c2)).setCell ⟨w.heap.size, 3, none⟩ (.slice a3 l3.length c3)) w.heap.size 27 (.bool lf) (.slice a1 l.length c1) (.slice a2 l2.length c2) (.slice a3 l3.length c3) ∧ Below w.heap.size w ((((w7.setCell ⟨w.heap.size, 0, none⟩ (.bool lf)).setCell ⟨w.heap.size, 1, none⟩ (.slice a1 l.length c1)).setCell ⟨w.heap.size, 2, none⟩ (.slice a2 l2.length c2)).setCell ⟨w.heap.size, 3, none⟩ (.slice a3 l3.length c3))) := ⟨(((hR7.res.set0 _).set1 _).set2 _).set3 _, (((hR7.below.setCell (Nat.le_refl _) _).setCell (Nat.le_refl _) _).setCell (Nat.le_refl _) _).setCell (Nat.le_refl _) _⟩
  clear hR7
  cases r with
  | false =>
    have HN : Hid (NoN n F) := noN_ok HFIN.out.1 HFIN.out.2.1 (fun h => by have := HR7.out.2 h; cases this)
    clear HFIN HNV HR7 HLF HV HSX HLEN
    go_wp2
    obtain ⟨m0, m1, m2, m3⟩ := HSZ.out.1.cells
    exact bodyPost_ret (v := .tuple #[.agg #[.bool false, .slice none 0 0, .slice none 0 0, .slice none 0 0], .bool false]) (by simp [results, Try.results13, go_sem, m0, m1, m2, m3]) rfl ⟨HSZ.out.2, false, _, rfl, ⟨_, _, _, _, _, _, _, _, _, _, rfl⟩, (fun h => by cases h), fun _ => HN.out⟩
  | true =>
    have HN : Hid (OkS (nodeE lf l l2 l3) ∧ bytesN (nodeE lf l l2 l3) = lof n F) := ⟨HR7.out.1 rfl, at_all HFIN.out.2.1 HLEN.out⟩
    clear HFIN HNV HR7 HLF HV HSZ HLEN
    go_wp2
    obtain ⟨m0, m1, m2, m3⟩ := HSX.out.1.cells
    exact bodyPost_ret (v := .tuple #[.agg #[.bool lf, .slice a1 l.length c1, .slice a2 l2.length c2, .slice a3 l3.length c3], .bool true]) (by simp [results, Try.results13, go_sem, m0, m1, m2, m3]) rfl ⟨HSX.out.2, true, _, rfl, ⟨_, _, _, _, _, _, _, _, _, _, rfl⟩, (fun _ => ⟨_, HN.out.1, HN.out.2⟩), (fun h => by cases h)⟩
end Go.Proofs.Ytaiinlcdfeboiaa

