/-
  Together: DrawAnyK, DrawAnyP
-/
import Derived.Test.YtdhfbblameiloaaND20
import Derived.Test.YtdhfbblameiloaaND2
import Derived.Deep.RegionHeld3
import Derived.Deep.LoopGhost
/-
  A drawn disk that is bent: what each way of bending comes to.
-/
namespace Go.Proofs.Ytdhfbblameiloaa
open Go.RowKit
set_option maxRecDepth 4000

/-- A row of numbers that was laid anew. -/
def IL (W : World) (b : Nat) (l : List Int) : Prop := W.rowIs b 3 l.length (fun i => .int .i64 (l.getD i 0))
theorem IL.new (w : World) (l : List Int) (xs : Array Value) (hx : xs = (l.map (Value.int .i64)).toArray) : IL (w.alloc (.cells xs 3)) w.heap.size l := by
  subst hx
  have := World.rowIs_alloc w (l.map (Value.int .i64)).toArray 3 (fun i => .int .i64 (l.getD i 0)) (fun j hj => by
    have h1 : j < l.length := by simpa using hj
    simp [h1])
  simpa [IL] using this
theorem IL.lt {W : World} {b : Nat} {l : List Int} (h : IL W b l) : b < W.heap.size := World.rowIs.lt h
theorem IL.below {W W' : World} {b : Nat} {l : List Int} (h : IL W b l) (hb : Below W.heap.size W W') : IL W' b l := h.of_block (hb.block b h.lt)
theorem IL.but {W W' : World} {g b : Nat} {l : List Int} (h : IL W b l) (hb : But g W W') (hne : b ≠ g) : IL W' b l := h.of_block (hb.block b h.lt hne)
theorem l1Int_il (g : Nat) (ao : Option Addr) (n cap : Nat) (f : Nat → Int) (l : List Int) (A : Nat) (w : World) (hn : n ≤ 1048576) (h0 : 0 < l.length) (h1 : l.length ≤ 1000) (hA : IL w A l) (hne : A ≠ g) (hC : Cur w g ao n cap f) :
    Calls Try.prog 93 #[.pointer (some ⟨g, 0, none⟩), .slice (some ⟨A, 0, none⟩) l.length l.length] w fun e w' => ∃ z : Int, e = .returned (.int .i64 z) ∧ z ∈ l ∧ Cur w' g ao n cap f ∧ But g w w' := by
  refine (l1Int_any g ao n cap f A l.length (fun i => l.getD i 0) w hn h0 (by omega) (fun i hi => hA.cell hi) hne hC).mono ?_
  rintro e w' ⟨j, hj, rfl, hC2, hO2⟩
  exact ⟨_, rfl, getD_mem hj, hC2, But.ofOnly hO2⟩

theorem ob_drawn {w : World} {B b c : Nat} {l : List Int} (hc : l.length ≤ c) (hy : ∀ y ∈ l, 0 ≤ y ∧ y ≤ 255) (hr : Row 5 w b l.length (fun i => l.getD i 0)) (hB : B ≤ b) : OB w B (.slice (some ⟨b, 0, none⟩) l.length c) l :=
  ⟨_, _, rfl, hc, (fun e => by cases e), hy, .inr ⟨b, rfl, hB, hr⟩⟩
theorem ob_zeros (w : World) {B : Nat} (N : Nat) (hB : B ≤ w.heap.size) : OB (w.alloc (.cells (madeCells #[.int .u8 0] N) 5)) B (.slice (some ⟨w.heap.size, 0, none⟩) N N) (List.replicate N 0) := by
  have hr : Row 5 (w.alloc (.cells (madeCells #[.int .u8 0] N) 5)) w.heap.size N (fun _ => 0) := Row.ofIs (World.rowIs_made w _ _ _)
  have hl : (List.replicate N (0 : Int)).length = N := by simp
  refine ⟨some ⟨w.heap.size, 0, none⟩, N, by rw [hl], by rw [hl]; exact Nat.le_refl _, (fun e => by cases e), fun x hx => by simp at hx; omega, .inr ⟨_, rfl, hB, ?_⟩⟩
  rw [hl]
  refine hr.congr (fun i hi => ?_)
  simp [bf, hi]
theorem ob_one (w : World) {B : Nat} (hB : B ≤ w.heap.size) : OB (w.alloc (.cells #[.int .u8 1] 5)) B (.slice (some ⟨w.heap.size, 0, none⟩) 1 1) [1] := by
  have hr : Row 5 (w.alloc (.cells #[.int .u8 1] 5)) w.heap.size 1 (fun _ => 1) := Row.ofIs (World.rowIs_alloc w #[.int .u8 1] 5 (fun _ => .int .u8 1) (fun j hj => by
    have : j = 0 := by simp at hj; omega
    subst this; rfl))
  refine ⟨some ⟨w.heap.size, 0, none⟩, 1, rfl, Nat.le_refl _, (fun e => by cases e), fun x hx => by simp at hx; omega, .inr ⟨_, rfl, hB, hr.congr (fun i hi => ?_)⟩⟩
  have hi' : i < 1 := hi
  have : i = 0 := by omega
  subst this; rfl
/-- The cells of a row of one element. -/
theorem cells2New (W : World) (a b : Value) (T : TypeId) : ∀ j u, [a, b][j]? = some u → (W.alloc (.cells #[a, b] T)).cell? ((⟨W.heap.size, 0, none⟩ : Addr).add j) = some u := by
  intro j u h
  have hv := VN.new W T [a, b]
  have ea : ∀ j, (⟨W.heap.size, 0, none⟩ : Addr).add j = ⟨W.heap.size, j, none⟩ := fun j => by unfold Addr.add; split <;> simp_all
  rw [ea]
  have := hv.cell j
  rw [← h]
  exact this
/-- A fault more, in the variable too. -/
theorem MS.moreF {w wa : World} {B X gs sc : Nat} {ca : Option Addr} {cc : Nat} {fa : Option Addr} {fc : Nat} {ss cs : List Value} {D : PDisk} {S : List (List Int)} (h : MS w B X gs sc ca cc fa fc ss cs D S) (hk : KeepT (fun t => t = 79) w wa) (f : PFault) {fb : Option Addr} {fd : Nat} (hO : wa.ownsRow B 79 3 (.slice fb (D.faults.length + 1) fd) (D.faults.length + 1) (fcells D.faults ++ [.int .i64 f.pos, .int .i64 f.keep, .int .i64 f.cut])) :
    MS (wa.setCell ⟨X, 3, none⟩ (.slice fb (D.faults.length + 1) fd)) B X gs sc ca cc fb fd ss cs { D with faults := D.faults ++ [f] } S := by
  have hXa := h.x.block (hk _ _ _ _ h.x (by decide))
  have hk2 := keep_vn (P := fun t => t = 32) (i := 3) (u := .slice fb (D.faults.length + 1) fd) hXa rfl
  have hX2 := hXa.set 3 (.slice fb (D.faults.length + 1) fd)
  simp only [List.set] at hX2
  have hO2 := own_keepT hO hk2 (by decide)
  refine ⟨?_, (h.secs.keepT hk (by decide)).keepT hk2 (by decide), h.ns, h.len, fun i v x h1 h2 => ((h.ob i v x h1 h2).keepT hk (by decide)).keepT hk2 (by decide), own_keepT (own_keepT h.own hk (by decide)) hk2 (by decide), h.nc, fun i v x h1 h2 => ((h.cb i v x h1 h2).keepT hk (by decide)).keepT hk2 (by decide), ?_⟩
  · show VN _ X _ [.slice (some ⟨gs, 0, none⟩) D.secs.length sc, .slice ca D.cache.length cc, .int .i64 D.ops, .slice fb (D.faults ++ [f]).length fd, .bool D.down]
    rw [List.length_append]
    exact hX2
  · show World.ownsRow _ B _ 3 (.slice fb (D.faults ++ [f]).length fd) (D.faults ++ [f]).length (fcells (D.faults ++ [f]))
    rw [fcells_push, List.length_append]
    exact hO2
/-- The sectors are cut to three. -/
theorem MS.cut3 {w : World} {B X gs sc : Nat} {ca : Option Addr} {cc : Nat} {fa : Option Addr} {fc : Nat} {ss cs : List Value} {D : PDisk} (h : MS w B X gs sc ca cc fa fc ss cs D D.secs) (h4 : 3 ≤ D.secs.length) :
    MS (w.setCell ⟨X, 0, none⟩ (.slice (some ⟨gs, 0, none⟩) 3 sc)) B X gs sc ca cc fa fc (ss.take 3) cs { D with secs := D.secs.take 3 } (D.secs.take 3) := by
  have hk2 := keep_vn (P := fun t => t = 32) (i := 0) (u := .slice (some ⟨gs, 0, none⟩) 3 sc) h.x rfl
  have hX2 := h.x.set 0 (.slice (some ⟨gs, 0, none⟩) 3 sc)
  simp only [List.set] at hX2
  have hl : (D.secs.take 3).length = 3 := by simp; omega
  refine ⟨?_, ?_, by have := h.ns; simp [this], rfl, fun i v x h1 h2 => ?_, own_keepT h.own hk2 (by decide), h.nc, fun i v x h1 h2 => (h.cb i v x h1 h2).keepT hk2 (by decide), own_keepT h.fown hk2 (by decide)⟩
  · show VN _ X _ [.slice (some ⟨gs, 0, none⟩) (D.secs.take 3).length sc, .slice ca D.cache.length cc, .int .i64 D.ops, .slice fa D.faults.length fc, .bool D.down]
    rw [hl]
    exact hX2
  · have hr := h.secs.keepT hk2 (by decide)
    rcases hr with hr | ⟨g, cur, e, hB, hc, hp⟩
    · exact .inl (by rw [hr]; rfl)
    · refine .inr ⟨g, cur, e, hB, hc, fun i u hu => hp i u ?_⟩
      rw [List.getElem?_take] at hu
      split at hu
      · exact hu
      · cases hu
  · rw [List.getElem?_take] at h1 h2
    split at h1
    · rename_i hi
      rw [if_pos hi] at h2
      exact (h.ob i v x h1 h2).keepT hk2 (by decide)
    · cases h1

/-- A disk that is drawn and bent, in a variable, beside the cursor and the result's variable. -/
structure AL (w : World) (g : Nat) (ao : Option Addr) (n cap : Nat) (f : Nat → Int) (B X gs sc : Nat) (fa : Option Addr) (fc : Nat) (D : PDisk) (ca : Option Addr) (cc : Nat) (ss cs : List Value) (W : World) : Prop where
  ms : MS W B X gs sc ca cc fa fc ss cs D D.secs
  ml : ML D sc ca cc fa fc
  ok : KFine D
  few : 3 ≤ D.secs.length ∧ D.secs.length ≤ 48
  r : VN W w.heap.size 32 [.slice none 0 0, .slice none 0 0, .int .i64 0, .slice none 0 0, .bool false]
  cn : CN w g ao n cap f W
  lo : w.heap.size < B
  b : B ≤ W.heap.size
  x : B ≤ X
section
variable {w : World} {g : Nat} {ao : Option Addr} {n cap : Nat} {f : Nat → Int} {B X gs sc : Nat} {fa : Option Addr} {fc : Nat} {D : PDisk} {ca : Option Addr} {cc : Nat} {ss cs : List Value} {W W' : World}
theorem AL.but (h : AL w g ao n cap f B X gs sc fa fc D ca cc ss cs W) (hC : Cur W' g ao n cap f) (hb : But g W W') : AL w g ao n cap f B X gs sc fa fc D ca cc ss cs W' :=
  have h1 := h.cn.lt
  have h2 := h.lo
  ⟨h.ms.up (Up.ofBut hb (by omega)) h.x, h.ml, h.ok, h.few, h.r.block (hb.block _ h.r.lt (by omega)), h.cn.next hC hb, h.lo, Nat.le_trans h.b hb.size, h.x⟩
theorem AL.on (h : AL w g ao n cap f B X gs sc fa fc D ca cc ss cs W) (hb : Below W.heap.size W W') : AL w g ao n cap f B X gs sc fa fc D ca cc ss cs W' :=
  ⟨h.ms.on hb, h.ml, h.ok, h.few, h.r.below hb, h.cn.below hb, h.lo, Nat.le_trans h.b hb.size, h.x⟩
theorem AL.op {D' : PDisk} {ca' fa' : Option Addr} {cc' fc' : Nat} {ss' cs' : List Value} (h : AL w g ao n cap f B X gs sc fa fc D ca cc ss cs W) (hm : MS W' B X gs sc ca' cc' fa' fc' ss' cs' D' D'.secs) (hl : ML D' sc ca' cc' fa' fc') (hok : KFine D') (hf : 3 ≤ D'.secs.length ∧ D'.secs.length ≤ 48) (hb : Below B W W') : AL w g ao n cap f B X gs sc fa' fc' D' ca' cc' ss' cs' W' :=
  have h2 := h.lo
  ⟨hm, hl, hok, hf, h.r.block (hb.block _ h2), h.cn.belowB hb (by omega), h.lo, Nat.le_trans h.b hb.size, h.x⟩
theorem AL.setX (h : AL w g ao n cap f B X gs sc fa fc D ca cc ss cs W) (i : Nat) (u : Value) : Below B W (W.setCell ⟨X, i, none⟩ u) := (Below.refl _ _).setCell (p := ⟨X, i, none⟩) h.x _
theorem AL.ops (h : AL w g ao n cap f B X gs sc fa fc D ca cc ss cs W) (z : Int) : AL w g ao n cap f B X gs sc fa fc { D with ops := z } ca cc ss cs (W.setCell ⟨X, 2, none⟩ (.int .i64 z)) :=
  h.op (h.ms.ops z) ⟨h.ml.s, h.ml.c, h.ml.cn, h.ml.f, h.ml.fn⟩ ⟨h.ok.ns, h.ok.sec, h.ok.nc, h.ok.cache, h.ok.nf⟩ h.few (h.setX 2 _)
theorem AL.cut (h : AL w g ao n cap f B X gs sc fa fc D ca cc ss cs W) : AL w g ao n cap f B X gs sc fa fc { D with secs := D.secs.take 3 } ca cc (ss.take 3) cs (W.setCell ⟨X, 0, none⟩ (.slice (some ⟨gs, 0, none⟩) 3 sc)) := by
  have h3 := h.few.1
  have hl : (D.secs.take 3).length = 3 := by simp; omega
  have hs := h.ml.s
  exact h.op (h.ms.cut3 h3) ⟨by show (D.secs.take 3).length ≤ _; omega, h.ml.c, h.ml.cn, h.ml.f, h.ml.fn⟩ ⟨by show (D.secs.take 3).length ≤ _; omega, fun x hx => h.ok.sec x (List.mem_of_mem_take hx), h.ok.nc, h.ok.cache, h.ok.nf⟩ (by show 3 ≤ (D.secs.take 3).length ∧ (D.secs.take 3).length ≤ 48; omega) (h.setX 0 _)
theorem AL.sec (h : AL w g ao n cap f B X gs sc fa fc D ca cc ss cs W) {m : Nat} (hm : m < D.secs.length) {v : Value} {l : List Int} (hv : OB W B v l) (hl : l.length ≤ 1048576) : AL w g ao n cap f B X gs sc fa fc { D with secs := D.secs.set m l } ca cc (ss.set m v) cs (W.setCell ⟨gs, m, none⟩ v) := by
  have hlen : (D.secs.set m l).length = D.secs.length := by simp
  obtain ⟨gs', e, hgB, -, -⟩ := h.ms.secs.cell (by rw [h.ms.ns]; omega)
  cases e
  have h4 := h.few
  have h5 := h.ml.s
  have h6 := h.ok.ns
  refine h.op (h.ms.put hm hv).asSecs ⟨by show (D.secs.set m l).length ≤ _; omega, h.ml.c, h.ml.cn, h.ml.f, h.ml.fn⟩ ⟨by show (D.secs.set m l).length ≤ _; omega, fun x hx => ?_, h.ok.nc, h.ok.cache, h.ok.nf⟩ (by show 3 ≤ (D.secs.set m l).length ∧ (D.secs.set m l).length ≤ 48; omega) ((Below.refl _ _).setCell (p := ⟨gs, m, none⟩) hgB _)
  rcases List.mem_or_eq_of_mem_set hx with hx | hx
  · exact h.ok.sec x hx
  · rw [hx]; exact hl
/-- Behind the append to the cache, and the store. -/
theorem AL.push {wa : World} {row : Option Nat} (h : AL w g ao n cap f B X gs sc fa fc D ca cc ss cs W) (hg : W.grownBy wa row) (hr : ∀ k, row = some k → B ≤ k) (hk : KeepT (fun t => t = 51) W wa) {z : Int} {l : List Int} {u : Value} (hu : OB W B u l) (hl : l.length ≤ 1048576) (hc : D.cache.length ≤ 1000) {cb : Option Addr} {cd : Nat} (hcd : D.cache.length + 1 ≤ cd) (hcb : cb = none → cd = 0) (hO : wa.ownsRow B 51 2 (.slice cb (D.cache.length + 1) cd) (D.cache.length + 1) (wcells D.cache cs ++ [.int .i64 z, u])) :
    AL w g ao n cap f B X gs sc fa fc { D with cache := D.cache ++ [(z, l)] } cb cd ss (cs ++ [u]) (wa.setCell ⟨X, 1, none⟩ (.slice cb (D.cache.length + 1) cd)) := by
  have hb : Below B W (wa.setCell ⟨X, 1, none⟩ (.slice cb (D.cache.length + 1) cd)) := ((Below.refl _ _).grown hg h.b hr).setCell (p := ⟨X, 1, none⟩) h.x _
  refine h.op (h.ms.more hk hu hO).1 ⟨h.ml.s, by show (D.cache ++ [(z, l)]).length ≤ _; simp; omega, hcb, h.ml.f, h.ml.fn⟩ ⟨h.ok.ns, h.ok.sec, by show (D.cache ++ [(z, l)]).length ≤ _; simp; omega, fun x hx => ?_, h.ok.nf⟩ h.few hb
  rcases List.mem_append.1 hx with hx | hx
  · exact h.ok.cache x hx
  · simp at hx; rw [hx]; exact hl
/-- Behind the append to the faults, and the store. -/
theorem AL.pushF {wa : World} {row : Option Nat} (h : AL w g ao n cap f B X gs sc fa fc D ca cc ss cs W) (hg : W.grownBy wa row) (hr : ∀ k, row = some k → B ≤ k) (hk : KeepT (fun t => t = 79) W wa) (x : PFault) (hc : D.faults.length ≤ 1000) {fb : Option Addr} {fd : Nat} (hcd : D.faults.length + 1 ≤ fd) (hfb : fb = none → fd = 0) (hO : wa.ownsRow B 79 3 (.slice fb (D.faults.length + 1) fd) (D.faults.length + 1) (fcells D.faults ++ [.int .i64 x.pos, .int .i64 x.keep, .int .i64 x.cut])) :
    AL w g ao n cap f B X gs sc fb fd { D with faults := D.faults ++ [x] } ca cc ss cs (wa.setCell ⟨X, 3, none⟩ (.slice fb (D.faults.length + 1) fd)) := by
  have hb : Below B W (wa.setCell ⟨X, 3, none⟩ (.slice fb (D.faults.length + 1) fd)) := ((Below.refl _ _).grown hg h.b hr).setCell (p := ⟨X, 3, none⟩) h.x _
  exact h.op (h.ms.moreF hk x hO) ⟨h.ml.s, h.ml.c, h.ml.cn, by show (D.faults ++ [x]).length ≤ _; simp; omega, hfb⟩ ⟨h.ok.ns, h.ok.sec, h.ok.nc, h.ok.cache, by show (D.faults ++ [x]).length ≤ _; simp; omega⟩ h.few hb
end
end Go.Proofs.Ytdhfbblameiloaa

/-
  The draw of a disk that is bent or not: what was drawn.
-/
namespace Go.Proofs.Ytdhfbblameiloaa
open Go.RowKit
set_option maxRecDepth 4000

/-- What was drawn. -/
def AD (w : World) (g : Nat) (ao : Option Addr) (n cap : Nat) (f : Nat → Int) (e : Ending) (W : World) : Prop :=
  ∃ (D : PDisk) (B X gs sc : Nat) (ca : Option Addr) (cc : Nat) (fa : Option Addr) (fc : Nat) (ss cs : List Value), e = .returned (dval D (some ⟨gs, 0, none⟩) sc ca cc fa fc) ∧ MS W B X gs sc ca cc fa fc ss cs D D.secs ∧ ML D sc ca cc fa fc ∧ KFine D ∧ (3 ≤ D.secs.length ∧ D.secs.length ≤ 48) ∧ CN w g ao n cap f W ∧ w.heap.size ≤ B ∧ B ≤ X

/-- The variable's disk is laid into the result's. -/
theorem AL.out {w : World} {g : Nat} {ao : Option Addr} {n cap : Nat} {f : Nat → Int} {B X gs sc : Nat} {fa : Option Addr} {fc : Nat} {D : PDisk} {ca : Option Addr} {cc : Nat} {ss cs : List Value} {W : World} (hL : AL w g ao n cap f B X gs sc fa fc D ca cc ss cs W) :
    AD w g ao n cap f (.returned (dval D (some ⟨gs, 0, none⟩) sc ca cc fa fc)) (((((W.setCell ⟨w.heap.size, 0, none⟩ (.slice (some ⟨gs, 0, none⟩) D.secs.length sc)).setCell ⟨w.heap.size, 1, none⟩ (.slice ca D.cache.length cc)).setCell ⟨w.heap.size, 2, none⟩ (.int .i64 D.ops)).setCell ⟨w.heap.size, 3, none⟩ (.slice fa D.faults.length fc)).setCell ⟨w.heap.size, 4, none⟩ (.bool D.down)) := by
  have hRk := ret5_keep (.slice (some ⟨gs, 0, none⟩) D.secs.length sc) (.slice ca D.cache.length cc) (.int .i64 D.ops) (.slice fa D.faults.length fc) (.bool D.down) hL.r
  have hlo := hL.lo
  have hxx := hL.x
  have hms := hL.ms
  refine ⟨D, B, X, gs, sc, ca, cc, fa, fc, ss, cs, rfl, hms.keepX hRk X ?_, hL.ml, hL.ok, hL.few, ((((hL.cn.set (Nat.le_refl _) _ _).set (Nat.le_refl _) _ _).set (Nat.le_refl _) _ _).set (Nat.le_refl _) _ _).set (Nat.le_refl _) _ _, by omega, hxx⟩
  exact ((((hms.x.other (by omega)).other (by omega)).other (by omega)).other (by omega)).other (by omega)
end Go.Proofs.Ytdhfbblameiloaa

