/-
  Together: DiskMS2, FineD, ReadPlainD, WritePlain, DiskKeepOk, DrawFaults12, L1In
-/
import Derived.Test.YtdhfbblameiloaaND9
import Derived.Test.YtdhfbblameiloaaND10
import Derived.Test.YtdhfbblameiloaaND2
import Derived.Deep.LoopGhost
import Derived.Test.YtdhfbblameiloaaND1
/-
  A disk in a variable of the model's reads; the operation counts.
-/
namespace Go.Proofs.Ytdhfbblameiloaa
open Go.RowKit
set_option maxRecDepth 4000

/-- Lengths and capacities. -/
structure ML (D : PDisk) (sc : Nat) (ca : Option Addr) (cc : Nat) (fa : Option Addr) (fc : Nat) : Prop where
  s : D.secs.length ≤ sc
  c : D.cache.length ≤ cc
  cn : ca = none → cc = 0
  f : D.faults.length ≤ fc
  fn : fa = none → fc = 0
theorem MS.wview {w : World} {B X gs sc : Nat} {ca : Option Addr} {cc : Nat} {fa : Option Addr} {fc : Nat} {ss cs : List Value} {D : PDisk} {S : List (List Int)} (h : MS w B X gs sc ca cc fa fc ss cs D S) (hl : ML D sc ca cc fa fc) : WView w ca cc D.cache := by
  refine ⟨hl.c, hl.cn, fun hn => ?_⟩
  have hln : (wcells D.cache cs).length = D.cache.length * 2 := wcells_len h.nc
  obtain ⟨g, ea, -, hlt, hc⟩ := h.cache.cell (by omega)
  refine ⟨g, 0, ea, hlt, fun i x hi => ?_⟩
  have hi1 := (List.getElem?_eq_some_iff.1 hi).1
  have hi' : i < cs.length := by rw [h.nc]; exact hi1
  have hv := List.getElem?_eq_getElem hi'
  obtain ⟨g0, g1⟩ := wcells_get hi hv
  refine ⟨[.int .i64 x.1, cs[i]], ⟨cs[i], rfl, (h.cb i _ x.2 hv (by simp [hi])).lv⟩, fun j u hj => ?_⟩
  match j, hj with
  | 0, hj => cases hj; simpa using hc _ _ g0
  | 1, hj => cases hj; simpa using hc _ _ g1
theorem MS.kview {w : World} {B X gs sc : Nat} {ca : Option Addr} {cc : Nat} {fa : Option Addr} {fc : Nat} {ss cs : List Value} {D : PDisk} (h : MS w B X gs sc ca cc fa fc ss cs D D.secs) (hl : ML D sc ca cc fa fc) (hp : 0 < D.secs.length) : KView w (.agg #[.slice (some ⟨gs, 0, none⟩) D.secs.length sc, .slice ca D.cache.length cc, .int .i64 D.ops, .slice fa D.faults.length fc, .bool D.down]) D :=
  ⟨_, _, _, _, _, _, rfl, h.view hl.s hp, h.wview hl, fview_rl h.faults hl.f hl.fn⟩
/-- The operation counts. -/
theorem MS.ops {w : World} {B X gs sc : Nat} {ca : Option Addr} {cc : Nat} {fa : Option Addr} {fc : Nat} {ss cs : List Value} {D : PDisk} {S : List (List Int)} (h : MS w B X gs sc ca cc fa fc ss cs D S) (x : Int) : MS (w.setCell ⟨X, 2, none⟩ (.int .i64 x)) B X gs sc ca cc fa fc ss cs { D with ops := x } S := by
  have hk := keep_vn (P := fun t => t = 32) (i := 2) (u := .int .i64 x) h.x rfl
  have hX := h.x.set 2 (.int .i64 x)
  simp only [List.set] at hX
  exact ⟨hX, h.secs.keepT hk (by decide), h.ns, h.len, fun i v l h1 h2 => (h.ob i v l h1 h2).keepT hk (by decide), own_keepT h.own hk (by decide), h.nc, fun i v l h1 h2 => (h.cb i v l h1 h2).keepT hk (by decide), own_keepT h.fown hk (by decide)⟩
/-- What is flushed. -/
noncomputable def flushF (D : PDisk) : PDisk × Int := open Classical in
  if D.down = true ∨ 100000 ≤ D.ops then (D, 9) else match findF D.faults D.ops with
    | some f => (loseD { D with ops := D.ops + 1 } f, 9)
    | none => (calmD { D with ops := D.ops + 1 }, 0)
theorem flushF_down {D : PDisk} (h : D.down = true ∨ 100000 ≤ D.ops) : flushF D = (D, 9) := by unfold flushF; rw [if_pos h]
theorem flushF_lose {D : PDisk} (h : ¬ (D.down = true ∨ 100000 ≤ D.ops)) {f : PFault} (hf : findF D.faults D.ops = some f) : flushF D = (loseD { D with ops := D.ops + 1 } f, 9) := by unfold flushF; rw [if_neg h, hf]
theorem flushF_calm {D : PDisk} (h : ¬ (D.down = true ∨ 100000 ≤ D.ops)) (hf : findF D.faults D.ops = none) : flushF D = (calmD { D with ops := D.ops + 1 }, 0) := by unfold flushF; rw [if_neg h, hf]
theorem OkD.fine {D : PDisk} (h : OkD D) : KFine D := by
  obtain ⟨⟨h1, h2, h3⟩, ⟨h4, h5⟩, -, ⟨h6, -⟩, -⟩ := h
  refine ⟨by omega, fun x hx => ?_, by omega, fun x hx => ?_, by omega⟩
  · obtain ⟨i, hi, rfl⟩ := List.getElem_of_mem hx
    have := h3 i hi; omega
  · obtain ⟨i, hi, rfl⟩ := List.getElem_of_mem hx
    have := (h5 i hi).2.2; omega
theorem findF_ok {D : PDisk} (h : OkD D) {f : PFault} (hf : findF D.faults D.ops = some f) : FOk f := by
  obtain ⟨-, -, -, ⟨-, h7⟩, -⟩ := h
  obtain ⟨i, hi, rfl⟩ := List.getElem_of_mem (List.mem_of_find?_eq_some hf)
  exact (h7 i hi).1
end Go.Proofs.Ytdhfbblameiloaa

/-
  What is left of a disk that is fine is fine.
-/
namespace Go.Proofs.Ytdhfbblameiloaa
open Go.RowKit
set_option maxRecDepth 4000

theorem settleL_mem {α : Type} : ∀ {l : List (Int × α)} {s : List α} {x : α}, x ∈ settleL s l → x ∈ s ∨ x ∈ l.map (·.2)
  | [], _, _, h => .inl h
  | y :: l, s, x, h => by
    rw [settleL] at h
    rcases settleL_mem h with h | h
    · rcases List.mem_or_eq_of_mem_set h with h | rfl
      · exact .inl h
      · exact .inr (by simp)
    · exact .inr (by simp only [List.map_cons, List.mem_cons]; exact .inr h)
theorem cutLast_mem {r : Nat} {l : List (Int × List Int)} {x : Int × List Int} (h : x ∈ cutLast (cutW r) l) : ∃ y ∈ l, x.2.length ≤ y.2.length := by
  rcases List.eq_nil_or_concat l with rfl | ⟨l0, y, rfl⟩
  · simp [cutLast_nil] at h
  · rw [List.concat_eq_append] at h ⊢
    rw [cutLast_app, List.mem_append] at h
    rcases h with h | h
    · exact ⟨x, List.mem_append_left _ h, Nat.le_refl _⟩
    · simp at h
      subst h
      exact ⟨y, by simp, by simp [cutW, List.length_take]; omega⟩
theorem loseD_fine {D : PDisk} (h : KFine D) (f : PFault) : KFine (loseD D f) := by
  refine ⟨?_, fun x hx => ?_, Nat.zero_le _, (fun x hx => by cases hx), h.nf⟩
  · show (settleL D.secs _).length ≤ _
    rw [settleL_len]; exact h.ns
  · rcases settleL_mem hx with hx | hx
    · exact h.sec x hx
    · obtain ⟨y, hy, rfl⟩ := List.mem_map.1 hx
      obtain ⟨z, hz, hl⟩ := cutLast_mem hy
      have := h.cache z (keptG_mem hz)
      omega
theorem calmD_fine {D : PDisk} (h : KFine D) : KFine (calmD D) := by
  refine ⟨?_, fun x hx => ?_, Nat.zero_le _, (fun x hx => by cases hx), h.nf⟩
  · show (settleL D.secs _).length ≤ _
    rw [settleL_len]; exact h.ns
  · rcases settleL_mem hx with hx | hx
    · exact h.sec x hx
    · obtain ⟨y, hy, rfl⟩ := List.mem_map.1 hx
      exact h.cache y hy
end Go.Proofs.Ytdhfbblameiloaa

/-
  What a sector reads as, plainly.
-/
namespace Go.Proofs.Ytdhfbblameiloaa
open Go.RowKit
set_option maxRecDepth 4000

/-- What the last of the first k writes of this sector has. -/
def lastW (l : List (Int × List Int)) (n : Int) : Nat → Option (List Int)
  | 0 => none
  | k + 1 => if (l[k]?).map (·.1) = some n then (l[k]?).map (·.2) else lastW l n k
theorem lastW_hit {l : List (Int × List Int)} {n : Int} {k : Nat} (h : k < l.length) (e : (l[k]).1 = n) : lastW l n (k + 1) = some (l[k]).2 := by
  rw [lastW, List.getElem?_eq_getElem h]
  simp [e]
theorem lastW_miss {l : List (Int × List Int)} {n : Int} {k : Nat} (h : k < l.length) (e : (l[k]).1 ≠ n) : lastW l n (k + 1) = lastW l n k := by
  rw [lastW, List.getElem?_eq_getElem h]
  simp [e]
def readB (D : PDisk) (n : Int) : List Int := if 0 ≤ n ∧ n < D.secs.length then (lastW D.cache n D.cache.length).getD (D.secs.getD n.toNat []) else []
def HasS (D : PDisk) (n : Int) : Prop := 0 ≤ n ∧ n < D.secs.length
theorem readB_none {D : PDisk} {n : Int} (h : ¬ HasS D n) : readB D n = [] := by unfold readB; rw [if_neg (show ¬ (0 ≤ n ∧ n < D.secs.length) from h)]
theorem readB_hit {D : PDisk} {n : Int} (h : HasS D n) {b : List Int} (e : lastW D.cache n D.cache.length = some b) : readB D n = b := by unfold readB; rw [if_pos (show 0 ≤ n ∧ n < D.secs.length from h), e]; rfl
theorem readB_sec {D : PDisk} {n : Int} (h : HasS D n) (e : lastW D.cache n D.cache.length = none) (hi : n.toNat < D.secs.length) : readB D n = D.secs[n.toNat] := by
  unfold readB
  rw [if_pos (show 0 ≤ n ∧ n < D.secs.length from h), e]
  simp [hi]
end Go.Proofs.Ytdhfbblameiloaa

/-
  What WriteSec comes to, plainly.
-/
namespace Go.Proofs.Ytdhfbblameiloaa
open Go.RowKit
set_option maxRecDepth 4000

/-- One more write, the operation counted. -/
def moreD (D : PDisk) (n : Int) (l : List Int) : PDisk := { D with ops := D.ops + 1, cache := D.cache ++ [(n, l)] }
noncomputable def writeF (D : PDisk) (n : Int) (l : List Int) : PDisk × Int := open Classical in
  if D.down = true ∨ 100000 ≤ D.ops then (D, 9) else match findF D.faults D.ops with
    | some f => (loseD (moreD D n l) f, 9)
    | none => (moreD D n l, 0)
def MayW (D : PDisk) (n : Int) (l : List Int) : Prop := OkD D ∧ HasS D n ∧ l.length ≤ 256 ∧ D.cache.length < 60
noncomputable def writeD (D : PDisk) (n : Int) (l : List Int) : PDisk × Int := open Classical in if MayW D n l then writeF D n l else (D, 1)
theorem writeD_no {D : PDisk} {n : Int} {l : List Int} (h : ¬ MayW D n l) : writeD D n l = (D, 1) := by unfold writeD; rw [if_neg h]
theorem writeD_ok {D : PDisk} {n : Int} {l : List Int} (h : MayW D n l) : writeD D n l = writeF D n l := by unfold writeD; rw [if_pos h]
theorem writeF_down {D : PDisk} {n : Int} {l : List Int} (h : D.down = true ∨ 100000 ≤ D.ops) : writeF D n l = (D, 9) := by unfold writeF; rw [if_pos h]
theorem writeF_lose {D : PDisk} {n : Int} {l : List Int} (h : ¬ (D.down = true ∨ 100000 ≤ D.ops)) {f : PFault} (hf : findF D.faults D.ops = some f) : writeF D n l = (loseD (moreD D n l) f, 9) := by unfold writeF; rw [if_neg h, hf]
theorem writeF_good {D : PDisk} {n : Int} {l : List Int} (h : ¬ (D.down = true ∨ 100000 ≤ D.ops)) (hf : findF D.faults D.ops = none) : writeF D n l = (moreD D n l, 0) := by unfold writeF; rw [if_neg h, hf]
theorem moreD_ok {D : PDisk} {n : Int} {l : List Int} (h : MayW D n l) (hd : ¬ (D.down = true ∨ 100000 ≤ D.ops)) : OkD (moreD D n l) := by
  obtain ⟨⟨h1, ⟨h2, h3⟩, h4, h5, h6⟩, h7, h8, h9⟩ := h
  have hn : ¬ 100000 ≤ D.ops := fun x => hd (.inr x)
  refine ⟨h1, ⟨?_, fun i hi => ?_⟩, ⟨?_, ?_⟩, h5, fun hx => hd (.inl hx.1)⟩
  · show (D.cache ++ [(n, l)]).length ≤ 60
    simp; omega
  · have hi' : i < (D.cache ++ [(n, l)]).length := hi
    show 0 ≤ ((D.cache ++ [(n, l)])[i]).1 ∧ ((D.cache ++ [(n, l)])[i]).1 < D.secs.length ∧ ((D.cache ++ [(n, l)])[i]).2.length ≤ 256
    by_cases e : i < D.cache.length
    · rw [List.getElem_append_left e]
      exact h3 i e
    · have e' : i = D.cache.length := by simp at hi'; omega
      subst e'
      simp only [List.getElem_append_right (Nat.le_refl _), Nat.sub_self, List.getElem_cons_zero]
      exact ⟨h7.1, h7.2, h8⟩
  · show 0 ≤ D.ops + 1; have := h4.1; omega
  · show D.ops + 1 ≤ 100000; omega
end Go.Proofs.Ytdhfbblameiloaa

/-
  A right disk stays one, whatever is done to it.
-/
namespace Go.Proofs.Ytdhfbblameiloaa
open Go.RowKit
set_option maxRecDepth 4000

theorem short_mem {l : List (List Int)} : Short l ↔ ∀ x ∈ l, x.length ≤ 256 := by
  constructor
  · intro h x hx
    obtain ⟨i, hi, rfl⟩ := List.getElem_of_mem hx
    exact h i hi
  · intro h i hi
    exact h _ (List.getElem_mem hi)
theorem cache_short {n : Nat} {l : List (Int × List Int)} (h : CacheOk n l) : ∀ x ∈ l, x.2.length ≤ 256 := by
  intro x hx
  obtain ⟨i, hi, rfl⟩ := List.getElem_of_mem hx
  exact (h.2 i hi).2.2
theorem OkD.opsUp {D : PDisk} (h : OkD D) (hd : ¬ (D.down = true ∨ 100000 ≤ D.ops)) : OkD { D with ops := D.ops + 1 } := by
  obtain ⟨h1, h2, h3, h4, h5⟩ := h
  have hn : ¬ 100000 ≤ D.ops := fun x => hd (.inr x)
  exact ⟨h1, h2, ⟨by show 0 ≤ D.ops + 1; have := h3.1; omega, by show D.ops + 1 ≤ 100000; omega⟩, h4, h5⟩
theorem OkD.lose {D : PDisk} (h : OkD D) (f : PFault) : OkD (loseD D f) := by
  obtain ⟨⟨h1, h2, h3⟩, hc, h5, h6, -⟩ := h
  have hl : (loseD D f).secs.length = D.secs.length := settleL_len _ _
  refine ⟨⟨by rw [hl]; exact h1, by rw [hl]; exact h2, short_mem.2 (fun x hx => ?_)⟩, ⟨Nat.zero_le _, fun i hi => absurd hi (Nat.not_lt_zero _)⟩, h5, h6, fun hx => absurd hx.2 (Nat.lt_irrefl _)⟩
  rcases settleL_mem hx with hx | hx
  · exact short_mem.1 h3 x hx
  · obtain ⟨y, hy, rfl⟩ := List.mem_map.1 hx
    obtain ⟨z, hz, hzl⟩ := cutLast_mem hy
    have := cache_short hc z (keptG_mem hz)
    omega
theorem OkD.calm {D : PDisk} (h : OkD D) : OkD (calmD D) := by
  obtain ⟨⟨h1, h2, h3⟩, hc, h5, h6, -⟩ := h
  have hl : (calmD D).secs.length = D.secs.length := settleL_len _ _
  refine ⟨⟨by rw [hl]; exact h1, by rw [hl]; exact h2, short_mem.2 (fun x hx => ?_)⟩, ⟨Nat.zero_le _, fun i hi => absurd hi (Nat.not_lt_zero _)⟩, h5, h6, fun hx => absurd hx.2 (Nat.lt_irrefl _)⟩
  rcases settleL_mem hx with hx | hx
  · exact short_mem.1 h3 x hx
  · obtain ⟨y, hy, rfl⟩ := List.mem_map.1 hx
    exact cache_short hc y hy
theorem OkD.on {D : PDisk} (h : OkD D) : OkD { D with down := false } := ⟨h.1, h.2.1, h.2.2.1, h.2.2.2.1, fun hx => by cases hx.1⟩
theorem OkD.flush {D : PDisk} (h : OkD D) : OkD (flushF D).1 := by
  unfold flushF
  split
  · exact h
  · rename_i hd
    split
    · exact (h.opsUp hd).lose _
    · exact (h.opsUp hd).calm
theorem OkD.write {D : PDisk} {n : Int} {l : List Int} (h : MayW D n l) : OkD (writeF D n l).1 := by
  unfold writeF
  split
  · exact h.1
  · rename_i hd
    split
    · exact (moreD_ok h hd).lose _
    · exact moreD_ok h hd
theorem flush_len {D : PDisk} : (flushF D).1.secs.length = D.secs.length ∧ (flushF D).1.cache.length ≤ D.cache.length := by
  unfold flushF
  split
  · exact ⟨rfl, Nat.le_refl _⟩
  · split
    · exact ⟨settleL_len _ _, Nat.zero_le _⟩
    · exact ⟨settleL_len _ _, Nat.zero_le _⟩
theorem write_len {D : PDisk} {n : Int} {l : List Int} : (writeF D n l).1.secs.length = D.secs.length ∧ (writeF D n l).1.cache.length ≤ D.cache.length + 1 := by
  unfold writeF
  split
  · exact ⟨rfl, Nat.le_succ _⟩
  · split
    · exact ⟨settleL_len _ _, Nat.zero_le _⟩
    · exact ⟨rfl, by show (D.cache ++ [(n, l)]).length ≤ _; simp⟩
/-- Faults one behind the other. -/
theorem FaultsOk.add {l : List PFault} (h : FaultsOk l) (hn : l.length < 20) {x : PFault} (hx : FOk x) (hp : ∀ y ∈ l, y.pos < x.pos) : FaultsOk (l ++ [x]) := by
  refine ⟨by simp; omega, fun i hi => ?_⟩
  by_cases e : i < l.length
  · have := h.2 i e
    refine ⟨by rw [List.getElem_append_left e]; exact this.1, fun h1 => ?_⟩
    rw [List.getElem_append_left e, List.getElem_append_left (by omega)]
    exact this.2 h1
  · have e' : i = l.length := by simp at hi; omega
    subst e'
    refine ⟨by simpa using hx, fun h1 => ?_⟩
    rw [List.getElem_append_left (by omega)]
    simp only [List.getElem_append_right (Nat.le_refl _), Nat.sub_self, List.getElem_cons_zero]
    exact hp _ (List.getElem_mem _)
end Go.Proofs.Ytdhfbblameiloaa

/-
  The draw of faults.
-/
namespace Go.Proofs.Ytdhfbblameiloaa
open Go.RowKit
set_option maxRecDepth 4000

theorem fcells_app (l : List PFault) (x : PFault) : fcells (l ++ [x]) = fcells l ++ [.int .i64 x.pos, .int .i64 x.keep, .int .i64 x.cut] := by simp [fcells, fEl]
theorem cells3New (w : World) (a b c : Int) (t : TypeId) : ∀ j u, [Value.int .i64 a, .int .i64 b, .int .i64 c][j]? = some u → (w.alloc (.cells #[.int .i64 a, .int .i64 b, .int .i64 c] t)).cell? ((⟨w.heap.size, 0, none⟩ : Addr).add j) = some u := by
  intro j u h
  have ea : ∀ j, (⟨w.heap.size, 0, none⟩ : Addr).add j = ⟨w.heap.size, 0 + j, none⟩ := fun j => by unfold Addr.add; split <;> simp_all
  match j, h with
  | 0, h => cases h; rw [ea]; simp
  | 1, h => cases h; rw [ea]; simp [go_sem]
  | 2, h => cases h; rw [ea]; simp [go_sem]
  | j + 3, h => simp at h
/-- Faults that were drawn. -/
structure DF (w : World) (W : World) (v : Value) (l : List PFault) : Prop where
  own : W.ownsRow w.heap.size 79 3 v l.length (fcells l)
  ok : FaultsOk l

set_option maxHeartbeats 4000000 in
theorem l12FaultList_any (g : Nat) (ao : Option Addr) (n cap : Nat) (f : Nat → Int) (w : World) (hn : n ≤ 1048576) (hC : Cur w g ao n cap f) :
    Calls Try.prog 92 #[.pointer (some ⟨g, 0, none⟩)] w fun e w' => ∃ (l : List PFault) (v : Value), e = .returned v ∧ DF w w' v l ∧ l.length ≤ 3 ∧ CN w g ao n cap f w' := by
  obtain ⟨i0, hi, hz0, hz1, hz2⟩ := infoFault
  have hR := CN.start hC
  have hg := hR.lt
  have hbA : Below w.heap.size w (w.alloc (.cells #[] 79)) := (Below.refl _ _).alloc (Nat.le_refl _) _
  have hO := World.ownsRow_lit (base := w.heap.size) (e := 79) (size := 3) w #[] 0 (Nat.le_refl _) (Nat.zero_le _) rfl
  replace hR := hR.below hbA
  clear hC hbA
  go_enter Try.func92, Try.ntmps92
  go_wp2_with fail
  obtain ⟨WA, hWA⟩ : ∃ x, Hid (w.alloc (.cells #[] 79) = x) := ⟨_, rfl⟩
  rw [hWA.out] at hR hO ⊢
  refine (l1Below_any g ao n cap f 4 WA hn (by omega) (by omega) hR.cur).mono ?_
  rintro e w1 ⟨x, rfl, hx0, hx1, hC1, hO1⟩
  replace hO := own_grownN hO (But.ofOnly hO1).grown (fun j e => by have := (own_blkN hO e).1; simp; omega)
  replace hR := hR.next hC1 (But.ofOnly hO1)
  clear hC1 hO1 hWA
  obtain ⟨m, rfl⟩ := Int.eq_ofNat_of_zero_le hx0
  have HS : Hid (w1.ownsRow w.heap.size 79 3 (.slice (some ⟨w.heap.size, 0, none⟩) 0 0) 0 (fcells []) ∧ CN w g ao n cap f w1) := ⟨hO, hR⟩
  clear hO hR
  go_wp2
  go_loopg [3, 4, 5] m (fun q o a i wr => ∃ (k : Nat) (t : Int) (l : List PFault), q = k ∧ i = .int .i64 k ∧ a = .int .i64 t ∧ l.length + k ≤ 3 ∧ 0 ≤ t ∧ t ≤ 13 * l.length ∧ Hid (∀ y ∈ l, y.pos < t) ∧ Hid (FaultsOk l) ∧ wr.ownsRow w.heap.size 79 3 o l.length (fcells l) ∧ CN w g ao n cap f wr)
  case atStart => exact ⟨m, 0, [], rfl, rfl, rfl, by simp; omega, Int.le_refl _, by simp, (fun y hy => by cases hy), ⟨Nat.zero_le _, fun i hi => absurd hi (Nat.not_lt_zero _)⟩, HS.out.1, HS.out.2⟩
  case round =>
    clear HS
    obtain ⟨k, t, l, hq, rfl, rfl, hlk, ht0, ht1, HP, HF, hO, hR⟩ := hrel
    by_cases hk : 0 < k
    · have hkz : (0 : Int) < (k : Int) := by omega
      obtain ⟨va, vc, ev⟩ := own_form hO
      subst ev
      go_wp2_with fail
      refine (l1Below_any g ao n cap f 12 wr hn (by omega) (by omega) hR.cur).mono ?_
      rintro e w2 ⟨y, rfl, hy0, hy1, hC2, hO2⟩
      replace hO := own_grownN hO (But.ofOnly hO2).grown (fun j e => by have := (own_blkN hO e).1; simp; omega)
      replace hR := hR.next hC2 (But.ofOnly hO2)
      clear hC2 hO2
      go_wp2_with fail
      refine (l1Below_any g ao n cap f 64 w2 hn (by omega) (by omega) hR.cur).mono ?_
      rintro e w3 ⟨z, rfl, hz0', hz1', hC3, hO3⟩
      replace hO := own_grownN hO (But.ofOnly hO3).grown (fun j e => by have := (own_blkN hO e).1; simp; omega)
      replace hR := hR.next hC3 (But.ofOnly hO3)
      clear hC3 hO3
      have hI := l1Int_mem g ao n cap f [0, 1, 2, 3, 5, 7, 1048575, z] w3.heap.size w3 rfl hn (by simp) (by simp) hR.cur
      go_wp2_with fail
      refine hI.mono ?_
      rintro e w4 ⟨kp, rfl, hkp, hC4, hB4⟩
      have hkp2 : 0 ≤ kp ∧ kp ≤ 1048575 := by simp at hkp; omega
      replace hO := own_grownN hO hB4.grown (fun j e => by have := (own_blkN hO e).1; simp; omega)
      replace hR := hR.next hC4 hB4
      clear hC4 hB4 hI hkp
      have hI := l1Int_mem g ao n cap f [0, 1, 5, 20, 256] w4.heap.size w4 rfl hn (by simp) (by simp) hR.cur
      go_wp2_with fail
      refine hI.mono ?_
      rintro e w5 ⟨ct, rfl, hct, hC5, hB5⟩
      have hct2 : 0 ≤ ct ∧ ct ≤ 256 := by simp at hct; omega
      replace hO := own_grownN hO hB5.grown (fun j e => by have := (own_blkN hO e).1; simp; omega)
      replace hR := hR.next hC5 hB5
      clear hC5 hB5 hI hct
      have hbO : Below w5.heap.size w5 (w5.alloc (.cells #[.int .i64 (t + y), .int .i64 kp, .int .i64 ct] 79)) := (Below.refl _ _).alloc (Nat.le_refl _) _
      have hcl := cells3New w5 (t + y) kp ct 79
      have hg6 : w5.grownBy (w5.alloc (.cells #[.int .i64 (t + y), .int .i64 kp, .int .i64 ct] 79)) none := ⟨hbO.os, hbO.tape, hbO.output, hbO.size, fun k hk _ => hbO.block k hk⟩
      have hO6 := own_grownN hO hg6 (fun j e => by simp)
      have hR6 := hR.below hbO
      clear hO hR hbO hg6
      go_wp2_with (at_builtin; go_must (refine wpList_append_own _ rfl (.tmp 17) (.tmp 28) 30 rfl w.heap.size 79 i0 (.agg #[.int .i64 0, .int .i64 0, .int .i64 0]) 3 24 Try.underlying30 hi hz0 hz1 hz2 rfl (by decide) _ _ _ rfl hO6 ⟨w5.heap.size, 0, none⟩ 1 1 [.int .i64 (t + y), .int .i64 kp, .int .i64 ct] rfl rfl hcl (by intro u hu; simp at hu; rcases hu with rfl | rfl | rfl <;> rfl) (by unfold maxLen; omega) (by omega) hR6.size ?_); intro v7 w7 hO7 hg7 _)
      have hR7 := hR6.grown hg7 (fun j e => (own_blkN hO6 e).1)
      have HN : Hid (w7.ownsRow w.heap.size 79 3 v7 (l ++ [(⟨t + y, kp, ct⟩ : PFault)]).length (fcells (l ++ [(⟨t + y, kp, ct⟩ : PFault)])) ∧ CN w g ao n cap f w7 ∧ FaultsOk (l ++ [(⟨t + y, kp, ct⟩ : PFault)]) ∧ ∀ x ∈ l ++ [(⟨t + y, kp, ct⟩ : PFault)], x.pos < t + y + 1) := by
        refine ⟨by rw [List.length_append, fcells_app]; exact hO7, hR7, HF.out.add (by omega) ⟨⟨by show 0 ≤ t + y; omega, by show t + y ≤ 100000; omega⟩, hkp2, hct2⟩ (fun x hx => by have := HP.out x hx; show x.pos < t + y; omega), fun x hx => ?_⟩
        rcases List.mem_append.1 hx with hx | hx
        · have := HP.out x hx; omega
        · simp at hx; subst hx; show t + y < t + y + 1; omega
      have hl3 : (l ++ [(⟨t + y, kp, ct⟩ : PFault)]).length = l.length + 1 := by simp
      clear hO6 hR6 hO7 hg7 hR7 hcl HP HF
      go_wp2
      go_roundg (k - 1)
      case measure => omega
      case rel => exact ⟨k - 1, t + y + 1, l ++ [(⟨t + y, kp, ct⟩ : PFault)], rfl, congrArg (Value.int .i64) (by omega), rfl, by omega, by omega, by omega, HN.out.2.2.2, HN.out.2.2.1, HN.out.1, HN.out.2.1⟩
    · have hkz : ¬ (0 : Int) < (k : Int) := by omega
      have HE : Hid (DF w wr u3 l ∧ CN w g ao n cap f wr) := ⟨⟨hO, HF.out⟩, hR⟩
      clear hO hR HP HF
      go_wp2
      go_ret
      exact ⟨l, _, rfl, HE.out.1, by omega, HE.out.2⟩
end Go.Proofs.Ytdhfbblameiloaa

/-
  The model's l1In: whether a number lies between two.
-/
namespace Go.Proofs.Ytdhfbblameiloaa
open Go.RowKit
set_option maxRecDepth 4000

set_option maxHeartbeats 1000000 in
theorem l1In_any (x l m : Int) (w : World) :
    Calls Try.prog 56 #[.int .i64 x, .int .i64 l, .int .i64 m] w fun e w' => e = .returned (.bool (decide (l ≤ x) && decide (x ≤ m))) ∧ w = w' := by
  go_enter Try.func56, Try.ntmps56
  by_cases h : l ≤ x
  · have e1 : decide (l ≤ x) = true := by simpa using h
    go_wp2
    go_ret
    exact ⟨by simp [h], rfl⟩
  · have e1 : decide (l ≤ x) = false := by simpa using h
    go_wp2
    go_ret
    exact ⟨by simp, rfl⟩

theorem l1In_yes (x l m : Int) (w : World) (h1 : l ≤ x) (h2 : x ≤ m) :
    Calls Try.prog 56 #[.int .i64 x, .int .i64 l, .int .i64 m] w fun e w' => e = .returned (.bool true) ∧ w = w' := by
  have h := l1In_any x l m w
  rw [decide_eq_true h1, decide_eq_true h2] at h
  exact h
theorem l1In_no (x l m : Int) (w : World) (h1 : x < l ∨ m < x) :
    Calls Try.prog 56 #[.int .i64 x, .int .i64 l, .int .i64 m] w fun e w' => e = .returned (.bool false) ∧ w = w' := by
  have h := l1In_any x l m w
  have e : (decide (l ≤ x) && decide (x ≤ m)) = false := by
    rcases h1 with h1 | h1
    · rw [decide_eq_false (by omega), Bool.false_and]
    · rw [decide_eq_false (p := x ≤ m) (by omega), Bool.and_false]
  rw [e] at h
  exact h
end Go.Proofs.Ytdhfbblameiloaa

