/-
  Together: L1In, ReadSecS, ReadSecI, ReadLen, LawReadSec
-/
import Derived.Test.YtphipmhibegbnaaPkR1
import Derived.Test.YtphipmhibegbnaaPkR7
import Derived.Test.YtphipmhibegbnaaPkR3
import Derived.Test.YtphipmhibegbnaaPkR2
import Derived.Test.YtphipmhibegbnaaPkR6
/-
  The model's l1In: whether a number lies between two.
-/
namespace Go.Proofs.Ytphipmhibegbnaa
open Go.RowKit
set_option maxRecDepth 4000

set_option maxHeartbeats 1000000 in
theorem l1In_any (x l m : Int) (w : World) :
    Calls Try.prog 33 #[.int .i64 x, .int .i64 l, .int .i64 m] w fun e w' => e = .returned (.bool (decide (l ≤ x) && decide (x ≤ m))) ∧ w = w' := by
  go_enter Try.func33, Try.ntmps33
  by_cases h : l ≤ x
  · have e1 : decide (l ≤ x) = true := by simpa using h
    go_wp2
    go_ret
    exact ⟨by simp [h], rfl⟩
  · have e1 : decide (l ≤ x) = false := by simpa using h
    go_wp2
    go_ret
    exact ⟨by simp, rfl⟩

theorem l1In_yes (x l m : Int) (w : World) (h1 : l ≤ x) (h2 : x ≤ m) :
    Calls Try.prog 33 #[.int .i64 x, .int .i64 l, .int .i64 m] w fun e w' => e = .returned (.bool true) ∧ w = w' := by
  have h := l1In_any x l m w
  rw [decide_eq_true h1, decide_eq_true h2] at h
  exact h
theorem l1In_no (x l m : Int) (w : World) (h1 : x < l ∨ m < x) :
    Calls Try.prog 33 #[.int .i64 x, .int .i64 l, .int .i64 m] w fun e w' => e = .returned (.bool false) ∧ w = w' := by
  have h := l1In_any x l m w
  have e : (decide (l ≤ x) && decide (x ≤ m)) = false := by
    rcases h1 with h1 | h1
    · rw [decide_eq_false (by omega), Bool.false_and]
    · rw [decide_eq_false (p := x ≤ m) (by omega), Bool.and_false]
  rw [e] at h
  exact h
end Go.Proofs.Ytphipmhibegbnaa

/-
  The model's ReadSec.
-/
namespace Go.Proofs.Ytphipmhibegbnaa
open Go.RowKit
set_option maxRecDepth 4000

/-- What ReadSec comes to. -/
def ReadTo (w : World) (D : PDisk) (n : Int) (e : Ending) (w' : World) : Prop := ∃ (v : Value) (ok : Bool), e = .returned (.tuple #[v, .bool ok]) ∧ (ok = true ↔ HasS D n) ∧ OB w' w.heap.size v (readB D n) ∧ Below w.heap.size w w'

set_option maxHeartbeats 8000000 in
theorem specReadSec_any (v : Value) (D : PDisk) (n : Int) (w : World) (h : KView w v D) (hf : KFine D) :
    Calls Try.prog 10 #[v, .int .i64 n] w (ReadTo w D n) := by
  obtain ⟨ib, hib, hb0, hb1, hb2⟩ := info_parts Try.info5
  obtain ⟨sa, sc, ca, cc, fa, fc, rfl, hs, hc, hfv⟩ := h.is
  clear h hfv
  have hns := hf.ns
  have hnc := hf.nc
  have HH : Hid (SView w sa sc D.secs ∧ WView w ca cc D.cache ∧ KFine D) := ⟨hs, hc, hf⟩
  clear hs hc hf
  have hB0 := box5_start w (.cells #[.slice sa D.secs.length sc, .slice ca D.cache.length cc, .int .i64 D.ops, .slice fa D.faults.length fc, .bool D.down] 34)
  have hs1 : IntKind.i64.wrap ((D.secs.length : Int) - 1) = (D.secs.length : Int) - 1 := by rw [IntKind.wrap_i64]; omega
  have hs2 : IntKind.i64.wrap ((D.cache.length : Int) - 1) = (D.cache.length : Int) - 1 := by rw [IntKind.wrap_i64]; omega
  by_cases hr : 0 ≤ n ∧ n < D.secs.length
  case neg =>
    have hV := fun W => l1In_no n 0 ((D.secs.length : Int) - 1) W (by omega)
    obtain ⟨hBw0, -⟩ := box5_below hB0
    go_enter Try.func10, Try.ntmps10
    go_wp2_with fail
    refine (hV _).mono ?_
    rintro e w1 ⟨rfl, rfl⟩
    clear hV
    go_wp2
    refine bodyPost_ret (v := .tuple #[.slice (some ⟨w.heap.size + 1, 0, none⟩) 0 0, .bool false]) (by simp [results, Try.results10, go_sem]) rfl ⟨_, false, rfl, by simpa [HasS] using hr, ?_, hBw0.alloc (by simp) _⟩
    rw [readB_none hr]
    exact ⟨_, 0, rfl, Nat.le_refl _, (fun e => by cases e), by simp, .inl rfl⟩
  have hV := fun W => l1In_yes n 0 ((D.secs.length : Int) - 1) W hr.1 (by omega)
  go_enter Try.func10, Try.ntmps10
  go_wp2_with fail
  refine (hV _).mono ?_
  rintro e w1 ⟨rfl, rfl⟩
  clear hV
  go_wp2
  go_loopg [6] D.cache.length (fun q i wr => ∃ k : Nat, k ≤ D.cache.length ∧ q = k ∧ i = .int .i64 ((k : Int) - 1) ∧ Below (w.heap.size + 1) (w.alloc (.cells #[.slice sa D.secs.length sc, .slice ca D.cache.length cc, .int .i64 D.ops, .slice fa D.faults.length fc, .bool D.down] 34)) wr ∧ Hid (lastW D.cache n D.cache.length = lastW D.cache n k))
  case atStart => exact ⟨D.cache.length, Nat.le_refl _, rfl, rfl, hB0, rfl⟩
  case round =>
    clear hB0
    obtain ⟨k, hk, hqk, rfl, hB5, HL⟩ := hrel
    obtain ⟨hB, -⟩ := box5_below hB5
    obtain ⟨y0, y1, y2, y3, y4⟩ := box5 hB5
    have hbE : Below w.heap.size w (wr.alloc (.cells #[] 5)) := hB.alloc hB.size _
    have hbE0 : Below wr.heap.size wr (wr.alloc (.cells #[] 5)) := (Below.refl _ _).alloc (Nat.le_refl _) _
    have hE := own_emptyK wr 5 1
    have hszE : wr.heap.size ≤ (wr.alloc (.cells #[] 5)).heap.size := hbE0.size
    by_cases hlt : 0 < k
    · obtain ⟨j, rfl⟩ : ∃ j, k = j + 1 := ⟨k - 1, by omega⟩
      have hjl : j < D.cache.length := by omega
      obtain ⟨b1, o1, a3, c3, esa, hb1', x0, x1, v0, vn⟩ := wview_at (wview_below HH.out.2.1 hB) hjl
      subst esa
      have hkz : (0 : Int) ≤ (j : Int) := by omega
      have hjz : (j : Int) < (D.cache.length : Int) := by omega
      have e1 : ((j + 1 : Nat) : Int) - 1 = (j : Int) := by omega
      rw [e1]
      have hw1 : IntKind.i64.wrap ((j : Int) - 1) = (j : Int) - 1 := by rw [IntKind.wrap_i64]; omega
      have hpl := HH.out.2.2.cache _ (List.getElem_mem hjl)
      by_cases hN : (D.cache[j]).1 = n
      · have HRB : Hid (readB D n = (D.cache[j]).2) := readB_hit hr (by rw [HL.out, lastW_hit hjl hN])
        rw [hN] at x0
        have v0' := v0.below hbE0
        have hnews := view_news v0'
        have hby := lv_bytes v0
        have hno : a3 = none → (D.cache[j]).2.length = 0 ∧ c3 = 0 := fun e => by have h1 := vn e; have h2 := v0.le; omega
        have hlen : (bl (D.cache[j]).2).length = (D.cache[j]).2.length * 1 := by rw [bl_len]; omega
        obtain ⟨p0, hp0⟩ := hidEx (D.cache[j]).2.length
        obtain ⟨pl, hpl'⟩ := hidEx (D.cache[j]).2
        have hp0v := hp0.out
        have hq : (n == n) = true := beq_self_eq_true _
        rw [hpl'.out] at hnews hby hlen HRB hp0v
        rw [hp0.out] at x1 hno hpl
        rw [hp0v] at hlen
        have hlb : w.heap.size < wr.heap.size := by have := hB5.size; simp at this; omega
        have y1' : (wr.alloc (.cells #[] 5)).cell? ⟨w.heap.size, 1, none⟩ = some (.slice (some ⟨b1, o1, none⟩) D.cache.length cc) := by rw [hbE0.cell (p := ⟨w.heap.size, 1, none⟩) hlb]; exact y1
        have x1' : (wr.alloc (.cells #[] 5)).cell? ⟨b1, o1 + j * 2 + 1, none⟩ = some (.slice a3 p0 c3) := by rw [hbE0.cell (p := ⟨b1, o1 + j * 2 + 1, none⟩) hb1']; exact x1
        clear v0 v0' HL
        go_wp2_with (at_builtin; refine wpList_append_opt rfl (.tmp 31) (.tmp 37) 28 rfl wr.heap.size 5 ib (.int .u8 0) 1 1 Try.underlying28 hib hb0 hb1 hb2 rfl (by decide) _ _ _ rfl hE a3 p0 c3 (bl pl) rfl hno hlen hnews (bl_one _) (by unfold maxLen; omega) (by omega) hszE ?_)
        intro v8 w8 hE8 hgr8
        try rw [Nat.zero_add, List.nil_append] at hE8
        have HO : Hid (OB w8 w.heap.size v8 pl ∧ Below w.heap.size w w8) := ⟨(ob_own_any hE8 hp0v.symm hby).mono hB.size, hbE.grown hgr8 hbE.size (fun k e => by have h1 := own_geK hE k e; have h2 := hB.size; omega)⟩
        clear hE8 hgr8 hE hnews
        go_wp2
        exact bodyPost_ret (v := .tuple #[v8, .bool true]) (by simp [results, Try.results10, go_sem]) rfl ⟨v8, true, rfl, by simpa [HasS] using hr, by rw [HRB.out]; exact HO.out.1, HO.out.2⟩
      · have HL2 : Hid (lastW D.cache n D.cache.length = lastW D.cache n j) := by
          show _ = _
          rw [HL.out, lastW_miss hjl hN]
        obtain ⟨p1, hp1⟩ := hidEx (D.cache[j]).1
        obtain ⟨p0, hp0⟩ := hidEx (D.cache[j]).2.length
        have hN' : ¬ p1 = n := by rw [← hp1.out]; exact hN
        have hq : (p1 == n) = false := beq_eq_false_iff_ne.2 hN'
        rw [hp1.out] at x0
        rw [hp0.out] at x1
        clear v0 HL hE hbE hbE0 hN hpl
        go_wp2
        go_roundg j
        case measure => omega
        case rel => exact ⟨j, by omega, rfl, by go_num, hB5, HL2⟩
    · obtain rfl : k = 0 := by omega
      have hkz : ¬ (0 : Int) ≤ ((0 : Nat) : Int) - 1 := by omega
      obtain ⟨m, hm⟩ : ∃ m : Nat, n = m := ⟨n.toNat, by omega⟩
      subst hm
      have hml : m < D.secs.length := by omega
      obtain ⟨b1, o1, a3, c3, esa, hb1', x0, v0, vn⟩ := sview_at (sview_below HH.out.1 hB) hml
      subst esa
      have hmz : (m : Int) < (D.secs.length : Int) := by omega
      have hpl := HH.out.2.2.sec _ (List.getElem_mem hml)
      have HRB : Hid (readB D (m : Int) = D.secs[m]) := readB_sec hr (by rw [HL.out]; rfl) hml
      have v0' := v0.below hbE0
      have hnews := view_news v0'
      have hby := lv_bytes v0
      have hno : a3 = none → (D.secs[m]).length = 0 ∧ c3 = 0 := fun e => by have h1 := vn e; have h2 := v0.le; omega
      have hlen : (bl D.secs[m]).length = (D.secs[m]).length * 1 := by rw [bl_len]; omega
      obtain ⟨p0, hp0⟩ := hidEx (D.secs[m]).length
      obtain ⟨pl, hpl'⟩ := hidEx D.secs[m]
      have hp0v := hp0.out
      rw [hpl'.out] at hnews hby hlen HRB hp0v
      rw [hp0.out] at x0 hno hpl
      rw [hp0v] at hlen
      have hlb : w.heap.size < wr.heap.size := by have := hB5.size; simp at this; omega
      have y0' : (wr.alloc (.cells #[] 5)).cell? ⟨w.heap.size, 0, none⟩ = some (.slice (some ⟨b1, o1, none⟩) D.secs.length sc) := by rw [hbE0.cell (p := ⟨w.heap.size, 0, none⟩) hlb]; exact y0
      have x0' : (wr.alloc (.cells #[] 5)).cell? ⟨b1, o1 + m, none⟩ = some (.slice a3 p0 c3) := by rw [hbE0.cell (p := ⟨b1, o1 + m, none⟩) hb1']; exact x0
      clear v0 v0' HL
      go_wp2_with (at_builtin; refine wpList_append_opt rfl (.tmp 39) (.tmp 44) 28 rfl wr.heap.size 5 ib (.int .u8 0) 1 1 Try.underlying28 hib hb0 hb1 hb2 rfl (by decide) _ _ _ rfl hE a3 p0 c3 (bl pl) rfl hno hlen hnews (bl_one _) (by unfold maxLen; omega) (by omega) hszE ?_)
      intro v8 w8 hE8 hgr8
      try rw [Nat.zero_add, List.nil_append] at hE8
      have HO : Hid (OB w8 w.heap.size v8 pl ∧ Below w.heap.size w w8) := ⟨(ob_own_any hE8 hp0v.symm hby).mono hB.size, hbE.grown hgr8 hbE.size (fun k e => by have h1 := own_geK hE k e; have h2 := hB.size; omega)⟩
      clear hE8 hgr8 hE hnews
      go_wp2
      exact bodyPost_ret (v := .tuple #[v8, .bool true]) (by simp [results, Try.results10, go_sem]) rfl ⟨v8, true, rfl, by simpa [HasS] using hr, by rw [HRB.out]; exact HO.out.1, HO.out.2⟩
end Go.Proofs.Ytphipmhibegbnaa

/-
  The program's ReadSec.
-/
namespace Go.Proofs.Ytphipmhibegbnaa
open Go.RowKit
set_option maxRecDepth 4000

attribute [local go_sem] Oper.semAt_some

theorem VN.ownK {W W' : World} {row : Option Nat} {B : Nat} {T : TypeId} {xs : List Value} (h : VN W B T xs) (hg : W.grownBy W' row) (hr : ∀ r, row = some r → ∃ o : Obj, W.heap[r]? = some o ∧ o.isCells = false) : VN W' B T xs :=
  (grownBy_keeps_cells hg hr h rfl).trans h
theorem OB.ownK {W W' : World} {row : Option Nat} {B : Nat} {v : Value} {l : List Int} (h : OB W B v l) (hg : W.grownBy W' row) (hr : ∀ r, row = some r → ∃ o : Obj, W.heap[r]? = some o ∧ o.isCells = false) : OB W' B v l := by
  obtain ⟨a, c, e, h1, h2, h3, h4⟩ := h.is
  refine ⟨a, c, e, h1, h2, h3, ?_⟩
  rcases h4 with h4 | ⟨g, ea, hb, hrow⟩
  · exact .inl h4
  · obtain ⟨cur, hcur, hx⟩ := hrow
    exact .inr ⟨g, ea, hb, cur, (grownBy_keeps_cells hg hr hcur rfl).trans hcur, hx⟩
/-- What stops behind others that were passed by. -/
theorem prefix_fin {n : Nat} {pre : List (Fin n)} {x : Fin n} (h : pre ++ [x] <+: List.finRange n) : ∀ y : Fin n, y.1 < x.1 → y ∈ pre := by
  obtain ⟨t, ht⟩ := h
  have hlen : pre.length < n := by
    have := congrArg List.length ht
    simp at this
    omega
  have hx : x.1 = pre.length := by
    have e1 : (List.finRange n)[pre.length]? = some x := by rw [← ht, List.append_assoc, List.getElem?_append_right (Nat.le_refl _)]; simp
    rw [List.getElem?_eq_getElem (by simpa using hlen)] at e1
    simp at e1
    rw [← e1]
  intro y hy
  have e2 : (List.finRange n)[y.1]? = some y := by rw [List.getElem?_eq_getElem (by simp)]; simp
  rw [← ht, List.append_assoc, List.getElem?_append_left (by omega)] at e2
  exact List.mem_of_getElem? e2
/-- Writes that are passed by. -/
theorem lastW_pass {l : List (Int × List Int)} {n : Int} {i : Nat} : ∀ {k : Nat}, i ≤ k → k ≤ l.length → (∀ j, i ≤ j → j < k → (l.getD j (0, [])).1 ≠ n) → lastW l n k = lastW l n i
  | 0, h, _, _ => by rw [show i = 0 by omega]
  | k + 1, h, hl, hm => by
    by_cases e : i = k + 1
    · rw [e]
    · have h1 := hm k (by omega) (by omega)
      have hk : k < l.length := by omega
      rw [lastW_miss hk (by simpa [hk] using h1)]
      exact lastW_pass (by omega) (by omega) (fun j hj hj' => hm j hj (by omega))

set_option maxHeartbeats 1000000 in
theorem hasSec_any (v : Value) (D : PDisk) (n : Int) (w : World) (h : KView w v D) :
    Calls Try.prog 37 #[v, .int .i64 n] w fun e w' => ∃ r : Bool, e = .returned (.bool r) ∧ (r = true ↔ HasS D n) ∧ Below w.heap.size w w' := by
  obtain ⟨sa, sc, ca, cc, fa, fc, rfl, -, -, -⟩ := h.is
  clear h
  have hb : Below w.heap.size w (w.alloc (.cells #[.slice sa D.secs.length sc, .slice ca D.cache.length cc, .int .i64 D.ops, .slice fa D.faults.length fc, .bool D.down] 34)) := (Below.refl _ _).alloc (Nat.le_refl _) _
  by_cases h0 : 0 ≤ n
  · go_enter Try.func37, Try.ntmps37
    go_wp2
    go_ret
    exact ⟨decide (n < D.secs.length), rfl, by simp [HasS, h0], hb⟩
  · go_enter Try.func37, Try.ntmps37
    go_wp2
    go_ret
    exact .inl ⟨rfl, fun h => by have := h.1; omega, hb⟩

set_option linter.unusedSimpArgs false in
set_option maxRecDepth 100000 in
set_option maxHeartbeats 4000000 in
theorem implReadSec_any (v : Value) (D : PDisk) (n : Int) (w : World) (h : KView w v D) (hf : KFine D) :
    Calls Try.prog 12 #[v, .int .i64 n] w (ReadTo w D n) := by
  have HK : Hid (KView w v D ∧ KFine D) := ⟨h, hf⟩
  obtain ⟨sa, sc, ca, cc, fa, fc, rfl, hs, hc, -⟩ := h.is
  have HS : Hid (SView w sa sc D.secs) := hs
  obtain ⟨us, hus, hlv⟩ := wcells_of hc
  have hns := hf.ns
  have hnc := hf.nc
  have HL : Hid ((∀ i (hi : i < D.cache.length), LV w (us i) (D.cache[i]).2) ∧ KFine D) := ⟨hlv, hf⟩
  clear h hf hs hc hlv
  obtain ⟨fn, hfn⟩ : ∃ fn : Nat → Int, Hid (fn = fun i => (D.cache.getD i (0, [])).1) := ⟨_, rfl⟩
  rw [← hfn.out] at hus
  have hB0 : Below w.heap.size w ((((w.alloc (.cells #[.slice sa D.secs.length sc, .slice ca D.cache.length cc, .int .i64 D.ops, .slice fa D.faults.length fc, .bool D.down] 34)).alloc (.cells #[.int .i64 n] 3)).alloc (.cells #[.slice none 0 0] 28)).alloc (.cells #[.bool false] 4)) := ((((Below.refl _ _).alloc (Nat.le_refl _) _).alloc (by simp) _).alloc (by simp; omega) _).alloc (by simp; omega) _
  refine (callsIn_wide (n := 6)).1 ?_
  refine callsIn_of_wp_marks Try.func12 rfl trivial ?_ rfl
  simp only [Try.ntmps12, List.size_toArray, List.length_cons, List.length_nil, Nat.reduceAdd, Nat.reduceSub, Array.replicate_succ, Array.replicate_zero, List.push_toArray, List.append_toArray, List.nil_append, List.cons_append]
  have hH := fun W (hb : Below w.heap.size w W) => hasSec_any _ D n W (HK.out.1.below hb)
  have bD := (((VN.new w 34 [.slice sa D.secs.length sc, .slice ca D.cache.length cc, .int .i64 D.ops, .slice fa D.faults.length fc, .bool D.down]).below ((Below.refl _ _).alloc (Nat.le_refl _) (.cells #[.int .i64 n] 3))).below ((Below.refl _ _).alloc (Nat.le_refl _) (.cells #[.slice none 0 0] 28))).below ((Below.refl _ _).alloc (Nat.le_refl _) (.cells #[.bool false] 4))
  have bN := ((VN.new (w.alloc (.cells #[.slice sa D.secs.length sc, .slice ca D.cache.length cc, .int .i64 D.ops, .slice fa D.faults.length fc, .bool D.down] 34)) 3 [.int .i64 n]).below ((Below.refl _ _).alloc (Nat.le_refl _) (.cells #[.slice none 0 0] 28))).below ((Below.refl _ _).alloc (Nat.le_refl _) (.cells #[.bool false] 4))
  have bR := (VN.new ((w.alloc (.cells #[.slice sa D.secs.length sc, .slice ca D.cache.length cc, .int .i64 D.ops, .slice fa D.faults.length fc, .bool D.down] 34)).alloc (.cells #[.int .i64 n] 3)) 28 [.slice none 0 0]).below ((Below.refl _ _).alloc (Nat.le_refl _) (.cells #[.bool false] 4))
  have bQ := VN.new (((w.alloc (.cells #[.slice sa D.secs.length sc, .slice ca D.cache.length cc, .int .i64 D.ops, .slice fa D.faults.length fc, .bool D.down] 34)).alloc (.cells #[.int .i64 n] 3)).alloc (.cells #[.slice none 0 0] 28)) 4 [.bool false]
  simp only [World.size_alloc] at bN bR bQ
  by_cases hr : HasS D n
  case neg =>
    have HR : Hid (¬ HasS D n) := hr
    gi_wp2_with (refine ⟨trivial, ?_⟩; gi_at_call 37; refine (callsIn_wide.2 (hH _ hB0)).mono ?_; rintro e w1 ⟨r, rfl, hr1, hb1⟩; obtain rfl : r = false := (by cases r with | false => rfl | true => exact absurd (hr1.1 rfl) hr); clear hr1; have bR1 := (bR.below hb1).below ((Below.refl _ _).alloc (Nat.le_refl _) (.cells #[] 5)); have cR : (w1.alloc (.cells #[] 5)).cell? ⟨w.heap.size + 1 + 1, 0, none⟩ = some (.slice none 0 0) := bR1.cell 0; have fR := bR1.fz 0; have bQ1 := ((bQ.below hb1).below ((Below.refl _ _).alloc (Nat.le_refl _) (.cells #[] 5))).other (C := w.heap.size + 1 + 1) (i := 0) (u := .slice (some ⟨w1.heap.size, 0, none⟩) 0 0) (by omega); have cQ : ((w1.alloc (.cells #[] 5)).setCell ⟨w.heap.size + 1 + 1, 0, none⟩ (.slice (some ⟨w1.heap.size, 0, none⟩) 0 0)).cell? ⟨w.heap.size + 1 + 1 + 1, 0, none⟩ = some (.bool false) := bQ1.cell 0; have fQ := bQ1.fz 0)
    have c4 := (bR1.set 0 (.slice (some ⟨w1.heap.size, 0, none⟩) 0 0)).other (C := w.heap.size + 1 + 1 + 1) (i := 0) (u := .bool false) (by omega)
    have c5 := bQ1.set 0 (.bool false)
    simp only [List.set] at c4 c5
    have c4' : (((w1.alloc (.cells #[] 5)).setCell ⟨w.heap.size + 1 + 1, 0, none⟩ (.slice (some ⟨w1.heap.size, 0, none⟩) 0 0)).setCell ⟨w.heap.size + 1 + 1 + 1, 0, none⟩ (.bool false)).cell? ⟨w.heap.size + 1 + 1, 0, none⟩ = some (.slice (some ⟨w1.heap.size, 0, none⟩) 0 0) := c4.cell 0
    have c5' : (((w1.alloc (.cells #[] 5)).setCell ⟨w.heap.size + 1 + 1, 0, none⟩ (.slice (some ⟨w1.heap.size, 0, none⟩) 0 0)).setCell ⟨w.heap.size + 1 + 1 + 1, 0, none⟩ (.bool false)).cell? ⟨w.heap.size + 1 + 1 + 1, 0, none⟩ = some (.bool false) := c5.cell 0
    have hBB : Below w.heap.size w w1 := hB0.trans (hb1.mono hB0.size)
    refine ⟨.tuple #[.slice (some ⟨w1.heap.size, 0, none⟩) 0 0, .bool false], ?_, _, false, rfl, by simpa using HR.out, by rw [readB_none HR.out]; exact ⟨_, 0, rfl, Nat.le_refl _, (fun e => by cases e), by simp, .inl rfl⟩, ((hBB.alloc hBB.size _).setCell (p := ⟨w.heap.size + 1 + 1, 0, none⟩) (by show w.heap.size ≤ w.heap.size + 1 + 1; omega) _).setCell (p := ⟨w.heap.size + 1 + 1 + 1, 0, none⟩) (by show w.heap.size ≤ w.heap.size + 1 + 1 + 1; omega) _⟩
    simp [results, Try.f12, go_sem, c4', c5']
  have HR : Hid (HasS D n) := hr
  gi_wp2_with (first
    | (refine ⟨trivial, ?_⟩; gi_at_call 37; refine (callsIn_wide.2 (hH _ hB0)).mono ?_; rintro e w1 ⟨r, rfl, hr1, hb1⟩; obtain rfl : r = true := hr1.2 hr; clear hr1; have bD1 := bD.below hb1; have d1 : w1.cell? ⟨w.heap.size, 1, none⟩ = some (.slice ca D.cache.length cc) := bD1.cell 1)
    | (refine ⟨trivial, ?_⟩; gi_at_call 38; refine (backward_in _ _ _ _ _).mono ?_; rintro e w' ⟨rfl, rfl⟩))
  have bN1 := bN.below hb1
  have bR1 := bR.below hb1
  have bQ1 := bQ.below hb1
  have hs0 := hb1.size
  simp only [World.size_alloc] at hs0
  have hBB : Below w.heap.size w w1 := hB0.trans (hb1.mono hB0.size)
  have hbA : Below w1.heap.size w1 (w1.alloc (.cells #[.slice ca D.cache.length cc] 31)) := (Below.refl _ _).alloc (Nat.le_refl _) _
  have bD2 := bD1.below hbA
  have bN2 := bN1.below hbA
  have bR2 := bR1.below hbA
  have bQ2 := bQ1.below hbA
  have bL := Boxed.new w1 31 (.slice ca D.cache.length cc)
  have hsz : (w1.alloc (.cells #[.slice ca D.cache.length cc] 31)).heap.size = w1.heap.size + 1 := by simp
  have hB2 : Below w.heap.size w (w1.alloc (.cells #[.slice ca D.cache.length cc] 31)) := hBB.trans (hbA.mono hBB.size)
  clear d1 hH bD bN bR bQ bD1 bN1 bR1 bQ1 hb1 hB0
  obtain ⟨W0, hW0⟩ : ∃ W0, w1.alloc (.cells #[.slice ca D.cache.length cc] 31) = W0 := ⟨_, rfl⟩
  rw [hW0] at hbA bD2 bN2 bR2 bQ2 bL hsz hB2 ⊢
  clear hW0
  have husA := hus.below hBB
  obtain ⟨A, hA⟩ : ∃ A, w1.heap.size = A := ⟨_, rfl⟩
  rw [hA] at bL hsz hs0 hbA ⊢
  have husB : WCells w1 ca D.cache.length fn us := husA
  have hbA' : Below w1.heap.size w1 W0 := by rw [hA]; exact hbA
  refine wpIn_rangeFunc_ownH rfl (by decide) (gf := 79) (lb := #[.pointer (some ⟨A, 0, none⟩)]) rfl trivial (enters_of Try.func79 (by kernel_rfl) rfl)
    (back_stops (6 - 1) (by decide) A ca D.cache.length cc fn us w1 husB (by omega) W0 hbA' bL) (fun h k => KpB.trans h k) (KpB.put (by omega) (by omega) (by omega)) (Below.refl _ _) (fun _ => rfl)
    (fun pre W => (∀ x ∈ pre, fn (D.cache.length - 1 - x.1) ≠ n) ∧ KpB w1.heap.size A A W0 W)
    (fun c pre W => c = .ret ∧ (∃ pre0 x v, (pre = pre0 ++ [x] ∧ (∀ y ∈ pre0, fn (D.cache.length - 1 - y.1) ≠ n) ∧ fn (D.cache.length - 1 - x.1) = n) ∧ VN W (w.heap.size + 1 + 1) 28 [v] ∧ VN W (w.heap.size + 1 + 1 + 1) 4 [.bool true] ∧ ∃ l, D.cache[D.cache.length - 1 - x.1]? = some l ∧ OB W w.heap.size v l.2) ∧ Below w.heap.size W0 W)
    (OwnFrom.and (fun s X Y row hs hg hr => hs) (ownFrom_kpB (by omega) (by omega) (by omega) (Nat.le_refl _)))
    (fun c s X Y row hs hg hr => ⟨hs.1, by obtain ⟨pre0, x, v, h1, h2, h3, l, h4, h5⟩ := hs.2.1; exact ⟨pre0, x, v, h1, h2.ownK hg (fun r e => (hr r e).2), h3.ownK hg (fun r e => (hr r e).2), l, h4, h5.ownK hg (fun r e => (hr r e).2)⟩, ownFrom_below (w₀ := W0) (n₀ := w.heap.size) (B := W0.heap.size) (β := Unit) (by omega) (by omega) () X Y row hs.2.2 hg hr⟩)
    ⟨(fun x hx => by cases hx), KpB.refl _ _ _ _⟩
    (fun x a' W => ∃ Bw, VN W Bw 59 [.int .i64 (fn (D.cache.length - 1 - x.1)), us (D.cache.length - 1 - x.1)] ∧ a' = { tmps := #[.agg #[.slice sa D.secs.length sc, .slice ca D.cache.length cc, .int .i64 D.ops, .slice fa D.faults.length fc, .bool D.down], .int .i64 n, .pointer (some ⟨w.heap.size, 0, none⟩), .pointer (some ⟨w.heap.size + 1, 0, none⟩), .pointer (some ⟨w.heap.size + 1 + 1, 0, none⟩), .pointer (some ⟨w.heap.size + 1 + 1 + 1, 0, none⟩), undef, .pointer (some ⟨Bw, 0, none⟩), .agg #[.slice sa D.secs.length sc, .slice ca D.cache.length cc, .int .i64 D.ops, .slice fa D.faults.length fc, .bool D.down], .int .i64 n, .bool true, .bool false, undef, .pointer (some ⟨w.heap.size, 1, none⟩), .slice ca D.cache.length cc, .func (.func 79) #[] #[.pointer (some ⟨A, 0, none⟩)], .int .i64 ((D.cache.length - 1 - x.1 : Nat) : Int), .agg #[.int .i64 (fn (D.cache.length - 1 - x.1)), us (D.cache.length - 1 - x.1)], undef, undef, undef, undef, undef, undef, undef, undef, undef, undef, undef, undef, undef], defers := [] })
    (fun x a' _ X Y row hs hg hr => by obtain ⟨Bw, h1, h3⟩ := hs; exact ⟨Bw, h1.ownK hg (fun r e => (hr r e).2), h3⟩)
    ?assign ?body ?done ?stop
  case assign =>
    rintro l pre x W K ⟨hall, hk⟩ hK
    have hi : D.cache.length - 1 - x.1 < D.cache.length := by have := x.2; omega
    obtain ⟨a3, c3, e3, -, -⟩ := (HL.out.1 _ hi).is
    have HE3 : Hid (us (D.cache.length - 1 - x.1) = .slice a3 (D.cache[D.cache.length - 1 - x.1]).2.length c3) := e3
    dsimp only [encK]
    rw [e3]
    clear e3
    gi_wp2
    have hbN : Below W.heap.size W (W.alloc (.cells #[.int .i64 (fn (D.cache.length - 1 - x.1)), .slice a3 (D.cache[D.cache.length - 1 - x.1]).2.length c3] 59)) := (Below.refl _ _).alloc (Nat.le_refl _) _
    have hs1 := hk.below.size
    have hkk := KpB.ofBelow (n₀ := w1.heap.size) (Bl := A) (Bv := A) hbN (by omega) (by omega) (by omega)
    refine hK _ _ (KeepsFrom.ofBelow hbN) hkk ⟨hall, hk.trans hkk⟩ ⟨W.heap.size, by rw [HE3.out]; exact VN.new W _ _, ?_⟩
    rw [HE3.out]
    try simp
  case body =>
    rintro l pre x a' W hl ⟨r, hr⟩ ⟨hall, hk⟩ ⟨Bw, bW, rfl⟩ hlt
    have hi : D.cache.length - 1 - x.1 < D.cache.length := by have := x.2; omega
    have hs1 := hk.below.size
    have bD3 := bD2.block (hk.below.block _ (by omega))
    have bN3 := bN2.block (hk.below.block _ (by omega))
    have bR3 := bR2.block (hk.below.block _ (by omega))
    have bQ3 := bQ2.block (hk.below.block _ (by omega))
    have cN : W.cell? ⟨w.heap.size + 1, 0, none⟩ = some (.int .i64 n) := bN3.cell 0
    have HA : Hid (∀ x ∈ pre, fn (D.cache.length - 1 - x.1) ≠ n) := hall
    have hBW : Below w.heap.size w W := hB2.trans (hk.below.mono (by omega))
    obtain ⟨a3, c3, e3, v3, n3⟩ := ((HL.out.1 _ hi).below hBW).is
    have hpl := HL.out.2.cache _ (List.getElem_mem hi)
    rw [e3] at bW
    have cW0 : W.cell? ⟨Bw, 0, none⟩ = some (.int .i64 (fn (D.cache.length - 1 - x.1))) := bW.cell 0
    have cW1 : W.cell? ⟨Bw, 1, none⟩ = some (.slice a3 (D.cache[D.cache.length - 1 - x.1]).2.length c3) := bW.cell 1
    clear hall hr
    by_cases hN : fn (D.cache.length - 1 - x.1) = n
    case neg =>
      have hq : (fn (D.cache.length - 1 - x.1) == n) = false := beq_eq_false_iff_ne.2 hN
      gi_wp2
      refine ⟨KeepsFrom.ofBelow (Below.refl _ _), KpB.refl _ _ _ _, fun y hy => ?_, hk⟩
      rcases List.mem_append.1 hy with hy | hy
      · exact HA.out y hy
      · simp at hy; subst hy; exact hN
    have HN : Hid (fn (D.cache.length - 1 - x.1) = n) := hN
    rw [hN] at cW0
    have hq : (n == n) = true := beq_self_eq_true _
    have hP := putSec_any a3 c3 _ W v3 n3 hpl
    have HX : Hid (D.cache[D.cache.length - 1 - x.1]? = some D.cache[D.cache.length - 1 - x.1]) := List.getElem?_eq_getElem hi
    obtain ⟨L, hL⟩ := hidEx D.cache[D.cache.length - 1 - x.1]
    rw [hL.out] at HX hP cW1 hpl
    obtain ⟨N3, hN3⟩ := hidEx L.2.length
    rw [hN3.out] at hP cW1 hpl
    clear hN v3
    gi_wp2_with (refine ⟨trivial, ?_⟩; gi_at_call 39; refine (CallsIn.inRound l (callsIn_wide.2 hP)).mono ?_; rintro e w2 ⟨rfl, hO2, hb2, -⟩; have bR4 := bR3.below hb2; have cR : w2.cell? ⟨w.heap.size + 1 + 1, 0, none⟩ = some (.slice none 0 0) := bR4.cell 0; have fR := bR4.fz 0; have bQ4 := (bQ3.below hb2).other (C := w.heap.size + 1 + 1) (i := 0) (u := .slice (some ⟨W.heap.size, 0, none⟩) N3 N3) (by omega); have cQ : (w2.setCell ⟨w.heap.size + 1 + 1, 0, none⟩ (.slice (some ⟨W.heap.size, 0, none⟩) N3 N3)).cell? ⟨w.heap.size + 1 + 1 + 1, 0, none⟩ = some (.bool false) := bQ4.cell 0; have fQ := bQ4.fz 0)
    have c4 := (bR4.set 0 (.slice (some ⟨W.heap.size, 0, none⟩) N3 N3)).other (C := w.heap.size + 1 + 1 + 1) (i := 0) (u := .bool true) (by omega)
    have c5 := bQ4.set 0 (.bool true)
    simp only [List.set] at c4 c5
    have hOO : OB ((w2.setCell ⟨w.heap.size + 1 + 1, 0, none⟩ (.slice (some ⟨W.heap.size, 0, none⟩) N3 N3)).setCell ⟨w.heap.size + 1 + 1 + 1, 0, none⟩ (.bool true)) w.heap.size (.slice (some ⟨W.heap.size, 0, none⟩) N3 N3) L.2 := ((hO2.up (Up.set (by omega))).up (Up.set (by omega))).mono (by omega)
    refine ⟨((KeepsFrom.ofBelow hb2).trans ((KeepsOthers.setCell _ _ _).from _)).trans ((KeepsOthers.setCell _ _ _).from _), rfl, ⟨pre, x, _, ⟨rfl, HA.out, HN.out⟩, c4, c5, L, HX.out, hOO⟩, ?_⟩
    exact (((hk.below.mono (by omega)).trans (hb2.mono (by omega))).setCell (p := ⟨w.heap.size + 1 + 1, 0, none⟩) (by show w.heap.size ≤ w.heap.size + 1 + 1; omega) _).setCell (p := ⟨w.heap.size + 1 + 1 + 1, 0, none⟩) (by show w.heap.size ≤ w.heap.size + 1 + 1 + 1; omega) _
  case done =>
    rintro D' ys W hD rfl ⟨hall, hk⟩ hK
    have hs1 := hk.below.size
    have hBW : Below w.heap.size w W := hB2.trans (hk.below.mono (by omega))
    have bD3 := bD2.block (hk.below.block _ (by omega))
    have bN3 := bN2.block (hk.below.block _ (by omega))
    have bR3 := bR2.block (hk.below.block _ (by omega))
    have bQ3 := bQ2.block (hk.below.block _ (by omega))
    have cN : W.cell? ⟨w.heap.size + 1, 0, none⟩ = some (.int .i64 n) := bN3.cell 0
    have cD : W.cell? ⟨w.heap.size, 0, none⟩ = some (.slice sa D.secs.length sc) := bD3.cell 0
    obtain ⟨m, hm⟩ : ∃ m : Nat, n = m := ⟨n.toNat, by have := HR.out.1; omega⟩
    have hml : m < D.secs.length := by have := HR.out.2; omega
    have HB : Hid (readB D n = D.secs[m]) := by
      show _ = _
      have hl0 : lastW D.cache n D.cache.length = none := by
        rw [lastW_pass (i := 0) (Nat.zero_le _) (Nat.le_refl _) (fun j _ hj => ?_)]
        · rfl
        · have := hall ⟨D.cache.length - 1 - j, by omega⟩ (List.mem_finRange _)
          rw [hfn.out] at this
          have e : D.cache.length - 1 - (D.cache.length - 1 - j) = j := by omega
          simpa only [e] using this
      subst hm
      exact readB_sec HR.out hl0 hml
    obtain ⟨b1, o1, a3, c3, esa, hb1', x0, v3, n3⟩ := sview_at (sview_below HS.out hBW) hml
    have hpl := HL.out.2.sec _ (List.getElem_mem hml)
    have hP := putSec_any a3 c3 _ W v3 n3 hpl
    rw [esa] at cD
    obtain ⟨L, hL⟩ := hidEx D.secs[m]
    rw [hL.out] at HB hP x0 hpl
    obtain ⟨N3, hN3⟩ := hidEx L.length
    rw [hN3.out] at hP x0 hpl
    rw [hm] at cN
    have hmz : (m : Int) < (D.secs.length : Int) := by omega
    clear hall v3
    gi_wp2_with (refine ⟨trivial, ?_⟩; gi_at_call 39; refine (callsIn_wide.2 hP).mono ?_; rintro e w2 ⟨rfl, hO2, hb2, -⟩; have bR4 := bR3.below hb2; have cR : w2.cell? ⟨w.heap.size + 1 + 1, 0, none⟩ = some (.slice none 0 0) := bR4.cell 0; have fR := bR4.fz 0; have bQ4 := (bQ3.below hb2).other (C := w.heap.size + 1 + 1) (i := 0) (u := .slice (some ⟨W.heap.size, 0, none⟩) N3 N3) (by omega); have cQ : (w2.setCell ⟨w.heap.size + 1 + 1, 0, none⟩ (.slice (some ⟨W.heap.size, 0, none⟩) N3 N3)).cell? ⟨w.heap.size + 1 + 1 + 1, 0, none⟩ = some (.bool false) := bQ4.cell 0; have fQ := bQ4.fz 0)
    have c4 := (bR4.set 0 (.slice (some ⟨W.heap.size, 0, none⟩) N3 N3)).other (C := w.heap.size + 1 + 1 + 1) (i := 0) (u := .bool true) (by omega)
    have c5 := bQ4.set 0 (.bool true)
    simp only [List.set] at c4 c5
    have hOO : OB ((w2.setCell ⟨w.heap.size + 1 + 1, 0, none⟩ (.slice (some ⟨W.heap.size, 0, none⟩) N3 N3)).setCell ⟨w.heap.size + 1 + 1 + 1, 0, none⟩ (.bool true)) w.heap.size (.slice (some ⟨W.heap.size, 0, none⟩) N3 N3) L := ((hO2.up (Up.set (by omega))).up (Up.set (by omega))).mono (by omega)
    have hDl : D' < W.heap.size := (Array.getElem?_eq_some_iff.1 hK).1
    have hK2 : w2.heap[D']? = some (.deferred (some [])) := (hb2.block D' hDl).trans hK
    have hK' := (KeepsOthers.setCell (w2.setCell ⟨w.heap.size + 1 + 1, 0, none⟩ (.slice (some ⟨W.heap.size, 0, none⟩) N3 N3)) ⟨w.heap.size + 1 + 1 + 1, 0, none⟩ (.bool true)).same D' _ ((KeepsOthers.setCell w2 ⟨w.heap.size + 1 + 1, 0, none⟩ (.slice (some ⟨W.heap.size, 0, none⟩) N3 N3)).same D' _ hK2 rfl) rfl
    have c4' : ((w2.setCell ⟨w.heap.size + 1 + 1, 0, none⟩ (.slice (some ⟨W.heap.size, 0, none⟩) N3 N3)).setCell ⟨w.heap.size + 1 + 1 + 1, 0, none⟩ (.bool true)).cell? ⟨w.heap.size + 1 + 1, 0, none⟩ = some (.slice (some ⟨W.heap.size, 0, none⟩) N3 N3) := c4.cell 0
    have c5' : ((w2.setCell ⟨w.heap.size + 1 + 1, 0, none⟩ (.slice (some ⟨W.heap.size, 0, none⟩) N3 N3)).setCell ⟨w.heap.size + 1 + 1 + 1, 0, none⟩ (.bool true)).cell? ⟨w.heap.size + 1 + 1 + 1, 0, none⟩ = some (.bool true) := c5.cell 0
    have hbe : Below w.heap.size w ((w2.setCell ⟨w.heap.size + 1 + 1, 0, none⟩ (.slice (some ⟨W.heap.size, 0, none⟩) N3 N3)).setCell ⟨w.heap.size + 1 + 1 + 1, 0, none⟩ (.bool true)) := ((hBW.trans (hb2.mono hBW.size)).setCell (p := ⟨w.heap.size + 1 + 1, 0, none⟩) (by show w.heap.size ≤ w.heap.size + 1 + 1; omega) _).setCell (p := ⟨w.heap.size + 1 + 1 + 1, 0, none⟩) (by show w.heap.size ≤ w.heap.size + 1 + 1 + 1; omega) _
    refine ⟨by simp, .inl ⟨_, _, rfl, run_takeDeferred hK', ?_⟩⟩
    have d4 := cell_kept c4' (grownBy_putObj' _ D' (.deferred none)) (fun r e => by cases e; exact ⟨_, hK', rfl⟩)
    have d5 := cell_kept c5' (grownBy_putObj' _ D' (.deferred none)) (fun r e => by cases e; exact ⟨_, hK', rfl⟩)
    refine ⟨.tuple #[(.slice (some ⟨W.heap.size, 0, none⟩) N3 N3), .bool true], ?_, _, true, rfl, by simpa using HR.out, by rw [HB.out]; exact hOO.ownK (grownBy_putObj' _ D' (.deferred none)) (fun r e => by cases e; exact ⟨_, hK', rfl⟩), Below.put' hbe (by omega) hK'⟩
    simp [results, Try.f12, go_sem, d4, d5]
  case stop =>
    rintro D' c pre W hD hpre ⟨rfl, ⟨pre0, x, v, ⟨rfl, hno, hx⟩, bV, bT, L, hL, hO⟩, hk⟩ hK
    have HB : Hid (readB D n = L.2) := by
      show _ = _
      refine readB_hit HR.out ?_
      have hi : D.cache.length - 1 - x.1 < D.cache.length := by have := x.2; omega
      rw [lastW_pass (i := D.cache.length - 1 - x.1 + 1) (by omega) (Nat.le_refl _) (fun j hj hj' => ?_)]
      · rw [lastW_hit hi ?_]
        · rw [List.getElem?_eq_getElem hi] at hL
          rw [Option.some.inj hL]
        · rw [hfn.out] at hx
          simpa [hi] using hx
      · have := hno ⟨D.cache.length - 1 - j, by omega⟩ (prefix_fin hpre _ (by show D.cache.length - 1 - j < x.1; omega))
        rw [hfn.out] at this
        have e : D.cache.length - 1 - (D.cache.length - 1 - j) = j := by omega
        simpa only [e] using this
    have hk0 := hB2.trans hk
    clear hno hx hpre hL hk
    gi_wp2
    have c4' : W.cell? ⟨w.heap.size + 1 + 1, 0, none⟩ = some v := bV.cell 0
    have c5' : W.cell? ⟨w.heap.size + 1 + 1 + 1, 0, none⟩ = some (.bool true) := bT.cell 0
    refine ⟨by simp, .inl ⟨_, _, rfl, run_takeDeferred hK, ?_⟩⟩
    have d4 := cell_kept c4' (grownBy_putObj' _ D' (.deferred none)) (fun r e => by cases e; exact ⟨_, hK, rfl⟩)
    have d5 := cell_kept c5' (grownBy_putObj' _ D' (.deferred none)) (fun r e => by cases e; exact ⟨_, hK, rfl⟩)
    have h1 : v.oneCell' = true := by
      obtain ⟨a', c', rfl, -⟩ := hO.is
      rfl
    refine ⟨.tuple #[v, .bool true], ?_, _, true, rfl, by simpa using HR.out, by rw [HB.out]; exact hO.ownK (grownBy_putObj' _ D' (.deferred none)) (fun r e => by cases e; exact ⟨_, hK, rfl⟩), Below.put' hk0 (by omega) hK⟩
    simp [results, Try.f12, go_sem, d4, d5, h1]
end Go.Proofs.Ytphipmhibegbnaa

/-
  What ReadSec comes to, as bytes and a bool; how many bytes.
-/
namespace Go.Proofs.Ytphipmhibegbnaa
open Go.RowKit
set_option maxRecDepth 4000

def hasB (D : PDisk) (n : Int) : Bool := decide (0 ≤ n ∧ n < D.secs.length)
theorem hasB_iff (D : PDisk) (n : Int) : hasB D n = true ↔ HasS D n := by simp [hasB, HasS]
theorem ReadTo.bto {w w' : World} {D : PDisk} {n : Int} {e : Ending} (h : ReadTo w D n e w') : BTo w (readB D n) (hasB D n) e w' := by
  obtain ⟨v, ok, rfl, hok, hO, hb⟩ := h
  have : ok = hasB D n := by
    rw [Bool.eq_iff_iff, hok, hasB_iff]
  subst this
  exact ⟨v, rfl, hO.oz, hb⟩
theorem lastW_mem {l : List (Int × List Int)} {n : Int} : ∀ {k : Nat} {b : List Int}, lastW l n k = some b → ∃ x ∈ l, x.2 = b
  | 0, b, h => by cases h
  | k + 1, b, h => by
    rw [lastW] at h
    split at h
    · obtain ⟨x, hx, rfl⟩ := Option.map_eq_some_iff.1 h
      exact ⟨x, List.mem_of_getElem? hx, rfl⟩
    · exact lastW_mem h
theorem readB_len {D : PDisk} (hf : KFine D) (n : Int) : (readB D n).length ≤ 1048576 := by
  unfold readB
  split
  · rename_i hn
    cases hl : lastW D.cache n D.cache.length with
    | some b =>
      obtain ⟨x, hx, rfl⟩ := lastW_mem hl
      exact hf.cache x hx
    | none =>
      have hi : n.toNat < D.secs.length := by omega
      have e : (Option.none.getD (D.secs.getD n.toNat []) : List Int) = D.secs[n.toNat] := by simp [hi]
      rw [e]
      exact hf.sec _ (List.getElem_mem hi)
  · simp
end Go.Proofs.Ytphipmhibegbnaa

/-
  The law FnExactReadSec.
-/
namespace Go.Proofs.Ytphipmhibegbnaa
open Go.RowKit
set_option maxRecDepth 4000

theorem lawReadSec (v : Value) (D : PDisk) (n : Int) (w : World) (h : KView w v D) (hm : KLim D) :
    Calls Try.prog 3 #[v, .int .i64 n] w fun e w' => e = .returned (.bool true) ∧ Below w.heap.size w w' :=
  lawReadSecOf v D n (readB D n) (hasB D n) w h hm (fun W u hf hu => (specReadSec_any u D n W hu hf).mono (fun _ _ h => h.bto)) (fun W u hf hu => (implReadSec_any u D n W hu hf).mono (fun _ _ h => h.bto)) (fun hf => readB_len hf n)
end Go.Proofs.Ytphipmhibegbnaa

