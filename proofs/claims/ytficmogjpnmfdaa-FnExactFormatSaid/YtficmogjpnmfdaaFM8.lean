/-
  Together: DiskOwnC, DiskNewS, UpFive, FormatK, MetaOkW, NumsL, OView, NodeNums, TwoNums, MetaPut
-/
import Derived.Test.YtficmogjpnmfdaaFM6
import Derived.Test.YtficmogjpnmfdaaFM7
import Derived.Test.YtficmogjpnmfdaaFM3
import Derived.Test.YtficmogjpnmfdaaFM4
import Derived.Test.YtficmogjpnmfdaaFM2
import Derived.Test.YtficmogjpnmfdaaFM1
import Derived.Test.YtficmogjpnmfdaaProg
/-
  A disk of the call's own whose cache and faults may grow in place.
-/
namespace Go.Proofs.Ytficmogjpnmfdaa
open Go.RowKit
set_option maxRecDepth 4000

def KOC (w : World) (B : Nat) (v : Value) (D : PDisk) : Prop := ∃ sa sc ca cc fa fc ss cs, v = dval D sa sc ca cc fa fc ∧ KO w B sa sc ca cc fa fc ss cs D ∧ w.ownsRow B 71 2 (.slice ca D.cache.length cc) D.cache.length (wcells D.cache cs) ∧ w.ownsRow B 60 3 (.slice fa D.faults.length fc) D.faults.length (fcells D.faults)
theorem own_rlF {W : World} {base T c N cap : Nat} {a : Option Addr} {xs : List Value} (h : W.ownsRow base T c (.slice a N cap) N xs) : RL T W base a xs := by
  obtain ⟨a', c', e, -, -, h3⟩ := own_rl h
  cases e
  exact h3
theorem KOC.own {w : World} {B : Nat} {v : Value} {D : PDisk} (h : KOC w B v D) : KOwn w B v D := by
  obtain ⟨sa, sc, ca, cc, fa, fc, ss, cs, e, hk, -⟩ := h
  exact ⟨sa, sc, ca, cc, fa, fc, ss, cs, e, hk⟩
end Go.Proofs.Ytficmogjpnmfdaa

/-
  The model's DiskNew.
-/
namespace Go.Proofs.Ytficmogjpnmfdaa
open Go.RowKit
set_option maxRecDepth 4000

/-- A new disk, or the zero one. -/
def NewOk (n : Int) (l : List PFault) : Prop := (4 ≤ n ∧ n ≤ 48) ∧ FaultsOk l
def zeroD : PDisk := ⟨[], [], 0, [], false⟩
def madeD (n : Nat) (l : List PFault) : PDisk := ⟨List.replicate n [], [], 0, l, false⟩
/-- What DiskNew comes to. -/
def NewTo (w : World) (n : Int) (l : List PFault) (e : Ending) (w' : World) : Prop := ∃ v', e = .returned v' ∧ Below w.heap.size w w' ∧ ((NewOk n l ∧ KOwn w' w.heap.size v' (madeD n.toNat l)) ∨ (¬ NewOk n l ∧ KOwn w' w.heap.size v' zeroD))
theorem zero_own (w : World) (B : Nat) : KOwn w B (.agg #[.slice none 0 0, .slice none 0 0, .int .i64 0, .slice none 0 0, .bool false]) zeroD :=
  ⟨none, 0, none, 0, none, 0, [], [], rfl, ⟨Nat.le_refl _, fun _ => rfl, Nat.le_refl _, fun _ => rfl, Nat.le_refl _, fun _ => rfl, rfl, rfl, .inl rfl, .inl rfl, .inl rfl, Bs.nil _ _⟩⟩

/-- The same, the cache's row being owned. -/
def NewToC (w : World) (n : Int) (l : List PFault) (e : Ending) (w' : World) : Prop := ∃ v', e = .returned v' ∧ Below w.heap.size w w' ∧ ((NewOk n l ∧ KOC w' w.heap.size v' (madeD n.toNat l)) ∨ (¬ NewOk n l ∧ KOC w' w.heap.size v' zeroD))
theorem NewToC.to {w : World} {n : Int} {l : List PFault} {e : Ending} {w' : World} (h : NewToC w n l e w') : NewTo w n l e w' := by
  obtain ⟨v, h0, h1, h2⟩ := h
  refine ⟨v, h0, h1, ?_⟩
  rcases h2 with ⟨h2, h3⟩ | ⟨h2, h3⟩
  · exact .inl ⟨h2, h3.own⟩
  · exact .inr ⟨h2, h3.own⟩
theorem zero_ownC (w : World) (B : Nat) : KOC w B (.agg #[.slice none 0 0, .slice none 0 0, .int .i64 0, .slice none 0 0, .bool false]) zeroD :=
  ⟨none, 0, none, 0, none, 0, [], [], rfl, ⟨Nat.le_refl _, fun _ => rfl, Nat.le_refl _, fun _ => rfl, Nat.le_refl _, fun _ => rfl, rfl, rfl, .inl rfl, .inl rfl, .inl rfl, Bs.nil _ _⟩, own_nilK _ _ _ _, own_nilK _ _ _ _⟩

/-- The answer's variable, and the new disk's. -/
structure TN (w W : World) (X : Nat) (zs ys : List Value) : Prop where
  below : Below w.heap.size w W
  r : VN W w.heap.size 35 zs
  o : VN W X 35 ys
  ge : w.heap.size < X
theorem TN.on {w W W' : World} {X : Nat} {zs ys : List Value} (h : TN w W X zs ys) (hb : Below W.heap.size W W') : TN w W' X zs ys :=
  ⟨h.below.trans (hb.mono h.below.size), h.r.below hb, h.o.below hb, h.ge⟩
theorem TN.grow {w W W' : World} {X T : Nat} {zs ys : List Value} {row : Option Nat} (h : TN w W X zs ys) (hg : W.grownBy W' row) (hr : ∀ k, row = some k → w.heap.size ≤ k) (hk : KeepT (fun t => t = T) W W') (hT : 35 ≠ T) : TN w W' X zs ys :=
  ⟨h.below.grown hg h.below.size hr, h.r.block (hk _ _ _ _ h.r hT), h.o.block (hk _ _ _ _ h.o hT), h.ge⟩
theorem TN.set {w W : World} {X : Nat} {zs ys : List Value} (h : TN w W X zs ys) (i : Nat) (u : Value) : TN w (W.setCell ⟨X, i, none⟩ u) X zs (ys.set i u) :=
  have hge := h.ge
  ⟨h.below.setCell (p := ⟨X, i, none⟩) (by simp; omega) _, h.r.other (by omega), h.o.set i u, h.ge⟩
theorem TN.ret {w W : World} {X : Nat} {zs ys : List Value} (h : TN w W X zs ys) (i : Nat) (u : Value) : TN w (W.setCell ⟨w.heap.size, i, none⟩ u) X (zs.set i u) ys :=
  have hge := h.ge
  ⟨h.below.setCell (p := ⟨w.heap.size, i, none⟩) (by simp) _, h.r.set i u, h.o.other (by omega), h.ge⟩

/-- k sectors without anything. -/
def N1 (w : World) (l : List PFault) (ga : Option Addr) (gc : Nat) (X : Nat) (k : Nat) (W : World) : Prop :=
  ∃ (v : Value) (ss : List Value), TN w W X [.slice none 0 0, .slice none 0 0, .int .i64 0, .slice none 0 0, .bool false] [v, .slice none 0 0, .int .i64 0, .slice ga l.length gc, .bool false] ∧ W.ownsRow w.heap.size 49 1 v k ss ∧ Bs W w.heap.size ss (List.replicate k []) ∧ W.ownsRow w.heap.size 60 3 (.slice ga l.length gc) l.length (fcells l)

set_option maxHeartbeats 8000000 in
theorem specDiskNew_own (n : Int) (a : Option Addr) (cap : Nat) (l : List PFault) (w : World) (h : FView w a cap l) (hn : l.length ≤ 1048576) :
    Calls Try.prog 28 #[.int .i64 n, .slice a l.length cap] w (NewToC w n l) := by
  obtain ⟨i0, hi, hz0, hz1, hz2⟩ := infoFault
  have hbA : Below w.heap.size w (w.alloc (.cells #[.slice none 0 0, .slice none 0 0, .int .i64 0, .slice none 0 0, .bool false] 35)) := (Below.refl _ _).alloc (Nat.le_refl _) _
  by_cases hr : 4 ≤ n ∧ n ≤ 48
  case neg =>
    have hV := fun W => l1In_no n 4 48 W (by omega)
    clear h
    go_enter Try.func28, Try.ntmps28
    go_wp2_with fail
    refine (hV _).mono ?_
    rintro e w1 ⟨rfl, rfl⟩
    clear hV
    go_wp2
    refine bodyPost_ret (v := .agg #[.slice none 0 0, .slice none 0 0, .int .i64 0, .slice none 0 0, .bool false]) (by simp [results, Try.results28, go_sem]) rfl ⟨_, rfl, hbA, .inr ⟨fun h => hr h.1, zero_ownC _ _⟩⟩
  have hV := fun W => l1In_yes n 4 48 W hr.1 hr.2
  have R0 := VN.new w 35 [.slice none 0 0, .slice none 0 0, .int .i64 0, .slice none 0 0, .bool false]
  have hF := l12Faults_any a cap l _ (fview_below h hbA) hn
  go_enter Try.func28, Try.ntmps28
  go_wp2_with fail
  refine (hV _).mono ?_
  rintro e w1 ⟨rfl, rfl⟩
  clear hV
  go_wp2_with fail
  refine hF.mono ?_
  rintro e w1 ⟨r, rfl, hrf, hb1⟩
  have HRF : Hid (r = true ↔ FaultsOk l) := hrf
  have hbw : Below w.heap.size w w1 := hbA.trans (hb1.mono hbA.size)
  have R1 := R0.below hb1
  clear hF hrf R0 hb1 hbA
  cases r
  · have r0 : w1.cell? ⟨w.heap.size, 0, none⟩ = some (.slice none 0 0) := R1.cell 0
    have r1 : w1.cell? ⟨w.heap.size, 1, none⟩ = some (.slice none 0 0) := R1.cell 1
    have r2 : w1.cell? ⟨w.heap.size, 2, none⟩ = some (.int .i64 0) := R1.cell 2
    have r3 : w1.cell? ⟨w.heap.size, 3, none⟩ = some (.slice none 0 0) := R1.cell 3
    have r4 : w1.cell? ⟨w.heap.size, 4, none⟩ = some (.bool false) := R1.cell 4
    have z0 := R1.fz 0
    have z1 := R1.fz 1
    have z2 := R1.fz 2
    have z3 := R1.fz 3
    have z4 := R1.fz 4
    have R9 := ((((R1.set 0 (.slice none 0 0)).set 1 (.slice none 0 0)).set 2 (.int .i64 0)).set 3 (.slice none 0 0)).set 4 (.bool false)
    simp only [List.set] at R9
    have HB : Hid (Below w.heap.size w (((((w1.setCell ⟨w.heap.size, 0, none⟩ (.slice none 0 0)).setCell ⟨w.heap.size, 1, none⟩ (.slice none 0 0)).setCell ⟨w.heap.size, 2, none⟩ (.int .i64 0)).setCell ⟨w.heap.size, 3, none⟩ (.slice none 0 0)).setCell ⟨w.heap.size, 4, none⟩ (.bool false))) := ((((hbw.setCell (p := ⟨w.heap.size, 0, none⟩) (by simp) _).setCell (p := ⟨w.heap.size, 1, none⟩) (by simp) _).setCell (p := ⟨w.heap.size, 2, none⟩) (by simp) _).setCell (p := ⟨w.heap.size, 3, none⟩) (by simp) _).setCell (p := ⟨w.heap.size, 4, none⟩) (by simp) _
    have m0 : (((((w1.setCell ⟨w.heap.size, 0, none⟩ (.slice none 0 0)).setCell ⟨w.heap.size, 1, none⟩ (.slice none 0 0)).setCell ⟨w.heap.size, 2, none⟩ (.int .i64 0)).setCell ⟨w.heap.size, 3, none⟩ (.slice none 0 0)).setCell ⟨w.heap.size, 4, none⟩ (.bool false)).cell? ⟨w.heap.size, 0, none⟩ = some (.slice none 0 0) := R9.cell 0
    have m1 : (((((w1.setCell ⟨w.heap.size, 0, none⟩ (.slice none 0 0)).setCell ⟨w.heap.size, 1, none⟩ (.slice none 0 0)).setCell ⟨w.heap.size, 2, none⟩ (.int .i64 0)).setCell ⟨w.heap.size, 3, none⟩ (.slice none 0 0)).setCell ⟨w.heap.size, 4, none⟩ (.bool false)).cell? ⟨w.heap.size, 1, none⟩ = some (.slice none 0 0) := R9.cell 1
    have m2 : (((((w1.setCell ⟨w.heap.size, 0, none⟩ (.slice none 0 0)).setCell ⟨w.heap.size, 1, none⟩ (.slice none 0 0)).setCell ⟨w.heap.size, 2, none⟩ (.int .i64 0)).setCell ⟨w.heap.size, 3, none⟩ (.slice none 0 0)).setCell ⟨w.heap.size, 4, none⟩ (.bool false)).cell? ⟨w.heap.size, 2, none⟩ = some (.int .i64 0) := R9.cell 2
    have m3 : (((((w1.setCell ⟨w.heap.size, 0, none⟩ (.slice none 0 0)).setCell ⟨w.heap.size, 1, none⟩ (.slice none 0 0)).setCell ⟨w.heap.size, 2, none⟩ (.int .i64 0)).setCell ⟨w.heap.size, 3, none⟩ (.slice none 0 0)).setCell ⟨w.heap.size, 4, none⟩ (.bool false)).cell? ⟨w.heap.size, 3, none⟩ = some (.slice none 0 0) := R9.cell 3
    have m4 : (((((w1.setCell ⟨w.heap.size, 0, none⟩ (.slice none 0 0)).setCell ⟨w.heap.size, 1, none⟩ (.slice none 0 0)).setCell ⟨w.heap.size, 2, none⟩ (.int .i64 0)).setCell ⟨w.heap.size, 3, none⟩ (.slice none 0 0)).setCell ⟨w.heap.size, 4, none⟩ (.bool false)).cell? ⟨w.heap.size, 4, none⟩ = some (.bool false) := R9.cell 4
    clear R1 R9 h hbw
    go_wp2
    refine bodyPost_ret (v := .agg #[.slice none 0 0, .slice none 0 0, .int .i64 0, .slice none 0 0, .bool false]) (by simp [results, Try.results28, go_sem, m0, m1, m2, m3, m4]) rfl ⟨_, rfl, HB.out, .inr ⟨fun h => (by have := HRF.out.2 h.2; cases this), zero_ownC _ _⟩⟩
  have hbE : Below w1.heap.size w1 (w1.alloc (.cells #[] 60)) := (Below.refl _ _).alloc (Nat.le_refl _) _
  have hO0 := own_emptyK w1 60 3
  have hbwE := hbw.trans (hbE.mono hbw.size)
  have hcl := fview_news (fview_below h hbwE)
  have hone := fcells_one l
  have hnil : a = none → l.length = 0 ∧ cap = 0 := fun e => by have h1 := h.nil e; have h2 := h.le; omega
  have hszE : w1.heap.size ≤ (w1.alloc (.cells #[] 60)).heap.size := by simp
  go_wp2_with (at_builtin; refine wpList_append_opt rfl (.tmp 16) (.tmp 17) 33 rfl w1.heap.size 60 i0 (.agg #[.int .i64 0, .int .i64 0, .int .i64 0]) 3 24 Try.underlying33 hi hz0 hz1 hz2 rfl (by decide) _ _ _ rfl hO0 a l.length cap (fcells l) rfl hnil (fcells_len l) hcl hone (by unfold maxLen; omega) (by omega) hszE ?_)
  intro v5 w5 hO5 hgr5
  have hk5 := keep_grown hO0 hgr5
  try rw [Nat.zero_add, List.nil_append] at hO5
  have R5 := (R1.below hbE).block (hk5 _ _ _ _ (R1.below hbE) (by decide))
  have hbw5 : Below w.heap.size w w5 := hbwE.grown hgr5 hbwE.size (fun k e => by have h1 := own_geK hO0 k e; have h2 := hbw.size; omega)
  obtain ⟨ga, gc, rfl, hg1, hg2, -⟩ := own_rl hO5
  have hF6 := own_monoK hO5 hbw.size
  clear hO5 hgr5 hk5 hO0 hcl hone hnil hszE hbE hbwE R1 h hbw hi hz0 hz1 hz2
  have hb6 : Below w5.heap.size w5 (w5.alloc (.cells #[.slice none 0 0, .slice none 0 0, .int .i64 0, .slice ga l.length gc, .bool false] 35)) := (Below.refl _ _).alloc (Nat.le_refl _) _
  have X6 := VN.new w5 35 [.slice none 0 0, .slice none 0 0, .int .i64 0, .slice ga l.length gc, .bool false]
  have HN0 : Hid (N1 w l ga gc w5.heap.size 0 (w5.alloc (.cells #[.slice none 0 0, .slice none 0 0, .int .i64 0, .slice ga l.length gc, .bool false] 35))) := ⟨_, [], ⟨hbw5.trans (hb6.mono hbw5.size), R5.below hb6, X6, by have := R5.lt; omega⟩, own_nilK _ _ _ _, Bs.nil _ _, own_upK hF6 (Up.ofBelow hb6)⟩
  have hnn : (n.toNat : Int) = n := by omega
  have hnb : n.toNat ≤ 48 := by omega
  obtain ⟨X, hX⟩ := hidEx w5.heap.size
  rw [hX.out] at HN0
  clear R5 hbw5 hF6 hb6 X6
  go_wp2_with fail
  rw [hX.out]
  go_loopg [6] n.toNat (fun q i wr => ∃ k : Nat, k ≤ n.toNat ∧ q = n.toNat - k ∧ i = .int .i64 k ∧ N1 w l ga gc X k wr)
  case atStart => exact ⟨0, Nat.zero_le _, rfl, rfl, HN0.out⟩
  case round =>
    clear HN0
    obtain ⟨i0, hi, hz0, hz1, hz2⟩ := infoSec
    obtain ⟨k, hk, rfl, rfl, vS, ss, hT, hO, hBs, hF⟩ := hrel
    have y0 : wr.cell? ⟨X, 0, none⟩ = some vS := hT.o.cell 0
    have y1 : wr.cell? ⟨X, 1, none⟩ = some (.slice none 0 0) := hT.o.cell 1
    have y2 : wr.cell? ⟨X, 2, none⟩ = some (.int .i64 0) := hT.o.cell 2
    have y3 : wr.cell? ⟨X, 3, none⟩ = some (.slice ga l.length gc) := hT.o.cell 3
    have y4 : wr.cell? ⟨X, 4, none⟩ = some (.bool false) := hT.o.cell 4
    by_cases hlt : k < n.toNat
    · have hkz : (k : Int) < n := by omega
      have hbA : Below wr.heap.size wr ((wr.alloc (.cells #[] 5)).alloc (.cells #[.slice (some ⟨wr.heap.size, 0, none⟩) 0 0] 49)) := ((Below.refl _ _).alloc (Nat.le_refl _) _).alloc (by simp) _
      have hcl : ∀ j u, [Value.slice (some ⟨wr.heap.size, 0, none⟩) 0 0][j]? = some u → ((wr.alloc (.cells #[] 5)).alloc (.cells #[.slice (some ⟨wr.heap.size, 0, none⟩) 0 0] 49)).cell? ((⟨wr.heap.size + 1, 0, none⟩ : Addr).add j) = some u := by
        intro j u hj
        match j, hj with
        | 0, hj => cases hj; simp [Addr.add]
      have hsz : w.heap.size ≤ ((wr.alloc (.cells #[] 5)).alloc (.cells #[.slice (some ⟨wr.heap.size, 0, none⟩) 0 0] 49)).heap.size := Nat.le_trans hT.below.size hbA.size
      have hnew := hBs.newer (g := wr.heap.size) (Nat.le_refl _)
      have hge := hT.below.size
      have hlt2 : wr.heap.size < ((wr.alloc (.cells #[] 5)).alloc (.cells #[.slice (some ⟨wr.heap.size, 0, none⟩) 0 0] 49)).heap.size := by simp; omega
      replace hO := own_upK hO (Up.ofBelow hbA)
      replace hT := hT.on hbA
      replace hF := own_upK hF (Up.ofBelow hbA)
      replace hBs := (hBs.up (Up.ofBelow hbA)).push (v := .slice (some ⟨wr.heap.size, 0, none⟩) 0 0) (l := []) ⟨some ⟨wr.heap.size, 0, none⟩, 0, rfl, Nat.le_refl _, (fun e => by cases e), by simp, .inl rfl⟩ (fun g e => by cases e; exact ⟨⟨hge, hlt2⟩, hnew⟩)
      clear hbA hnew hge hlt2
      go_wp2_with (at_builtin; refine wpList_append_own _ rfl (.tmp 26) (.tmp 28) 22 rfl w.heap.size 49 i0 (.slice none 0 0) 1 24 Try.underlying22 hi hz0 hz1 hz2 rfl (by decide) _ _ _ rfl hO ⟨wr.heap.size + 1, 0, none⟩ 1 1 [.slice (some ⟨wr.heap.size, 0, none⟩) 0 0] rfl rfl hcl (by intro u hu; simp at hu; subst hu; rfl) (by unfold maxLen; omega) (by omega) hsz ?_)
      intro v6 w6 hO6 hgr6 hnil6
      have hK6 := keep_grown hO hgr6
      replace hT := hT.grow hgr6 (own_geK hO) hK6 (by decide)
      replace hBs := hBs.keepT hK6 hgr6.size (by decide)
      replace hF := own_keepT hF hK6 (by decide)
      obtain ⟨b6, c6, rfl⟩ := own_succK hO6
      clear hO hgr6 hnil6 hcl hK6 y0 y1 y2 y3 y4 hsz
      have y0 : w6.cell? ⟨X, 0, none⟩ = some vS := hT.o.cell 0
      have q0 := hT.o.fz 0
      have hkS := keep_vn (P := fun t => t = 35) (i := 0) (u := .slice (some ⟨b6, 0, none⟩) (k + 1) c6) hT.o rfl
      replace hO6 := own_keepT hO6 hkS (by decide)
      replace hBs := hBs.keepT hkS (by simp) (by decide)
      replace hF := own_keepT hF hkS (by decide)
      replace hT := hT.set 0 (.slice (some ⟨b6, 0, none⟩) (k + 1) c6)
      simp only [List.set] at hT
      have HR : Hid (N1 w l ga gc X (k + 1) (w6.setCell ⟨X, 0, none⟩ (.slice (some ⟨b6, 0, none⟩) (k + 1) c6))) := ⟨_, _, hT, hO6, by rw [List.replicate_succ']; exact hBs, hF⟩
      clear hT hO6 hBs hF hkS
      go_wp2
      go_roundg (n.toNat - (k + 1))
      case measure => omega
      case rel => exact ⟨k + 1, by omega, rfl, by go_num, HR.out⟩
    · obtain rfl : k = n.toNat := by omega
      have hkz : ¬ ((n.toNat : Nat) : Int) < n := by omega
      obtain ⟨ta, tc, rfl, t1, t2, RS⟩ := own_rl hO
      have hssl : ss.length = n.toNat := by have := hO.1; omega
      have r0 : wr.cell? ⟨w.heap.size, 0, none⟩ = some (.slice none 0 0) := hT.r.cell 0
      have r1 : wr.cell? ⟨w.heap.size, 1, none⟩ = some (.slice none 0 0) := hT.r.cell 1
      have r2 : wr.cell? ⟨w.heap.size, 2, none⟩ = some (.int .i64 0) := hT.r.cell 2
      have r3 : wr.cell? ⟨w.heap.size, 3, none⟩ = some (.slice none 0 0) := hT.r.cell 3
      have r4 : wr.cell? ⟨w.heap.size, 4, none⟩ = some (.bool false) := hT.r.cell 4
      have z0 := hT.r.fz 0
      have z1 := hT.r.fz 1
      have z2 := hT.r.fz 2
      have z3 := hT.r.fz 3
      have z4 := hT.r.fz 4
      have T9 := ((((hT.ret 0 (.slice ta n.toNat tc)).ret 1 (.slice none 0 0)).ret 2 (.int .i64 0)).ret 3 (.slice ga l.length gc)).ret 4 (.bool false)
      simp only [List.set] at T9
      have m0 : (((((wr.setCell ⟨w.heap.size, 0, none⟩ (.slice ta n.toNat tc)).setCell ⟨w.heap.size, 1, none⟩ (.slice none 0 0)).setCell ⟨w.heap.size, 2, none⟩ (.int .i64 0)).setCell ⟨w.heap.size, 3, none⟩ (.slice ga l.length gc)).setCell ⟨w.heap.size, 4, none⟩ (.bool false)).cell? ⟨w.heap.size, 0, none⟩ = some (.slice ta n.toNat tc) := T9.r.cell 0
      have m1 : (((((wr.setCell ⟨w.heap.size, 0, none⟩ (.slice ta n.toNat tc)).setCell ⟨w.heap.size, 1, none⟩ (.slice none 0 0)).setCell ⟨w.heap.size, 2, none⟩ (.int .i64 0)).setCell ⟨w.heap.size, 3, none⟩ (.slice ga l.length gc)).setCell ⟨w.heap.size, 4, none⟩ (.bool false)).cell? ⟨w.heap.size, 1, none⟩ = some (.slice none 0 0) := T9.r.cell 1
      have m2 : (((((wr.setCell ⟨w.heap.size, 0, none⟩ (.slice ta n.toNat tc)).setCell ⟨w.heap.size, 1, none⟩ (.slice none 0 0)).setCell ⟨w.heap.size, 2, none⟩ (.int .i64 0)).setCell ⟨w.heap.size, 3, none⟩ (.slice ga l.length gc)).setCell ⟨w.heap.size, 4, none⟩ (.bool false)).cell? ⟨w.heap.size, 2, none⟩ = some (.int .i64 0) := T9.r.cell 2
      have m3 : (((((wr.setCell ⟨w.heap.size, 0, none⟩ (.slice ta n.toNat tc)).setCell ⟨w.heap.size, 1, none⟩ (.slice none 0 0)).setCell ⟨w.heap.size, 2, none⟩ (.int .i64 0)).setCell ⟨w.heap.size, 3, none⟩ (.slice ga l.length gc)).setCell ⟨w.heap.size, 4, none⟩ (.bool false)).cell? ⟨w.heap.size, 3, none⟩ = some (.slice ga l.length gc) := T9.r.cell 3
      have m4 : (((((wr.setCell ⟨w.heap.size, 0, none⟩ (.slice ta n.toNat tc)).setCell ⟨w.heap.size, 1, none⟩ (.slice none 0 0)).setCell ⟨w.heap.size, 2, none⟩ (.int .i64 0)).setCell ⟨w.heap.size, 3, none⟩ (.slice ga l.length gc)).setCell ⟨w.heap.size, 4, none⟩ (.bool false)).cell? ⟨w.heap.size, 4, none⟩ = some (.bool false) := T9.r.cell 4
      have KB : KeepT (fun t => t = 35) wr (((((wr.setCell ⟨w.heap.size, 0, none⟩ (.slice ta n.toNat tc)).setCell ⟨w.heap.size, 1, none⟩ (.slice none 0 0)).setCell ⟨w.heap.size, 2, none⟩ (.int .i64 0)).setCell ⟨w.heap.size, 3, none⟩ (.slice ga l.length gc)).setCell ⟨w.heap.size, 4, none⟩ (.bool false)) := (KeepT.trans (KeepT.trans (KeepT.trans (KeepT.trans (keep_vn (P := fun t => t = 35) (i := 0) (u := .slice ta n.toNat tc) hT.r rfl) (keep_vn (P := fun t => t = 35) (i := 1) (u := .slice none 0 0) (hT.ret 0 (.slice ta n.toNat tc)).r rfl)) (keep_vn (P := fun t => t = 35) (i := 2) (u := .int .i64 0) ((hT.ret 0 (.slice ta n.toNat tc)).ret 1 (.slice none 0 0)).r rfl)) (keep_vn (P := fun t => t = 35) (i := 3) (u := .slice ga l.length gc) (((hT.ret 0 (.slice ta n.toNat tc)).ret 1 (.slice none 0 0)).ret 2 (.int .i64 0)).r rfl)) (keep_vn (P := fun t => t = 35) (i := 4) (u := .bool false) ((((hT.ret 0 (.slice ta n.toNat tc)).ret 1 (.slice none 0 0)).ret 2 (.int .i64 0)).ret 3 (.slice ga l.length gc)).r rfl))
      have hsz9 : wr.heap.size ≤ (((((wr.setCell ⟨w.heap.size, 0, none⟩ (.slice ta n.toNat tc)).setCell ⟨w.heap.size, 1, none⟩ (.slice none 0 0)).setCell ⟨w.heap.size, 2, none⟩ (.int .i64 0)).setCell ⟨w.heap.size, 3, none⟩ (.slice ga l.length gc)).setCell ⟨w.heap.size, 4, none⟩ (.bool false)).heap.size := by simp
      have HR : Hid (KOC (((((wr.setCell ⟨w.heap.size, 0, none⟩ (.slice ta n.toNat tc)).setCell ⟨w.heap.size, 1, none⟩ (.slice none 0 0)).setCell ⟨w.heap.size, 2, none⟩ (.int .i64 0)).setCell ⟨w.heap.size, 3, none⟩ (.slice ga l.length gc)).setCell ⟨w.heap.size, 4, none⟩ (.bool false)) w.heap.size (.agg #[.slice ta n.toNat tc, .slice none 0 0, .int .i64 0, .slice ga l.length gc, .bool false]) (madeD n.toNat l) ∧ Below w.heap.size w (((((wr.setCell ⟨w.heap.size, 0, none⟩ (.slice ta n.toNat tc)).setCell ⟨w.heap.size, 1, none⟩ (.slice none 0 0)).setCell ⟨w.heap.size, 2, none⟩ (.int .i64 0)).setCell ⟨w.heap.size, 3, none⟩ (.slice ga l.length gc)).setCell ⟨w.heap.size, 4, none⟩ (.bool false))) := by
        refine ⟨⟨ta, tc, none, 0, ga, gc, ss, [], ?_, ⟨by simpa [madeD] using t1, t2, Nat.le_refl _, fun _ => rfl, hg1, hg2, by simpa [madeD] using hssl, rfl, RS.keepT KB (by decide), .inl rfl, own_rlF (own_keepT hF KB (by decide)), ?_⟩, own_nilK _ _ _ _, own_keepT hF KB (by decide)⟩, T9.below⟩
        · simp [dval, madeD]
        · simpa [madeD] using hBs.keepT KB hsz9 (by decide)
      clear T9 hT hO hBs hF RS KB
      go_wp2
      refine bodyPost_ret (v := .agg #[.slice ta n.toNat tc, .slice none 0 0, .int .i64 0, .slice ga l.length gc, .bool false]) (by simp [results, Try.results28, go_sem, m0, m1, m2, m3, m4]) rfl ⟨_, rfl, HR.out.2, .inl ⟨⟨hr, HRF.out.1 (by simp)⟩, HR.out.1⟩⟩
theorem specDiskNew_any (n : Int) (a : Option Addr) (cap : Nat) (l : List PFault) (w : World) (h : FView w a cap l) (hn : l.length ≤ 1048576) :
    Calls Try.prog 28 #[.int .i64 n, .slice a l.length cap] w (NewTo w n l) := (specDiskNew_own n a cap l w h hn).mono fun _ _ h => h.to
end Go.Proofs.Ytficmogjpnmfdaa

/-
  Five cells that are laid below a bound.
-/
namespace Go.Proofs.Ytficmogjpnmfdaa
open Go.RowKit
set_option maxRecDepth 4000

theorem Up.five {B R : Nat} {w : World} (v0 v1 v2 v3 v4 : Value) (h : R < B) : Up B w (((((w.setCell ⟨R, 0, none⟩ v0).setCell ⟨R, 1, none⟩ v1).setCell ⟨R, 2, none⟩ v2).setCell ⟨R, 3, none⟩ v3).setCell ⟨R, 4, none⟩ v4) :=
  ((((Up.set h).trans (Up.set h)).trans (Up.set h)).trans (Up.set h)).trans (Up.set h)
end Go.Proofs.Ytficmogjpnmfdaa

/-
  A disk with the first root, plainly; a sector of a new disk is written.
-/
namespace Go.Proofs.Ytficmogjpnmfdaa
open Go.RowKit
set_option maxRecDepth 4000

open Classical in
/-- What Format comes to. -/
noncomputable def fmtD (n : Int) (l : List PFault) : PDisk := if NewOk n l then { madeD n.toNat l with secs := (madeD n.toNat l).secs.set 0 (metaF 0 0) } else zeroD
theorem fmtD_yes {n : Int} {l : List PFault} {D : PDisk} (h : NewOk n l) (e : D = madeD n.toNat l) : fmtD n l = { D with secs := D.secs.set 0 (metaF 0 0) } := by unfold fmtD; rw [if_pos h, e]
theorem fmtD_no {n : Int} {l : List PFault} {D : PDisk} (h : ¬ NewOk n l) (e : D = zeroD) : fmtD n l = D := by unfold fmtD; rw [if_neg h, e]
theorem madeD_fine {n : Int} {l : List PFault} (h : NewOk n l) (hn : l.length ≤ 1048576) : KFine (madeD n.toNat l) := by
  obtain ⟨h1, h2⟩ := h
  exact ⟨by simp [madeD]; omega, fun x hx => by simp [madeD] at hx; simp [hx], by simp [madeD], fun x hx => by simp [madeD] at hx, hn⟩
theorem zeroD_fine : KFine zeroD := ⟨by simp [zeroD], fun x hx => by simp [zeroD] at hx, by simp [zeroD], fun x hx => by simp [zeroD] at hx, by simp [zeroD]⟩
theorem fmtD_fine (n : Int) (l : List PFault) (hn : l.length ≤ 1048576) : KFine (fmtD n l) := by
  unfold fmtD
  split
  · rename_i h
    have hf := madeD_fine h hn
    refine ⟨by simpa using hf.ns, fun x hx => ?_, hf.nc, hf.cache, hf.nf⟩
    rcases List.mem_or_eq_of_mem_set hx with hx | hx
    · exact hf.sec x hx
    · rw [hx]; have := metaF_len 0 0; omega
  · exact zeroD_fine
theorem newTo_cases {n : Int} {l : List PFault} {v : Value} {w : World} {B : Nat} (h : (NewOk n l ∧ KOwn w B v (madeD n.toNat l)) ∨ (¬ NewOk n l ∧ KOwn w B v zeroD)) : ∃ D, ((NewOk n l ∧ D = madeD n.toNat l ∧ 0 < D.secs.length ∧ (l.length ≤ 1048576 → KFine D)) ∨ (¬ NewOk n l ∧ D = zeroD ∧ KFine D)) ∧ KOwn w B v D := by
  rcases h with ⟨h, k⟩ | ⟨h, k⟩
  · exact ⟨_, .inl ⟨h, rfl, by have := h.1; simp [madeD]; omega, madeD_fine h⟩, k⟩
  · exact ⟨_, .inr ⟨h, rfl, zeroD_fine⟩, k⟩
theorem zero_notOk : ¬ OkD zeroD := fun h => by have := h.1.1; simp [zeroD] at this
theorem ret5_vnF {W : World} {R : Nat} {z0 z1 z2 z3 z4 : Value} (v0 v1 v2 v3 v4 : Value) (h : VN W R 35 [z0, z1, z2, z3, z4]) : VN (((((W.setCell ⟨R, 0, none⟩ v0).setCell ⟨R, 1, none⟩ v1).setCell ⟨R, 2, none⟩ v2).setCell ⟨R, 3, none⟩ v3).setCell ⟨R, 4, none⟩ v4) R 35 [v0, v1, v2, v3, v4] := by
  have := ((((h.set 0 v0).set 1 v1).set 2 v2).set 3 v3).set 4 v4
  simpa only [List.set] using this
theorem five_below {w W : World} {n R : Nat} (v0 v1 v2 v3 v4 : Value) (h : Below n w W) (hR : n ≤ R) : Below n w (((((W.setCell ⟨R, 0, none⟩ v0).setCell ⟨R, 1, none⟩ v1).setCell ⟨R, 2, none⟩ v2).setCell ⟨R, 3, none⟩ v3).setCell ⟨R, 4, none⟩ v4) :=
  ((((h.setCell (p := ⟨R, 0, none⟩) hR _).setCell (p := ⟨R, 1, none⟩) hR _).setCell (p := ⟨R, 2, none⟩) hR _).setCell (p := ⟨R, 3, none⟩) hR _).setCell (p := ⟨R, 4, none⟩) hR _
theorem KO.monoF {w : World} {B B' : Nat} {sa : Option Addr} {sc : Nat} {ca : Option Addr} {cc : Nat} {fa : Option Addr} {fc : Nat} {ss cs : List Value} {D : PDisk} (h : KO w B sa sc ca cc fa fc ss cs D) (hB : B' ≤ B) : KO w B' sa sc ca cc fa fc ss cs D :=
  ⟨h.sle, h.snil, h.cle, h.cnil, h.fle, h.fnil, h.ns, h.nc, h.secs.mono hB, h.cache.mono hB, h.faults.mono hB, h.bytes.mono hB⟩
theorem ob_new {w : World} {B g c : Nat} {L : List Int} (h : Row 5 w g L.length (fun i => L.getD i 0)) (hc : L.length ≤ c) (hy : ∀ y ∈ L, 0 ≤ y ∧ y ≤ 255) (hB : B ≤ g) : OB w B (.slice (some ⟨g, 0, none⟩) L.length c) L :=
  ⟨_, _, rfl, hc, (fun e => by cases e), hy, .inr ⟨g, rfl, hB, h⟩⟩
/-- A variable keeps what it has where a row of another type is written. -/
theorem VN.keptF {w : World} {X B gs : Nat} {ys zs : List Value} (h : VN w X 35 ys) (k : RL 49 w B (some ⟨gs, 0, none⟩) zs) (hz : 0 < zs.length) (u : Value) (i : Nat) : VN (w.setCell ⟨gs, i, none⟩ u) X 35 ys := by
  refine h.other (fun e => ?_)
  rcases k with rfl | ⟨g, cur, e1, -, hc, -⟩
  · simp at hz
  · cases e1
    unfold VN at h
    rw [e, hc] at h
    cases h
theorem Bs.head {w : World} {B : Nat} {v0 v : Value} {vs : List Value} {l0 l : List Int} {ls : List (List Int)} (h : Bs w B (v0 :: vs) (l0 :: ls)) (hb : OB w B v l) (hf : ∀ u ∈ vs, ∀ g, v.ownBlock = some g → u.ownBlock ≠ some g) (hv : ∀ g, v.ownBlock = some g → B ≤ g ∧ g < w.heap.size) : Bs w B (v :: vs) (l :: ls) := by
  refine ⟨by have := h.len; simpa using this, fun i x y h1 h2 => ?_, fun x hx => ?_, ?_⟩
  · cases i with
    | zero => simp at h1 h2; rw [← h1, ← h2]; exact hb
    | succ i => exact h.ob (i + 1) x y (by simpa using h1) (by simpa using h2)
  · rcases List.mem_cons.1 hx with rfl | hx
    · exact hv
    · exact h.lt x (List.mem_cons_of_mem _ hx)
  · rw [List.pairwise_cons]
    exact ⟨fun u hu g h1 h2 => hf u hu g h1 h2, (List.pairwise_cons.1 h.apt).2⟩
/-- The first sector is written. -/
theorem KO.putSec0 {w : World} {B gs : Nat} {sc : Nat} {ca : Option Addr} {cc : Nat} {fa : Option Addr} {fc : Nat} {ss cs : List Value} {D : PDisk} (h : KO w B (some ⟨gs, 0, none⟩) sc ca cc fa fc ss cs D) (hp : 0 < D.secs.length) {v : Value} {l : List Int} {g : Nat} (hb : OB w B v l) (hfr : ∀ u ∈ ss ++ cs, u.ownBlock ≠ some g) (hv : ∀ g', v.ownBlock = some g' → B ≤ g' ∧ g' < w.heap.size) (hg : v.ownBlock = some g := by rfl) :
    KO (w.setCell ⟨gs, 0, none⟩ v) B (some ⟨gs, 0, none⟩) sc ca cc fa fc (ss.set 0 v) cs { D with secs := D.secs.set 0 l } := by
  have hs0 : 0 < ss.length := by rw [h.ns]; exact hp
  have hbs := h.bytes
  have hset := h.secs
  refine ⟨by simpa using h.sle, h.snil, h.cle, h.cnil, h.fle, h.fnil, by simpa using h.ns, h.nc, hset.set 0 v hs0, h.cache.other hset hs0 (by decide) rfl, h.faults.other hset hs0 (by decide) rfl, ?_⟩
  have hns := h.ns
  obtain ⟨s0, ss', rfl⟩ : ∃ a b, ss = a :: b := by cases ss with | nil => simp at hs0 | cons a b => exact ⟨a, b, rfl⟩
  obtain ⟨l0, ls', hl⟩ : ∃ a b, D.secs = a :: b := by cases hd : D.secs with | nil => rw [hd] at hp; simp at hp | cons a b => exact ⟨a, b, rfl⟩
  show Bs _ B (v :: ss' ++ cs) (D.secs.set 0 l ++ D.cache.map (·.2))
  rw [hl] at hbs ⊢
  have h1 : Bs w B (v :: (ss' ++ cs)) (l :: (ls' ++ D.cache.map (·.2))) := Bs.head (v0 := s0) (l0 := l0) hbs hb (fun u hu g' h1 h2 => by rw [hg] at h1; cases h1; exact hfr u (by simp at hu ⊢; exact .inr hu) h2) hv
  exact h1.other hset hs0 (by decide)
end Go.Proofs.Ytficmogjpnmfdaa

/-
  The program's MetaOk and the model's.
-/
namespace Go.Proofs.Ytficmogjpnmfdaa
open Go.RowKit
set_option maxRecDepth 4000

set_option maxHeartbeats 1000000 in
theorem insideI_any (x m : Int) (w : World) : Calls Try.prog 58 #[.int .i64 x, .int .i64 m] w fun e w' => e = .returned (.bool (decide (0 ≤ x ∧ x ≤ m))) ∧ w = w' := by
  go_enter Try.func58, Try.ntmps58
  by_cases h : 0 ≤ x
  · have e1 : decide (0 ≤ x) = true := by simpa using h
    go_wp2
    go_ret
    exact ⟨by simp [h], rfl⟩
  · have e1 : decide (0 ≤ x) = false := by simpa using h
    go_wp2
    go_ret
    exact ⟨by simp, rfl⟩
set_option maxHeartbeats 1000000 in
theorem noTree_any (x : Int) (w : World) : Calls Try.prog 77 #[.int .i64 x] w fun e w' => e = .returned (.bool (!decide (2 ≤ x ∧ x ≤ 47))) ∧ w = w' := by
  go_enter Try.func77, Try.ntmps77
  by_cases h : x < 2
  · have e1 : decide (x < 2) = true := by simpa using h
    go_wp2
    go_ret
    exact ⟨by simp; omega, rfl⟩
  · have e1 : decide (x < 2) = false := by simpa using h
    by_cases h2 : 48 ≤ x
    · go_wp2
      go_ret
      exact ⟨by simp; omega, rfl⟩
    · go_wp2
      go_ret
      exact ⟨by simp; omega, rfl⟩

set_option maxHeartbeats 1000000 in
theorem implMetaOk_any (g r : Int) (w : World) :
    Calls Try.prog 60 #[.agg #[.int .i64 g, .int .i64 r]] w fun e w' => e = .returned (.bool (metaOk g r)) ∧ Below w.heap.size w w' := by
  have hB : Below w.heap.size w (w.alloc (.cells #[.int .i64 g, .int .i64 r] 29)) := (Below.refl _ _).alloc (Nat.le_refl _) _
  have hI := fun W => insideI_any g 1000000 W
  have hT := fun W => noTree_any r W
  by_cases h1 : 0 ≤ g ∧ g ≤ 1000000
  · rw [show decide (0 ≤ g ∧ g ≤ 1000000) = true by simpa using h1] at hI
    by_cases h2 : r = 0
    · have e : metaOk g r = true := metaOk_iff.2 ⟨h1, .inl h2⟩
      have e2 : (r == 0) = true := by simpa using h2
      rw [e]
      clear h1 h2 e hT
      go_enter Try.func60, Try.ntmps60
      go_wp2_with fail
      refine (hI _).mono ?_
      rintro e _ ⟨rfl, rfl⟩
      go_wp2
      go_ret
      exact ⟨rfl, hB⟩
    · have e2 : (r == 0) = false := beq_eq_false_iff_ne.2 h2
      by_cases h3 : 2 ≤ r ∧ r ≤ 47
      · have e : metaOk g r = true := metaOk_iff.2 ⟨h1, .inr h3⟩
        rw [show decide (2 ≤ r ∧ r ≤ 47) = true by simpa using h3] at hT
        rw [e]
        clear h1 h2 h3 e
        go_enter Try.func60, Try.ntmps60
        go_wp2_with fail
        refine (hI _).mono ?_
        rintro e _ ⟨rfl, rfl⟩
        go_wp2_with fail
        refine (hT _).mono ?_
        rintro e _ ⟨rfl, rfl⟩
        go_wp2
        go_ret
        exact ⟨rfl, hB⟩
      · have e : metaOk g r = false := by
          cases hq : metaOk g r with
          | false => rfl
          | true => exact absurd (metaOk_iff.1 hq).2 (by omega)
        rw [show decide (2 ≤ r ∧ r ≤ 47) = false by simpa using h3] at hT
        rw [e]
        clear h1 h2 h3 e
        go_enter Try.func60, Try.ntmps60
        go_wp2_with fail
        refine (hI _).mono ?_
        rintro e _ ⟨rfl, rfl⟩
        go_wp2_with fail
        refine (hT _).mono ?_
        rintro e _ ⟨rfl, rfl⟩
        go_wp2
        go_ret
        exact ⟨rfl, hB⟩
  · have e : metaOk g r = false := by
      cases hq : metaOk g r with
      | false => rfl
      | true => exact absurd (metaOk_iff.1 hq).1 h1
    rw [show decide (0 ≤ g ∧ g ≤ 1000000) = false by simpa using h1] at hI
    rw [e]
    clear h1 e hT
    go_enter Try.func60, Try.ntmps60
    go_wp2_with fail
    refine (hI _).mono ?_
    rintro e _ ⟨rfl, rfl⟩
    go_wp2
    go_ret
    exact ⟨rfl, hB⟩

set_option maxHeartbeats 1000000 in
theorem specMetaOk_any (g r : Int) (w : World) :
    Calls Try.prog 45 #[.agg #[.int .i64 g, .int .i64 r]] w fun e w' => e = .returned (.bool (metaOk g r)) ∧ Below w.heap.size w w' := by
  have hB : Below w.heap.size w (w.alloc (.cells #[.int .i64 g, .int .i64 r] 29)) := (Below.refl _ _).alloc (Nat.le_refl _) _
  have hI := fun W => l1In_any g 0 1000000 W
  have hT := fun W => l1In_any r 2 47 W
  by_cases h1 : 0 ≤ g ∧ g ≤ 1000000
  · rw [show (decide (0 ≤ g) && decide (g ≤ 1000000)) = true by simpa using h1] at hI
    by_cases h2 : r = 0
    · have e : metaOk g r = true := metaOk_iff.2 ⟨h1, .inl h2⟩
      have e2 : (r == 0) = true := by simpa using h2
      rw [e]
      clear h1 h2 e hT
      go_enter Try.func45, Try.ntmps45
      go_wp2_with fail
      refine (hI _).mono ?_
      rintro e _ ⟨rfl, rfl⟩
      go_wp2
      go_ret
      exact ⟨rfl, hB⟩
    · have e2 : (r == 0) = false := beq_eq_false_iff_ne.2 h2
      have e : metaOk g r = (decide (2 ≤ r) && decide (r ≤ 47)) := by
        cases hq : metaOk g r with
        | false =>
          symm
          rw [Bool.and_eq_false_iff, decide_eq_false_iff_not, decide_eq_false_iff_not]
          by_cases h5 : 2 ≤ r
          · by_cases h6 : r ≤ 47
            · have := metaOk_iff.2 ⟨h1, .inr ⟨h5, h6⟩⟩
              rw [hq] at this
              cases this
            · exact .inr h6
          · exact .inl h5
        | true =>
          have h7 := (metaOk_iff.1 hq).2
          symm
          rw [Bool.and_eq_true, decide_eq_true_eq, decide_eq_true_eq]
          omega
      obtain ⟨q, hq⟩ : ∃ q, Hid ((decide (2 ≤ r) && decide (r ≤ 47)) = q) := ⟨_, rfl⟩
      rw [hq.out] at hT e
      rw [e]
      clear h1 h2 e hq
      go_enter Try.func45, Try.ntmps45
      go_wp2_with fail
      refine (hI _).mono ?_
      rintro e _ ⟨rfl, rfl⟩
      go_wp2_with fail
      refine (hT _).mono ?_
      rintro e _ ⟨rfl, rfl⟩
      go_wp2
      go_ret
      exact ⟨rfl, hB⟩
  · have e : metaOk g r = false := by
      cases hq : metaOk g r with
      | false => rfl
      | true => exact absurd (metaOk_iff.1 hq).1 h1
    rw [show (decide (0 ≤ g) && decide (g ≤ 1000000)) = false by rw [Bool.and_eq_false_iff, decide_eq_false_iff_not, decide_eq_false_iff_not]; omega] at hI
    rw [e]
    clear h1 e hT
    go_enter Try.func45, Try.ntmps45
    go_wp2_with fail
    refine (hI _).mono ?_
    rintro e _ ⟨rfl, rfl⟩
    go_wp2
    go_ret
    exact ⟨rfl, hB⟩
end Go.Proofs.Ytficmogjpnmfdaa

/-
  Numbers as bytes, one behind the other; rows of bytes that an answer owns, by a list.
-/
namespace Go.Proofs.Ytficmogjpnmfdaa
open Go.RowKit
set_option maxRecDepth 4000

/-- The groups of the first k numbers, one behind the other. -/
def numL (g : Nat → Int) : Nat → List Int
  | 0 => []
  | k + 1 => numL g k ++ groups (clampN (g k))
theorem numL_len (g : Nat → Int) : ∀ k, (numL g k).length ≤ 3 * k
  | 0 => by simp [numL]
  | k + 1 => by have := numL_len g k; have := (groups_len (clampN (g k))).2; simp only [numL, List.length_append]; omega
theorem numL_byte (g : Nat → Int) : ∀ k, ∀ y ∈ numL g k, 0 ≤ y ∧ y ≤ 255
  | 0 => by simp [numL]
  | k + 1 => by
    intro y hy
    rw [numL, List.mem_append] at hy
    rcases hy with hy | hy
    · exact numL_byte g k y hy
    · exact groups_byte _ (clampN_bd _).1 (clampN_bd _).2 y hy
/-- Bytes of the call's own, by a list. -/
def BR (w : World) (B : Nat) (v : Value) (L : List Int) : Prop :=
  ∃ g c, v = .slice (some ⟨g, 0, none⟩) L.length c ∧ B ≤ g ∧ L.length ≤ c ∧ Row 5 w g L.length (fun i => L.getD i 0)
theorem BR.below {w w' : World} {B : Nat} {v : Value} {L : List Int} (h : BR w B v L) (hb : Below w.heap.size w w') : BR w' B v L := by
  obtain ⟨g, c, e, hB, hc, hr⟩ := h
  exact ⟨g, c, e, hB, hc, hr.belowAll hb⟩
theorem BR.mono {w : World} {B B' : Nat} {v : Value} {L : List Int} (h : BR w B v L) (hB : B' ≤ B) : BR w B' v L := by
  obtain ⟨g, c, e, h1, hc, hr⟩ := h
  exact ⟨g, c, e, Nat.le_trans hB h1, hc, hr⟩
theorem getD_byteN {L : List Int} (h : ∀ y ∈ L, 0 ≤ y ∧ y ≤ 255) : ∀ i, i < L.length → 0 ≤ L.getD i 0 ∧ L.getD i 0 ≤ 255 := fun i hi => by
  have := h _ (List.getElem_mem hi)
  simpa [hi] using this
theorem BR.view {w : World} {B : Nat} {v : Value} {L : List Int} (h : BR w B v L) (hy : ∀ y ∈ L, 0 ≤ y ∧ y ≤ 255) : ∃ g c, v = .slice (some ⟨g, 0, none⟩) L.length c ∧ View w (some ⟨g, 0, none⟩) L.length c (fun i => L.getD i 0) := by
  obtain ⟨g, c, e, -, hc, hr⟩ := h
  exact ⟨g, c, e, hr.view hc (getD_byteN hy)⟩
end Go.Proofs.Ytficmogjpnmfdaa

/-
  Rows of one cell each that read, texts and numbers.
-/
namespace Go.Proofs.Ytficmogjpnmfdaa
open Go.RowKit
set_option maxRecDepth 4000

/-- The slice value '.slice ao n cap' reads as the n values f 0 up to f (n - 1), of one cell each. -/
structure OV (w : World) (ao : Option Addr) (n cap : Nat) (f : Nat → Value) : Prop where
  le : n ≤ cap
  cells : 0 < n → ∃ b off, ao = some ⟨b, off, none⟩ ∧ b < w.heap.size ∧ ∀ i, i < n → w.cell? ⟨b, off + i, none⟩ = some (f i)
theorem OV.below {w w' : World} {ao : Option Addr} {n cap : Nat} {f : Nat → Value} (h : OV w ao n cap f) (hb : Below w.heap.size w w') : OV w' ao n cap f := by
  refine ⟨h.le, fun hn => ?_⟩
  obtain ⟨b, off, e, hlt, hc⟩ := h.cells hn
  refine ⟨b, off, e, Nat.lt_of_lt_of_le hlt hb.size, fun i hi => ?_⟩
  rw [hb.cell (p := ⟨b, off + i, none⟩) hlt]
  exact hc i hi
theorem OV.set {w : World} {a n c B : Nat} {f : Nat → Value} (h : OV w (some ⟨a, 0, none⟩) n c f) (hne : a ≠ B) (i : Nat) (u : Value) : OV (w.setCell ⟨B, i, none⟩ u) (some ⟨a, 0, none⟩) n c f := by
  refine ⟨h.le, fun hn => ?_⟩
  obtain ⟨b, off, e, hlt, hc⟩ := h.cells hn
  have hba : b = a := by cases e; rfl
  refine ⟨b, off, e, by simpa using hlt, fun j hj => ?_⟩
  rw [World.cell?_of_block (w := w) (a := ⟨b, off + j, none⟩) (Below.heap_setCell _ _ _ _ (by rw [hba]; exact hne))]
  exact hc j hj
theorem OV.ofIs {w : World} {b : Nat} {t : TypeId} {n cap : Nat} {f : Nat → Value} (h : w.rowIs b t n f) (hc : n ≤ cap) : OV w (some ⟨b, 0, none⟩) n cap f :=
  ⟨hc, fun _ => ⟨b, 0, rfl, h.lt, fun i hi => by rw [Nat.zero_add]; exact h.cell hi⟩⟩
abbrev TxV (w : World) (ao : Option Addr) (n cap : Nat) (f : Nat → ByteArray) : Prop := OV w ao n cap (fun i => .string (f i))
abbrev NuV (w : World) (ao : Option Addr) (n cap : Nat) (f : Nat → Int) : Prop := OV w ao n cap (fun i => .int .i64 (f i))
theorem txv_at {w : World} {ao : Option Addr} {n cap : Nat} {f : Nat → ByteArray} (h : TxV w ao n cap f) {k : Nat} (hk : k < n) : ∃ b off, ao = some ⟨b, off, none⟩ ∧ b < w.heap.size ∧ w.cell? ⟨b, off + k, none⟩ = some (.string (f k)) := by
  obtain ⟨b, off, e, hlt, hc⟩ := h.cells (by omega)
  exact ⟨b, off, e, hlt, hc k hk⟩
theorem nuv_at {w : World} {ao : Option Addr} {n cap : Nat} {f : Nat → Int} (h : NuV w ao n cap f) {k : Nat} (hk : k < n) : ∃ b off, ao = some ⟨b, off, none⟩ ∧ b < w.heap.size ∧ w.cell? ⟨b, off + k, none⟩ = some (.int .i64 (f k)) := by
  obtain ⟨b, off, e, hlt, hc⟩ := h.cells (by omega)
  exact ⟨b, off, e, hlt, hc k hk⟩
end Go.Proofs.Ytficmogjpnmfdaa

/-
  The program's putNumbers at as many numbers as there are: what was there, and behind it their groups.
-/
namespace Go.Proofs.Ytficmogjpnmfdaa
open Go.RowKit
set_option maxRecDepth 4000

/-- Bytes of the call's own, maybe none, read. -/
theorem view_own_opt {w : World} {base : Nat} {v : Value} {L : List Int} (h : w.ownsRow base 5 1 v L.length (bl L)) (hy : ∀ y ∈ L, 0 ≤ y ∧ y ≤ 255) : ∃ a c, v = .slice a L.length c ∧ (a = none → L.length = 0 ∧ c = 0) ∧ View w a L.length c (fun i => L.getD i 0) := by
  by_cases hv : v = .slice none 0 0
  · have hl : L.length = 0 := by
      obtain ⟨hl, h⟩ := h
      rcases h with ⟨_, h0⟩ | ⟨g, k, cur, e, _⟩
      · exact h0
      · rw [hv] at e; cases e
    refine ⟨none, 0, by rw [hv, hl], fun _ => ⟨hl, rfl⟩, ⟨by omega, fun i hi => by omega, fun hn => by omega⟩⟩
  · obtain ⟨g, c, e, -, hgc, hr⟩ := row_of_own' h hv
    exact ⟨_, c, e, (fun e => by cases e), hr.view hgc (getD_byteN hy)⟩

set_option maxHeartbeats 2000000 in
theorem putNums_many (ai : Option Addr) (L0 : List Int) (cap : Nat) (a : Option Addr) (m c : Nat) (g : Nat → Int) (w : World) (hv : View w ai L0.length cap (fun i => L0.getD i 0)) (hni : ai = none → L0.length = 0 ∧ cap = 0) (hn : L0.length ≤ 35184372088832) (hm : NuV w a m c g) (hm1 : m ≤ 1048577) :
    Calls Try.prog 62 #[.slice ai L0.length cap, .slice a m c] w fun e w' => ∃ v, e = .returned v ∧ BR w' w.heap.size v (L0 ++ numL g m) ∧ Below w.heap.size w w' := by
  obtain ⟨i0, hi, hz0, hz1, hz2⟩ := info_parts Try.info5
  go_enter Try.func62, Try.ntmps62
  go_wp2
  go_loopg [5, 11] m (fun q v i wr => ∃ k : Nat, k ≤ m ∧ q = m - k ∧ i = .int .i64 k ∧ wr.ownsRow w.heap.size 5 1 v (numL g k).length (bl (numL g k)) ∧ Below w.heap.size w wr)
  case atStart => exact ⟨0, Nat.zero_le _, rfl, rfl, World.ownsRow_nil _ _ _ _, Below.refl _ _⟩
  case round =>
    obtain ⟨k, hk, rfl, rfl, hown, hB⟩ := hrel
    by_cases hlt : k < m
    · obtain ⟨b1, o1, rfl, hb1, x0⟩ := nuv_at (hm.below hB) hlt
      have hkz : (k : Int) < (m : Int) := by omega
      have hgl := groups_len (clampN (g k))
      have hkl := numL_len g k
      have HNX : Hid (numL g (k + 1) = numL g k ++ groups (clampN (g k))) := rfl
      obtain ⟨x, hx⟩ : ∃ x, Hid (g k = x) := ⟨_, rfl⟩
      obtain ⟨Q, hQ⟩ : ∃ Q, Hid (numL g k = Q) := ⟨_, rfl⟩
      rw [hx.out] at x0 HNX hgl
      rw [hQ.out] at hown hkl HNX
      have HV : Hid (View w ai L0.length cap (fun i => L0.getD i 0)) := hv
      have HM : Hid (NuV w (some ⟨b1, o1, none⟩) m c g) := hm
      have HB : Hid (Below w.heap.size w wr) := hB
      clear hv hm hB
      go_wp2
      all_goals
        go_loopg [5, 8] (clampN x).toNat (fun gg v s wq => ∃ (y : Int) (ys : List Int), s = .int .i64 y ∧ 0 ≤ y ∧ y ≤ 1000000 ∧ gg = y.toNat ∧ groups (clampN x) = ys ++ groups y ∧ wq.ownsRow w.heap.size 5 1 v (Q ++ ys).length (bl (Q ++ ys)) ∧ Below w.heap.size w wq)
        case atStart => exact ⟨clampN x, [], congrArg (Value.int .i64) (by unfold clampN; split <;> (try split) <;> omega), (clampN_bd x).1, (clampN_bd x).2, rfl, rfl, by rw [List.append_nil]; exact hown, HB.out⟩
        case round =>
          clear hown HB
          obtain ⟨y, ys, rfl, hy0, hy1, rfl, hgr, hown, hB⟩ := hrel
          have HG : Hid (groups (clampN x) = ys ++ groups y) := hgr
          have hlen : (Q ++ ys).length ≤ 3 * k + 3 := by have := hgl; rw [hgr] at this; simp at this ⊢; have := groups_len y; omega
          clear hgr
          by_cases hlt2 : y < 128
          · go_wp2_with (first | (at_builtin; go_must (refine wpList_append_own _ rfl (.tmp 29) (.tmp 32) 49 rfl w.heap.size 5 i0 (.int .u8 0) 1 1 Try.underlying49 hi hz0 hz1 hz2 rfl (by decide) _ _ _ rfl (hown.alloc _) ⟨wr.heap.size, 0, none⟩ 1 1 [.int .u8 y] rfl rfl (cellNew _ _ _) (bl_one [y]) (by unfold maxLen; omega) (by omega) (by have := hB.size; simp; omega) ?_); intro v2 w2 hown2 hgr2 _))
            have hB2 : Below w.heap.size w w2 := (hB.alloc hB.size _).grown hgr2 (by have := hB.size; simp; omega) (fun k hk => (hown.lt k hk).1)
            have hO2 : w2.ownsRow w.heap.size 5 1 v2 (numL g (k + 1)).length (bl (numL g (k + 1))) := by
              rw [HNX.out, HG.out, groups_last y hlt2, ← List.append_assoc, List.length_append, bl_append]
              exact hown2
            clear hgr2 hown hown2 hB
            go_wp2
            go_roundg (m - (k + 1))
            case measure => omega
            case rel => exact ⟨k + 1, by omega, rfl, by go_num, hO2, hB2⟩
          · have hG2 : Hid (groups (clampN x) = (ys ++ [y % 128 + 128]) ++ groups (y / 128)) := by
              have := HG.out
              rw [groups_step y (by omega) hy1] at this
              rw [List.append_assoc]; exact this
            go_wp2_with (at_builtin; go_must (refine wpList_append_own _ rfl (.tmp 20) (.tmp 25) 49 rfl w.heap.size 5 i0 (.int .u8 0) 1 1 Try.underlying49 hi hz0 hz1 hz2 rfl (by decide) _ _ _ rfl (hown.alloc _) ⟨wr.heap.size, 0, none⟩ 1 1 [.int .u8 (y % 128 + 128)] rfl rfl (cellNew _ _ _) (bl_one [y % 128 + 128]) (by unfold maxLen; omega) (by omega) (by have := hB.size; simp; omega) ?_); intro v2 w2 hown2 hgr2 _)
            have hB2 : Below w.heap.size w w2 := (hB.alloc hB.size _).grown hgr2 (by have := hB.size; simp; omega) (fun k hk => (hown.lt k hk).1)
            have hO2 : w2.ownsRow w.heap.size 5 1 v2 (Q ++ (ys ++ [y % 128 + 128])).length (bl (Q ++ (ys ++ [y % 128 + 128]))) := by
              rw [← List.append_assoc, List.length_append, bl_append]
              exact hown2
            clear hgr2 hown hown2 hB
            go_wp2
            go_roundg ((y / 128).toNat)
            case measure => omega
            case rel => exact ⟨y / 128, ys ++ [y % 128 + 128], rfl, by omega, by omega, rfl, hG2.out, hO2, hB2⟩
    · obtain rfl : k = m := by omega
      have hkz : ¬ (k : Int) < (k : Int) := by omega
      have hkl := numL_len g k
      obtain ⟨a2, c2, rfl, hno, hV2⟩ := view_own_opt hown (numL_byte g k)
      have hP := putBytes_opt ai L0.length cap (fun i => L0.getD i 0) a2 (numL g k).length c2 (fun i => (numL g k).getD i 0) wr (hv.below hB) hni hV2 hno (by omega)
      have HB : Hid (Below w.heap.size w wr) := hB
      clear hm hv hown hB hV2
      go_wp2_with fail
      refine hP.mono ?_
      rintro e w3 ⟨rfl, hown3, hb3⟩
      have HO : Hid (BR w3 w.heap.size (.slice (some ⟨wr.heap.size, 0, none⟩) (L0.length + (numL g k).length) (L0.length + (numL g k).length)) (L0 ++ numL g k) ∧ Below w.heap.size w w3) := by
        have hbw := HB.out
        rw [lof_self, lof_self] at hown3
        have hr := row_of_owned hown3
        exact ⟨⟨wr.heap.size, _, by rw [List.length_append], hbw.size, by rw [List.length_append]; exact Nat.le_refl _, by rw [List.length_append]; exact hr⟩, hbw.trans (hb3.mono hbw.size)⟩
      clear hown3 hb3 hP
      go_wp2
      go_ret
      exact ⟨_, rfl, HO.out.1, HO.out.2⟩
end Go.Proofs.Ytficmogjpnmfdaa

/-
  Rows of one number, and of two.
-/
namespace Go.Proofs.Ytficmogjpnmfdaa
open Go.RowKit
set_option maxRecDepth 4000

theorem nuv_one (w : World) (x : Int) (T : TypeId) : NuV (w.alloc (.cells #[.int .i64 x] T)) (some ⟨w.heap.size, 0, none⟩) 1 1 (fun _ => x) :=
  ⟨Nat.le_refl _, fun _ => ⟨w.heap.size, 0, rfl, by simp, fun i hi => by
    obtain rfl : i = 0 := by omega
    simp⟩⟩
def two (x y : Int) (i : Nat) : Int := if i = 0 then x else y
theorem nuv_two (w : World) (x y : Int) (T : TypeId) : NuV (w.alloc (.cells #[.int .i64 x, .int .i64 y] T)) (some ⟨w.heap.size, 0, none⟩) 2 2 (two x y) :=
  ⟨Nat.le_refl _, fun _ => ⟨w.heap.size, 0, rfl, by simp, fun i hi => by
    have : i = 0 ∨ i = 1 := by omega
    rcases this with rfl | rfl
    · simp [two]
    · simp [two, go_sem]⟩⟩
theorem numL_two (x y : Int) : numL (two x y) 2 = groups (clampN x) ++ groups (clampN y) := by simp [numL, two]
end Go.Proofs.Ytficmogjpnmfdaa

/-
  The program's PutMeta and the model's.
-/
namespace Go.Proofs.Ytficmogjpnmfdaa
open Go.RowKit
set_option maxRecDepth 4000

theorem clamp_meta {g r : Int} (h : metaOk g r = true) : clampN g = g ∧ clampN r = r := by
  have h' := metaOk_iff.1 h
  exact ⟨clamp_id (by omega) (by omega), clamp_id (by omega) (by omega)⟩
theorem metaF_no {g r : Int} (h : metaOk g r = false) : metaF g r = [] := by unfold metaF; rw [if_neg (by rw [h]; simp)]
set_option maxHeartbeats 1000000 in
theorem implPutMeta_any (g r : Int) (w : World) :
    Calls Try.prog 33 #[.agg #[.int .i64 g, .int .i64 r]] w (PageTo w (metaF g r)) := by
  have hB : Below w.heap.size w (w.alloc (.cells #[.int .i64 g, .int .i64 r] 29)) := (Below.refl _ _).alloc (Nat.le_refl _) _
  have hO := fun W => implMetaOk_any g r W
  have c0 : (w.alloc (.cells #[.int .i64 g, .int .i64 r] 29)).cell? ⟨w.heap.size, 0, none⟩ = some (.int .i64 g) := by simp
  have c1 : (w.alloc (.cells #[.int .i64 g, .int .i64 r] 29)).cell? ⟨w.heap.size, 1, none⟩ = some (.int .i64 r) := by simp [go_sem]
  cases hok : metaOk g r with
  | false =>
    have hF := metaF_no hok
    rw [hok] at hO
    obtain ⟨L, hL⟩ : ∃ L, Hid (metaF g r = L) := ⟨_, rfl⟩
    rw [hL.out] at hF ⊢
    go_enter Try.func33, Try.ntmps33
    go_wp2_with fail
    refine (hO _).mono ?_
    rintro e w1 ⟨rfl, hb1⟩
    have hB1 := hB.trans (hb1.mono hB.size)
    clear hO hb1 hB c0 c1
    go_wp2
    go_ret
    rw [hF]
    exact ⟨_, 0, rfl, hB1.size, Nat.le_refl _, noRow _ _ _, hB1.alloc hB1.size _⟩
  | true =>
    rw [hok] at hO
    have HF : Hid (pageF 2 (strOfNums (metaB g r)) = metaF g r) := metaF_page hok
    obtain ⟨k1, k2⟩ := clamp_meta hok
    have HB : Hid (numL (two g r) 2 = metaB g r) := by show _ = _; rw [numL_two, k1, k2]; rfl
    have hfew := metaB_few g r
    have HY : Hid (∀ y ∈ metaB g r, 0 ≤ y ∧ y ≤ 255) := metaB_byte hok
    obtain ⟨L, hL⟩ : ∃ L, Hid (metaF g r = L) := ⟨_, rfl⟩
    obtain ⟨Q, hQ⟩ : ∃ Q, Hid (metaB g r = Q) := ⟨_, rfl⟩
    rw [hL.out, hQ.out] at HF
    rw [hQ.out] at HB hfew HY
    rw [hL.out]
    have hN : ∀ (W : World) (a : Addr), NuV W (some a) 2 2 (two g r) → Calls Try.prog 62 #[.slice none 0 0, .slice (some a) 2 2] W fun e w' => ∃ v, e = .returned v ∧ BR w' W.heap.size v Q ∧ Below W.heap.size W w' := by
      intro W a h
      have := putNums_many none [] 0 (some a) 2 2 (two g r) W (noView _ _) (fun _ => ⟨rfl, rfl⟩) (by simp) h (by omega)
      rw [List.nil_append, HB.out] at this
      exact this
    have hP : ∀ (W : World) (v : Value) (B : Nat), BR W B v Q → Calls Try.prog 61 #[.int .i64 2, v] W (PageTo W L) := by
      intro W v B h
      obtain ⟨b, c, rfl, hv⟩ := h.view HY.out
      have := putPage_impl b 0 Q.length c (fun i => Q.getD i 0) 2 W hv (by omega) (by omega) (by omega)
      rw [lof_self, HF.out] at this
      exact this
    clear hL hQ HB HY HF k1 k2 hok
    go_enter Try.func33, Try.ntmps33
    go_wp2_with fail
    refine (hO _).mono ?_
    rintro e w1 ⟨rfl, hb1⟩
    have x0 : w1.cell? ⟨w.heap.size, 0, none⟩ = some (.int .i64 g) := by rw [hb1.cell (by simp)]; exact c0
    have x1 : w1.cell? ⟨w.heap.size, 1, none⟩ = some (.int .i64 r) := by rw [hb1.cell (by simp)]; exact c1
    have hB1 := hB.trans (hb1.mono hB.size)
    clear hO hb1 hB c0 c1
    go_wp2_with fail
    refine (hN _ _ (nuv_two _ _ _ _)).mono ?_
    rintro e w2 ⟨v, rfl, hv, hb2⟩
    have hB2 : Below w.heap.size w w2 := (hB1.alloc hB1.size _).trans (hb2.mono (by have := hB1.size; simp; omega))
    clear hN hb2 x0 x1
    go_wp2_with fail
    refine (hP _ _ _ hv).mono ?_
    rintro e w3 ⟨g3, c3, rfl, hg3, hc3, hr3, hb3⟩
    clear hP hv
    go_wp2
    go_ret
    exact ⟨g3, c3, rfl, Nat.le_trans hB2.size hg3, hc3, hr3, hB2.trans (hb3.mono hB2.size)⟩

set_option maxHeartbeats 1000000 in
theorem specPutMeta_any (g r : Int) (w : World) :
    Calls Try.prog 29 #[.agg #[.int .i64 g, .int .i64 r]] w (PageTo w (metaF g r)) := by
  have hB : Below w.heap.size w (w.alloc (.cells #[.int .i64 g, .int .i64 r] 29)) := (Below.refl _ _).alloc (Nat.le_refl _) _
  have hO := fun W => specMetaOk_any g r W
  have c0 : (w.alloc (.cells #[.int .i64 g, .int .i64 r] 29)).cell? ⟨w.heap.size, 0, none⟩ = some (.int .i64 g) := by simp
  have c1 : (w.alloc (.cells #[.int .i64 g, .int .i64 r] 29)).cell? ⟨w.heap.size, 1, none⟩ = some (.int .i64 r) := by simp [go_sem]
  cases hok : metaOk g r with
  | false =>
    have hF := metaF_no hok
    rw [hok] at hO
    obtain ⟨L, hL⟩ : ∃ L, Hid (metaF g r = L) := ⟨_, rfl⟩
    rw [hL.out] at hF ⊢
    go_enter Try.func29, Try.ntmps29
    go_wp2_with fail
    refine (hO _).mono ?_
    rintro e w1 ⟨rfl, hb1⟩
    have hB1 := hB.trans (hb1.mono hB.size)
    clear hO hb1 hB c0 c1
    go_wp2
    go_ret
    rw [hF]
    exact ⟨_, 0, rfl, hB1.size, Nat.le_refl _, noRow _ _ _, hB1.alloc hB1.size _⟩
  | true =>
    rw [hok] at hO
    have HF : Hid (pageF 2 (strOfNums (metaB g r)) = metaF g r) := metaF_page hok
    have h' := metaOk_iff.1 hok
    obtain ⟨k1, k2⟩ := clamp_meta hok
    have hfew := metaB_few g r
    have hge := groups_len g
    have hre := groups_len r
    have HY1 : Hid (∀ y ∈ groups g, 0 ≤ y ∧ y ≤ 255) := groups_byte g (by omega) (by omega)
    have HY : Hid (∀ y ∈ metaB g r, 0 ≤ y ∧ y ≤ 255) := metaB_byte hok
    have HB : Hid (metaB g r = groups g ++ groups r) := rfl
    obtain ⟨L, hL⟩ : ∃ L, Hid (metaF g r = L) := ⟨_, rfl⟩
    obtain ⟨Q, hQ⟩ : ∃ Q, Hid (metaB g r = Q) := ⟨_, rfl⟩
    rw [hL.out, hQ.out] at HF
    rw [hQ.out] at HB hfew HY
    rw [hL.out]
    have hU1 : ∀ (W : World) (b : Nat), Calls Try.prog 54 #[.slice (some ⟨b, 0, none⟩) 0 0, .int .i64 g] W fun e w' => ∃ v, e = .returned v ∧ BR w' W.heap.size v (groups g) ∧ Below W.heap.size W w' := by
      intro W b
      refine (putU_spec b 0 0 0 (fun _ => 0) g W ⟨Nat.le_refl _, fun _ hi => absurd hi (Nat.not_lt_zero _), fun h => absurd h (Nat.lt_irrefl _)⟩ (by omega) (by omega) (by omega)).mono ?_
      rintro e w' ⟨v, rfl, hown, hb⟩
      rw [Nat.zero_add, show lof 0 (fun _ => (0 : Int)) = [] from rfl, List.nil_append, k1] at hown
      obtain ⟨g', c', rfl, hg', hgc', hrow⟩ := row_of_own hown (by omega)
      exact ⟨_, rfl, ⟨g', c', rfl, hg', hgc', hrow⟩, hb⟩
    have hU2 : ∀ (W : World) (v : Value) (B : Nat), BR W B v (groups g) → Calls Try.prog 54 #[v, .int .i64 r] W fun e w' => ∃ v, e = .returned v ∧ BR w' W.heap.size v Q ∧ Below W.heap.size W w' := by
      intro W v B h
      obtain ⟨b, c, rfl, hv⟩ := h.view HY1.out
      refine (putU_spec b 0 (groups g).length c (fun i => (groups g).getD i 0) r W hv (by omega) (by omega) (by omega)).mono ?_
      rintro e w' ⟨v, rfl, hown, hb⟩
      rw [lof_self, k2, ← HB.out, show (groups g).length + (groups r).length = Q.length by rw [HB.out, List.length_append]] at hown
      obtain ⟨g', c', rfl, hg', hgc', hrow⟩ := row_of_own hown (by omega)
      exact ⟨_, rfl, ⟨g', c', rfl, hg', hgc', hrow⟩, hb⟩
    have hP : ∀ (W : World) (v : Value) (B : Nat), BR W B v Q → Calls Try.prog 53 #[.int .i64 2, v] W (PageTo W L) := by
      intro W v B h
      obtain ⟨b, c, rfl, hv⟩ := h.view HY.out
      have := putPage_spec b 0 Q.length c (fun i => Q.getD i 0) 2 W hv (by omega) (by omega) (by omega)
      rw [lof_self, HF.out] at this
      exact this
    clear hL hQ HB HY HY1 HF k1 k2 hok h'
    go_enter Try.func29, Try.ntmps29
    go_wp2_with fail
    refine (hO _).mono ?_
    rintro e w1 ⟨rfl, hb1⟩
    have hB1 := hB.trans (hb1.mono hB.size)
    have HX : Hid (∀ W, Below w1.heap.size w1 W → W.cell? ⟨w.heap.size, 0, none⟩ = some (.int .i64 g) ∧ W.cell? ⟨w.heap.size, 1, none⟩ = some (.int .i64 r)) := by
      intro W hW
      have h1 : (w.alloc (.cells #[.int .i64 g, .int .i64 r] 29)).heap.size ≤ w1.heap.size := hb1.size
      have h2 : w.heap.size < w1.heap.size := by simp at h1; omega
      refine ⟨?_, ?_⟩
      · rw [hW.cell h2, hb1.cell (by simp)]; exact c0
      · rw [hW.cell h2, hb1.cell (by simp)]; exact c1
    have hxl : w.heap.size < w1.heap.size := by have := hb1.size; simp at this; omega
    clear hO hb1 hB c0 c1
    obtain ⟨x0, x1⟩ := HX.out w1 (Below.refl _ _)
    go_wp2_with fail
    go_region_held3 (fun W => W.cell? ⟨w.heap.size, 0, none⟩ = some (.int .i64 g) ∧ W.cell? ⟨w.heap.size, 1, none⟩ = some (.int .i64 r)) (first | assumption | go_keep) (first
      | (go_at_call_of 54 (r); refine (hU2 _ _ _ (by first | exact hv2 | exact hv2.below (Below.refl _ _).drew | exact hv2.below (Below.refl _ _).drew.drew)).mono ?_; rintro e w3 ⟨v3, rfl, hv3, hb3⟩; have hb3' : Hid (Below w1.heap.size w1 w3) := Below.trans (by repeat (first | exact hb2'.out | refine Below.drew ?_)) (hb3.mono (by have := hb2'.out.size; simpa using this)); have hx3 := HX.out w3 hb3'.out)
      | (go_at_call_of 54 (g); refine (hU1 _ _).mono ?_; rintro e w2 ⟨v2, rfl, hv2, hb2⟩; have hb2' : Hid (Below w1.heap.size w1 w2) := Below.trans (by repeat (first | exact Below.refl _ _ | exact (Below.refl _ _).alloc (by simp) _ | refine Below.drew ?_)) (hb2.mono (by simp)); have hx2 := HX.out w2 hb2'.out)
      | (go_at_call 53; refine (hP _ _ _ (by first | exact hv3 | exact hv3.below (Below.refl _ _).drew | exact hv3.below (Below.refl _ _).drew.drew)).mono ?_; rintro e w4 ⟨g4, c4, rfl, hg4, hc4, hr4, hb4⟩; have hb4' : Hid (Below w1.heap.size w1 w4) := Below.trans (by repeat (first | exact hb3'.out | refine Below.drew ?_)) (hb4.mono (by have := hb3'.out.size; simpa using this)); have hx4 := HX.out w4 hb4'.out))
    have hbw := hB1.trans (hb4'.out.mono hB1.size)
    have hs3 : w.heap.size ≤ g4 := Nat.le_trans hB1.size (Nat.le_trans hb3'.out.size hg4)
    clear hx2 hx3 hx4 hv2 hv3 hb2 hb3 hb4 hU1 hU2 hP x0 x1
    go_wp2
    go_ret
    exact ⟨g4, c4, rfl, hs3, hc4, hr4, hbw⟩
end Go.Proofs.Ytficmogjpnmfdaa

