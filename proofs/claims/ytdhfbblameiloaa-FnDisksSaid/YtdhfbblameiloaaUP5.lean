/-
  Together: DiskOwnC, DiskNewS
-/
import Derived.Test.YtdhfbblameiloaaUP2
import Derived.Test.YtdhfbblameiloaaUP4
/-
  A disk of the call's own whose cache and faults may grow in place.
-/
namespace Go.Proofs.Ytdhfbblameiloaa
open Go.RowKit
set_option maxRecDepth 4000

def KOC (w : World) (B : Nat) (v : Value) (D : PDisk) : Prop := ∃ sa sc ca cc fa fc ss cs, v = dval D sa sc ca cc fa fc ∧ KO w B sa sc ca cc fa fc ss cs D ∧ w.ownsRow B 51 2 (.slice ca D.cache.length cc) D.cache.length (wcells D.cache cs) ∧ w.ownsRow B 79 3 (.slice fa D.faults.length fc) D.faults.length (fcells D.faults)
theorem own_rlF {W : World} {base T c N cap : Nat} {a : Option Addr} {xs : List Value} (h : W.ownsRow base T c (.slice a N cap) N xs) : RL T W base a xs := by
  obtain ⟨a', c', e, -, -, h3⟩ := own_rl h
  cases e
  exact h3
theorem KOC.own {w : World} {B : Nat} {v : Value} {D : PDisk} (h : KOC w B v D) : KOwn w B v D := by
  obtain ⟨sa, sc, ca, cc, fa, fc, ss, cs, e, hk, -⟩ := h
  exact ⟨sa, sc, ca, cc, fa, fc, ss, cs, e, hk⟩
end Go.Proofs.Ytdhfbblameiloaa

/-
  The model's DiskNew.
-/
namespace Go.Proofs.Ytdhfbblameiloaa
open Go.RowKit
set_option maxRecDepth 4000

/-- A new disk, or the zero one. -/
def NewOk (n : Int) (l : List PFault) : Prop := (4 ≤ n ∧ n ≤ 48) ∧ FaultsOk l
def zeroD : PDisk := ⟨[], [], 0, [], false⟩
def madeD (n : Nat) (l : List PFault) : PDisk := ⟨List.replicate n [], [], 0, l, false⟩
/-- The same, the cache's row being owned. -/
def NewToC (w : World) (n : Int) (l : List PFault) (e : Ending) (w' : World) : Prop := ∃ v', e = .returned v' ∧ Below w.heap.size w w' ∧ ((NewOk n l ∧ KOC w' w.heap.size v' (madeD n.toNat l)) ∨ (¬ NewOk n l ∧ KOC w' w.heap.size v' zeroD))
theorem zero_ownC (w : World) (B : Nat) : KOC w B (.agg #[.slice none 0 0, .slice none 0 0, .int .i64 0, .slice none 0 0, .bool false]) zeroD :=
  ⟨none, 0, none, 0, none, 0, [], [], rfl, ⟨Nat.le_refl _, fun _ => rfl, Nat.le_refl _, fun _ => rfl, Nat.le_refl _, fun _ => rfl, rfl, rfl, .inl rfl, .inl rfl, .inl rfl, Bs.nil _ _⟩, own_nilK _ _ _ _, own_nilK _ _ _ _⟩

/-- The answer's variable, and the new disk's. -/
structure TN (w W : World) (X : Nat) (zs ys : List Value) : Prop where
  below : Below w.heap.size w W
  r : VN W w.heap.size 32 zs
  o : VN W X 32 ys
  ge : w.heap.size < X
theorem TN.on {w W W' : World} {X : Nat} {zs ys : List Value} (h : TN w W X zs ys) (hb : Below W.heap.size W W') : TN w W' X zs ys :=
  ⟨h.below.trans (hb.mono h.below.size), h.r.below hb, h.o.below hb, h.ge⟩
theorem TN.grow {w W W' : World} {X T : Nat} {zs ys : List Value} {row : Option Nat} (h : TN w W X zs ys) (hg : W.grownBy W' row) (hr : ∀ k, row = some k → w.heap.size ≤ k) (hk : KeepT (fun t => t = T) W W') (hT : 32 ≠ T) : TN w W' X zs ys :=
  ⟨h.below.grown hg h.below.size hr, h.r.block (hk _ _ _ _ h.r hT), h.o.block (hk _ _ _ _ h.o hT), h.ge⟩
theorem TN.set {w W : World} {X : Nat} {zs ys : List Value} (h : TN w W X zs ys) (i : Nat) (u : Value) : TN w (W.setCell ⟨X, i, none⟩ u) X zs (ys.set i u) :=
  have hge := h.ge
  ⟨h.below.setCell (p := ⟨X, i, none⟩) (by simp; omega) _, h.r.other (by omega), h.o.set i u, h.ge⟩
theorem TN.ret {w W : World} {X : Nat} {zs ys : List Value} (h : TN w W X zs ys) (i : Nat) (u : Value) : TN w (W.setCell ⟨w.heap.size, i, none⟩ u) X (zs.set i u) ys :=
  have hge := h.ge
  ⟨h.below.setCell (p := ⟨w.heap.size, i, none⟩) (by simp) _, h.r.set i u, h.o.other (by omega), h.ge⟩

/-- k sectors without anything. -/
def N1 (w : World) (l : List PFault) (ga : Option Addr) (gc : Nat) (X : Nat) (k : Nat) (W : World) : Prop :=
  ∃ (v : Value) (ss : List Value), TN w W X [.slice none 0 0, .slice none 0 0, .int .i64 0, .slice none 0 0, .bool false] [v, .slice none 0 0, .int .i64 0, .slice ga l.length gc, .bool false] ∧ W.ownsRow w.heap.size 27 1 v k ss ∧ Bs W w.heap.size ss (List.replicate k []) ∧ W.ownsRow w.heap.size 79 3 (.slice ga l.length gc) l.length (fcells l)

set_option maxHeartbeats 8000000 in
theorem specDiskNew_own (n : Int) (a : Option Addr) (cap : Nat) (l : List PFault) (w : World) (h : FView w a cap l) (hn : l.length ≤ 1048576) :
    Calls Try.prog 37 #[.int .i64 n, .slice a l.length cap] w (NewToC w n l) := by
  obtain ⟨i0, hi, hz0, hz1, hz2⟩ := infoFault
  have hbA : Below w.heap.size w (w.alloc (.cells #[.slice none 0 0, .slice none 0 0, .int .i64 0, .slice none 0 0, .bool false] 32)) := (Below.refl _ _).alloc (Nat.le_refl _) _
  by_cases hr : 4 ≤ n ∧ n ≤ 48
  case neg =>
    have hV := fun W => l1In_no n 4 48 W (by omega)
    clear h
    go_enter Try.func37, Try.ntmps37
    go_wp2_with fail
    refine (hV _).mono ?_
    rintro e w1 ⟨rfl, rfl⟩
    clear hV
    go_wp2
    refine bodyPost_ret (v := .agg #[.slice none 0 0, .slice none 0 0, .int .i64 0, .slice none 0 0, .bool false]) (by simp [results, Try.results37, go_sem]) rfl ⟨_, rfl, hbA, .inr ⟨fun h => hr h.1, zero_ownC _ _⟩⟩
  have hV := fun W => l1In_yes n 4 48 W hr.1 hr.2
  have R0 := VN.new w 32 [.slice none 0 0, .slice none 0 0, .int .i64 0, .slice none 0 0, .bool false]
  have hF := l12Faults_any a cap l _ (fview_below h hbA) hn
  go_enter Try.func37, Try.ntmps37
  go_wp2_with fail
  refine (hV _).mono ?_
  rintro e w1 ⟨rfl, rfl⟩
  clear hV
  go_wp2_with fail
  refine hF.mono ?_
  rintro e w1 ⟨r, rfl, hrf, hb1⟩
  have HRF : Hid (r = true ↔ FaultsOk l) := hrf
  have hbw : Below w.heap.size w w1 := hbA.trans (hb1.mono hbA.size)
  have R1 := R0.below hb1
  clear hF hrf R0 hb1 hbA
  cases r
  · have r0 : w1.cell? ⟨w.heap.size, 0, none⟩ = some (.slice none 0 0) := R1.cell 0
    have r1 : w1.cell? ⟨w.heap.size, 1, none⟩ = some (.slice none 0 0) := R1.cell 1
    have r2 : w1.cell? ⟨w.heap.size, 2, none⟩ = some (.int .i64 0) := R1.cell 2
    have r3 : w1.cell? ⟨w.heap.size, 3, none⟩ = some (.slice none 0 0) := R1.cell 3
    have r4 : w1.cell? ⟨w.heap.size, 4, none⟩ = some (.bool false) := R1.cell 4
    have z0 := R1.fz 0
    have z1 := R1.fz 1
    have z2 := R1.fz 2
    have z3 := R1.fz 3
    have z4 := R1.fz 4
    have R9 := ((((R1.set 0 (.slice none 0 0)).set 1 (.slice none 0 0)).set 2 (.int .i64 0)).set 3 (.slice none 0 0)).set 4 (.bool false)
    simp only [List.set] at R9
    have HB : Hid (Below w.heap.size w (((((w1.setCell ⟨w.heap.size, 0, none⟩ (.slice none 0 0)).setCell ⟨w.heap.size, 1, none⟩ (.slice none 0 0)).setCell ⟨w.heap.size, 2, none⟩ (.int .i64 0)).setCell ⟨w.heap.size, 3, none⟩ (.slice none 0 0)).setCell ⟨w.heap.size, 4, none⟩ (.bool false))) := ((((hbw.setCell (p := ⟨w.heap.size, 0, none⟩) (by simp) _).setCell (p := ⟨w.heap.size, 1, none⟩) (by simp) _).setCell (p := ⟨w.heap.size, 2, none⟩) (by simp) _).setCell (p := ⟨w.heap.size, 3, none⟩) (by simp) _).setCell (p := ⟨w.heap.size, 4, none⟩) (by simp) _
    have m0 : (((((w1.setCell ⟨w.heap.size, 0, none⟩ (.slice none 0 0)).setCell ⟨w.heap.size, 1, none⟩ (.slice none 0 0)).setCell ⟨w.heap.size, 2, none⟩ (.int .i64 0)).setCell ⟨w.heap.size, 3, none⟩ (.slice none 0 0)).setCell ⟨w.heap.size, 4, none⟩ (.bool false)).cell? ⟨w.heap.size, 0, none⟩ = some (.slice none 0 0) := R9.cell 0
    have m1 : (((((w1.setCell ⟨w.heap.size, 0, none⟩ (.slice none 0 0)).setCell ⟨w.heap.size, 1, none⟩ (.slice none 0 0)).setCell ⟨w.heap.size, 2, none⟩ (.int .i64 0)).setCell ⟨w.heap.size, 3, none⟩ (.slice none 0 0)).setCell ⟨w.heap.size, 4, none⟩ (.bool false)).cell? ⟨w.heap.size, 1, none⟩ = some (.slice none 0 0) := R9.cell 1
    have m2 : (((((w1.setCell ⟨w.heap.size, 0, none⟩ (.slice none 0 0)).setCell ⟨w.heap.size, 1, none⟩ (.slice none 0 0)).setCell ⟨w.heap.size, 2, none⟩ (.int .i64 0)).setCell ⟨w.heap.size, 3, none⟩ (.slice none 0 0)).setCell ⟨w.heap.size, 4, none⟩ (.bool false)).cell? ⟨w.heap.size, 2, none⟩ = some (.int .i64 0) := R9.cell 2
    have m3 : (((((w1.setCell ⟨w.heap.size, 0, none⟩ (.slice none 0 0)).setCell ⟨w.heap.size, 1, none⟩ (.slice none 0 0)).setCell ⟨w.heap.size, 2, none⟩ (.int .i64 0)).setCell ⟨w.heap.size, 3, none⟩ (.slice none 0 0)).setCell ⟨w.heap.size, 4, none⟩ (.bool false)).cell? ⟨w.heap.size, 3, none⟩ = some (.slice none 0 0) := R9.cell 3
    have m4 : (((((w1.setCell ⟨w.heap.size, 0, none⟩ (.slice none 0 0)).setCell ⟨w.heap.size, 1, none⟩ (.slice none 0 0)).setCell ⟨w.heap.size, 2, none⟩ (.int .i64 0)).setCell ⟨w.heap.size, 3, none⟩ (.slice none 0 0)).setCell ⟨w.heap.size, 4, none⟩ (.bool false)).cell? ⟨w.heap.size, 4, none⟩ = some (.bool false) := R9.cell 4
    clear R1 R9 h hbw
    go_wp2
    refine bodyPost_ret (v := .agg #[.slice none 0 0, .slice none 0 0, .int .i64 0, .slice none 0 0, .bool false]) (by simp [results, Try.results37, go_sem, m0, m1, m2, m3, m4]) rfl ⟨_, rfl, HB.out, .inr ⟨fun h => (by have := HRF.out.2 h.2; cases this), zero_ownC _ _⟩⟩
  have hbE : Below w1.heap.size w1 (w1.alloc (.cells #[] 79)) := (Below.refl _ _).alloc (Nat.le_refl _) _
  have hO0 := own_emptyK w1 79 3
  have hbwE := hbw.trans (hbE.mono hbw.size)
  have hcl := fview_news (fview_below h hbwE)
  have hone := fcells_one l
  have hnil : a = none → l.length = 0 ∧ cap = 0 := fun e => by have h1 := h.nil e; have h2 := h.le; omega
  have hszE : w1.heap.size ≤ (w1.alloc (.cells #[] 79)).heap.size := by simp
  go_wp2_with (at_builtin; refine wpList_append_opt rfl (.tmp 16) (.tmp 17) 30 rfl w1.heap.size 79 i0 (.agg #[.int .i64 0, .int .i64 0, .int .i64 0]) 3 24 Try.underlying30 hi hz0 hz1 hz2 rfl (by decide) _ _ _ rfl hO0 a l.length cap (fcells l) rfl hnil (fcells_len l) hcl hone (by unfold maxLen; omega) (by omega) hszE ?_)
  intro v5 w5 hO5 hgr5
  have hk5 := keep_grown hO0 hgr5
  try rw [Nat.zero_add, List.nil_append] at hO5
  have R5 := (R1.below hbE).block (hk5 _ _ _ _ (R1.below hbE) (by decide))
  have hbw5 : Below w.heap.size w w5 := hbwE.grown hgr5 hbwE.size (fun k e => by have h1 := own_geK hO0 k e; have h2 := hbw.size; omega)
  obtain ⟨ga, gc, rfl, hg1, hg2, -⟩ := own_rl hO5
  have hF6 := own_monoK hO5 hbw.size
  clear hO5 hgr5 hk5 hO0 hcl hone hnil hszE hbE hbwE R1 h hbw hi hz0 hz1 hz2
  have hb6 : Below w5.heap.size w5 (w5.alloc (.cells #[.slice none 0 0, .slice none 0 0, .int .i64 0, .slice ga l.length gc, .bool false] 32)) := (Below.refl _ _).alloc (Nat.le_refl _) _
  have X6 := VN.new w5 32 [.slice none 0 0, .slice none 0 0, .int .i64 0, .slice ga l.length gc, .bool false]
  have HN0 : Hid (N1 w l ga gc w5.heap.size 0 (w5.alloc (.cells #[.slice none 0 0, .slice none 0 0, .int .i64 0, .slice ga l.length gc, .bool false] 32))) := ⟨_, [], ⟨hbw5.trans (hb6.mono hbw5.size), R5.below hb6, X6, by have := R5.lt; omega⟩, own_nilK _ _ _ _, Bs.nil _ _, own_upK hF6 (Up.ofBelow hb6)⟩
  have hnn : (n.toNat : Int) = n := by omega
  have hnb : n.toNat ≤ 48 := by omega
  obtain ⟨X, hX⟩ := hidEx w5.heap.size
  rw [hX.out] at HN0
  clear R5 hbw5 hF6 hb6 X6
  go_wp2_with fail
  rw [hX.out]
  go_loopg [6] n.toNat (fun q i wr => ∃ k : Nat, k ≤ n.toNat ∧ q = n.toNat - k ∧ i = .int .i64 k ∧ N1 w l ga gc X k wr)
  case atStart => exact ⟨0, Nat.zero_le _, rfl, rfl, HN0.out⟩
  case round =>
    clear HN0
    obtain ⟨i0, hi, hz0, hz1, hz2⟩ := infoSec
    obtain ⟨k, hk, rfl, rfl, vS, ss, hT, hO, hBs, hF⟩ := hrel
    have y0 : wr.cell? ⟨X, 0, none⟩ = some vS := hT.o.cell 0
    have y1 : wr.cell? ⟨X, 1, none⟩ = some (.slice none 0 0) := hT.o.cell 1
    have y2 : wr.cell? ⟨X, 2, none⟩ = some (.int .i64 0) := hT.o.cell 2
    have y3 : wr.cell? ⟨X, 3, none⟩ = some (.slice ga l.length gc) := hT.o.cell 3
    have y4 : wr.cell? ⟨X, 4, none⟩ = some (.bool false) := hT.o.cell 4
    by_cases hlt : k < n.toNat
    · have hkz : (k : Int) < n := by omega
      have hbA : Below wr.heap.size wr ((wr.alloc (.cells #[] 5)).alloc (.cells #[.slice (some ⟨wr.heap.size, 0, none⟩) 0 0] 27)) := ((Below.refl _ _).alloc (Nat.le_refl _) _).alloc (by simp) _
      have hcl : ∀ j u, [Value.slice (some ⟨wr.heap.size, 0, none⟩) 0 0][j]? = some u → ((wr.alloc (.cells #[] 5)).alloc (.cells #[.slice (some ⟨wr.heap.size, 0, none⟩) 0 0] 27)).cell? ((⟨wr.heap.size + 1, 0, none⟩ : Addr).add j) = some u := by
        intro j u hj
        match j, hj with
        | 0, hj => cases hj; simp [Addr.add]
      have hsz : w.heap.size ≤ ((wr.alloc (.cells #[] 5)).alloc (.cells #[.slice (some ⟨wr.heap.size, 0, none⟩) 0 0] 27)).heap.size := Nat.le_trans hT.below.size hbA.size
      have hnew := hBs.newer (g := wr.heap.size) (Nat.le_refl _)
      have hge := hT.below.size
      have hlt2 : wr.heap.size < ((wr.alloc (.cells #[] 5)).alloc (.cells #[.slice (some ⟨wr.heap.size, 0, none⟩) 0 0] 27)).heap.size := by simp; omega
      replace hO := own_upK hO (Up.ofBelow hbA)
      replace hT := hT.on hbA
      replace hF := own_upK hF (Up.ofBelow hbA)
      replace hBs := (hBs.up (Up.ofBelow hbA)).push (v := .slice (some ⟨wr.heap.size, 0, none⟩) 0 0) (l := []) ⟨some ⟨wr.heap.size, 0, none⟩, 0, rfl, Nat.le_refl _, (fun e => by cases e), by simp, .inl rfl⟩ (fun g e => by cases e; exact ⟨⟨hge, hlt2⟩, hnew⟩)
      clear hbA hnew hge hlt2
      go_wp2_with (at_builtin; refine wpList_append_own _ rfl (.tmp 26) (.tmp 28) 22 rfl w.heap.size 27 i0 (.slice none 0 0) 1 24 Try.underlying22 hi hz0 hz1 hz2 rfl (by decide) _ _ _ rfl hO ⟨wr.heap.size + 1, 0, none⟩ 1 1 [.slice (some ⟨wr.heap.size, 0, none⟩) 0 0] rfl rfl hcl (by intro u hu; simp at hu; subst hu; rfl) (by unfold maxLen; omega) (by omega) hsz ?_)
      intro v6 w6 hO6 hgr6 hnil6
      have hK6 := keep_grown hO hgr6
      replace hT := hT.grow hgr6 (own_geK hO) hK6 (by decide)
      replace hBs := hBs.keepT hK6 hgr6.size (by decide)
      replace hF := own_keepT hF hK6 (by decide)
      obtain ⟨b6, c6, rfl⟩ := own_succK hO6
      clear hO hgr6 hnil6 hcl hK6 y0 y1 y2 y3 y4 hsz
      have y0 : w6.cell? ⟨X, 0, none⟩ = some vS := hT.o.cell 0
      have q0 := hT.o.fz 0
      have hkS := keep_vn (P := fun t => t = 32) (i := 0) (u := .slice (some ⟨b6, 0, none⟩) (k + 1) c6) hT.o rfl
      replace hO6 := own_keepT hO6 hkS (by decide)
      replace hBs := hBs.keepT hkS (by simp) (by decide)
      replace hF := own_keepT hF hkS (by decide)
      replace hT := hT.set 0 (.slice (some ⟨b6, 0, none⟩) (k + 1) c6)
      simp only [List.set] at hT
      have HR : Hid (N1 w l ga gc X (k + 1) (w6.setCell ⟨X, 0, none⟩ (.slice (some ⟨b6, 0, none⟩) (k + 1) c6))) := ⟨_, _, hT, hO6, by rw [List.replicate_succ']; exact hBs, hF⟩
      clear hT hO6 hBs hF hkS
      go_wp2
      go_roundg (n.toNat - (k + 1))
      case measure => omega
      case rel => exact ⟨k + 1, by omega, rfl, by go_num, HR.out⟩
    · obtain rfl : k = n.toNat := by omega
      have hkz : ¬ ((n.toNat : Nat) : Int) < n := by omega
      obtain ⟨ta, tc, rfl, t1, t2, RS⟩ := own_rl hO
      have hssl : ss.length = n.toNat := by have := hO.1; omega
      have r0 : wr.cell? ⟨w.heap.size, 0, none⟩ = some (.slice none 0 0) := hT.r.cell 0
      have r1 : wr.cell? ⟨w.heap.size, 1, none⟩ = some (.slice none 0 0) := hT.r.cell 1
      have r2 : wr.cell? ⟨w.heap.size, 2, none⟩ = some (.int .i64 0) := hT.r.cell 2
      have r3 : wr.cell? ⟨w.heap.size, 3, none⟩ = some (.slice none 0 0) := hT.r.cell 3
      have r4 : wr.cell? ⟨w.heap.size, 4, none⟩ = some (.bool false) := hT.r.cell 4
      have z0 := hT.r.fz 0
      have z1 := hT.r.fz 1
      have z2 := hT.r.fz 2
      have z3 := hT.r.fz 3
      have z4 := hT.r.fz 4
      have T9 := ((((hT.ret 0 (.slice ta n.toNat tc)).ret 1 (.slice none 0 0)).ret 2 (.int .i64 0)).ret 3 (.slice ga l.length gc)).ret 4 (.bool false)
      simp only [List.set] at T9
      have m0 : (((((wr.setCell ⟨w.heap.size, 0, none⟩ (.slice ta n.toNat tc)).setCell ⟨w.heap.size, 1, none⟩ (.slice none 0 0)).setCell ⟨w.heap.size, 2, none⟩ (.int .i64 0)).setCell ⟨w.heap.size, 3, none⟩ (.slice ga l.length gc)).setCell ⟨w.heap.size, 4, none⟩ (.bool false)).cell? ⟨w.heap.size, 0, none⟩ = some (.slice ta n.toNat tc) := T9.r.cell 0
      have m1 : (((((wr.setCell ⟨w.heap.size, 0, none⟩ (.slice ta n.toNat tc)).setCell ⟨w.heap.size, 1, none⟩ (.slice none 0 0)).setCell ⟨w.heap.size, 2, none⟩ (.int .i64 0)).setCell ⟨w.heap.size, 3, none⟩ (.slice ga l.length gc)).setCell ⟨w.heap.size, 4, none⟩ (.bool false)).cell? ⟨w.heap.size, 1, none⟩ = some (.slice none 0 0) := T9.r.cell 1
      have m2 : (((((wr.setCell ⟨w.heap.size, 0, none⟩ (.slice ta n.toNat tc)).setCell ⟨w.heap.size, 1, none⟩ (.slice none 0 0)).setCell ⟨w.heap.size, 2, none⟩ (.int .i64 0)).setCell ⟨w.heap.size, 3, none⟩ (.slice ga l.length gc)).setCell ⟨w.heap.size, 4, none⟩ (.bool false)).cell? ⟨w.heap.size, 2, none⟩ = some (.int .i64 0) := T9.r.cell 2
      have m3 : (((((wr.setCell ⟨w.heap.size, 0, none⟩ (.slice ta n.toNat tc)).setCell ⟨w.heap.size, 1, none⟩ (.slice none 0 0)).setCell ⟨w.heap.size, 2, none⟩ (.int .i64 0)).setCell ⟨w.heap.size, 3, none⟩ (.slice ga l.length gc)).setCell ⟨w.heap.size, 4, none⟩ (.bool false)).cell? ⟨w.heap.size, 3, none⟩ = some (.slice ga l.length gc) := T9.r.cell 3
      have m4 : (((((wr.setCell ⟨w.heap.size, 0, none⟩ (.slice ta n.toNat tc)).setCell ⟨w.heap.size, 1, none⟩ (.slice none 0 0)).setCell ⟨w.heap.size, 2, none⟩ (.int .i64 0)).setCell ⟨w.heap.size, 3, none⟩ (.slice ga l.length gc)).setCell ⟨w.heap.size, 4, none⟩ (.bool false)).cell? ⟨w.heap.size, 4, none⟩ = some (.bool false) := T9.r.cell 4
      have KB : KeepT (fun t => t = 32) wr (((((wr.setCell ⟨w.heap.size, 0, none⟩ (.slice ta n.toNat tc)).setCell ⟨w.heap.size, 1, none⟩ (.slice none 0 0)).setCell ⟨w.heap.size, 2, none⟩ (.int .i64 0)).setCell ⟨w.heap.size, 3, none⟩ (.slice ga l.length gc)).setCell ⟨w.heap.size, 4, none⟩ (.bool false)) := (KeepT.trans (KeepT.trans (KeepT.trans (KeepT.trans (keep_vn (P := fun t => t = 32) (i := 0) (u := .slice ta n.toNat tc) hT.r rfl) (keep_vn (P := fun t => t = 32) (i := 1) (u := .slice none 0 0) (hT.ret 0 (.slice ta n.toNat tc)).r rfl)) (keep_vn (P := fun t => t = 32) (i := 2) (u := .int .i64 0) ((hT.ret 0 (.slice ta n.toNat tc)).ret 1 (.slice none 0 0)).r rfl)) (keep_vn (P := fun t => t = 32) (i := 3) (u := .slice ga l.length gc) (((hT.ret 0 (.slice ta n.toNat tc)).ret 1 (.slice none 0 0)).ret 2 (.int .i64 0)).r rfl)) (keep_vn (P := fun t => t = 32) (i := 4) (u := .bool false) ((((hT.ret 0 (.slice ta n.toNat tc)).ret 1 (.slice none 0 0)).ret 2 (.int .i64 0)).ret 3 (.slice ga l.length gc)).r rfl))
      have hsz9 : wr.heap.size ≤ (((((wr.setCell ⟨w.heap.size, 0, none⟩ (.slice ta n.toNat tc)).setCell ⟨w.heap.size, 1, none⟩ (.slice none 0 0)).setCell ⟨w.heap.size, 2, none⟩ (.int .i64 0)).setCell ⟨w.heap.size, 3, none⟩ (.slice ga l.length gc)).setCell ⟨w.heap.size, 4, none⟩ (.bool false)).heap.size := by simp
      have HR : Hid (KOC (((((wr.setCell ⟨w.heap.size, 0, none⟩ (.slice ta n.toNat tc)).setCell ⟨w.heap.size, 1, none⟩ (.slice none 0 0)).setCell ⟨w.heap.size, 2, none⟩ (.int .i64 0)).setCell ⟨w.heap.size, 3, none⟩ (.slice ga l.length gc)).setCell ⟨w.heap.size, 4, none⟩ (.bool false)) w.heap.size (.agg #[.slice ta n.toNat tc, .slice none 0 0, .int .i64 0, .slice ga l.length gc, .bool false]) (madeD n.toNat l) ∧ Below w.heap.size w (((((wr.setCell ⟨w.heap.size, 0, none⟩ (.slice ta n.toNat tc)).setCell ⟨w.heap.size, 1, none⟩ (.slice none 0 0)).setCell ⟨w.heap.size, 2, none⟩ (.int .i64 0)).setCell ⟨w.heap.size, 3, none⟩ (.slice ga l.length gc)).setCell ⟨w.heap.size, 4, none⟩ (.bool false))) := by
        refine ⟨⟨ta, tc, none, 0, ga, gc, ss, [], ?_, ⟨by simpa [madeD] using t1, t2, Nat.le_refl _, fun _ => rfl, hg1, hg2, by simpa [madeD] using hssl, rfl, RS.keepT KB (by decide), .inl rfl, own_rlF (own_keepT hF KB (by decide)), ?_⟩, own_nilK _ _ _ _, own_keepT hF KB (by decide)⟩, T9.below⟩
        · simp [dval, madeD]
        · simpa [madeD] using hBs.keepT KB hsz9 (by decide)
      clear T9 hT hO hBs hF RS KB
      go_wp2
      refine bodyPost_ret (v := .agg #[.slice ta n.toNat tc, .slice none 0 0, .int .i64 0, .slice ga l.length gc, .bool false]) (by simp [results, Try.results37, go_sem, m0, m1, m2, m3, m4]) rfl ⟨_, rfl, HR.out.2, .inl ⟨⟨hr, HRF.out.1 (by simp)⟩, HR.out.1⟩⟩
end Go.Proofs.Ytdhfbblameiloaa

