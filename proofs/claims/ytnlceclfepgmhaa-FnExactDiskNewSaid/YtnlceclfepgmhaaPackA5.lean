/-
  Together: DiskNewS, DiskNewI
-/
import Derived.Test.YtnlceclfepgmhaaPackA4
import Derived.Test.YtnlceclfepgmhaaDiskFaults
import Derived.Test.YtnlceclfepgmhaaPackA3
import Derived.Deep.RegionHeld3
/-
  The model's DiskNew.
-/
namespace Go.Proofs.Ytnlceclfepgmhaa
open Go.RowKit
set_option maxRecDepth 4000

theorem wpList_append_opt {w : World} {ops : Array Oper} {rest : List Oper} {o : Oper} {a : Act} {Q : Exit → Act → World → Prop} (hgd : o.guard = none) (s x : Operand) (t : TypeId)
    (ho : o.op = .call { callee := .builtin .append, args := #[s, x], argTypes := #[t, t] })
    (base : Nat) (e : TypeId) (i : TypeInfo) (z : Value) (size bytes : Nat) (ht : Try.prog.underlying t = some (.slice e)) (hi : Try.prog.info? e = some i) (hz : i.zero = some z)
    (hsize : i.size = size) (hby : i.bytes = bytes) (hzs : z.cells.size = size) (hsz : 0 < size)
    (v : Value) (n : Nat) (xs : List Value) (hs : a.eval s = v) (hown : w.ownsRow base e size v n xs)
    (ao : Option Addr) (m c : Nat) (news : List Value) (hx : a.eval x = .slice ao m c) (hno : ao = none → m = 0 ∧ c = 0) (hl : news.length = m * size) (hnews : ∀ ad, ao = some ad → ∀ j u, news[j]? = some u → w.cell? (ad.add j) = some u) (h1 : ∀ u ∈ news, u.oneCell' = true)
    (h63 : n + m ≤ maxLen) (hbytes : (n + m) * bytes ≤ 140737488355328) (hbase : base ≤ w.heap.size)
    (h : ∀ v' w', w'.ownsRow base e size v' (n + m) (xs ++ news) → w.grownBy w' v.ownBlock → wpList Try.prog ops Q rest (a.put o.dst v') w') : wpList Try.prog ops Q (o :: rest) a w :=
  wpList_plain hgd fun _ hK => wp_append_opt s x t ho base e i z size bytes ht hi hz hsize hby hzs hsz v n xs hs hown ao m c news hx hno hl hnews h1 h63 hbytes hbase fun v' w' h2 h3 => hK _ _ (h v' w' h2 h3)

/-- A new disk, or the zero one. -/
def NewOk (n : Int) (l : List PFault) : Prop := (4 ≤ n ∧ n ≤ 48) ∧ FaultsOk l
def zeroD : PDisk := ⟨[], [], 0, [], false⟩
def madeD (n : Nat) (l : List PFault) : PDisk := ⟨List.replicate n [], [], 0, l, false⟩
/-- What DiskNew comes to. -/
def NewTo (w : World) (n : Int) (l : List PFault) (e : Ending) (w' : World) : Prop := ∃ v', e = .returned v' ∧ Below w.heap.size w w' ∧ ((NewOk n l ∧ KOwn w' w.heap.size v' (madeD n.toNat l)) ∨ (¬ NewOk n l ∧ KOwn w' w.heap.size v' zeroD))
theorem zero_own (w : World) (B : Nat) : KOwn w B (.agg #[.slice none 0 0, .slice none 0 0, .int .i64 0, .slice none 0 0, .bool false]) zeroD :=
  ⟨none, 0, none, 0, none, 0, [], [], rfl, ⟨Nat.le_refl _, fun _ => rfl, Nat.le_refl _, fun _ => rfl, Nat.le_refl _, fun _ => rfl, rfl, rfl, .inl rfl, .inl rfl, .inl rfl, Bs.nil _ _⟩⟩

/-- The answer's variable, and the new disk's. -/
structure TN (w W : World) (X : Nat) (zs ys : List Value) : Prop where
  below : Below w.heap.size w W
  r : VN W w.heap.size 28 zs
  o : VN W X 28 ys
  ge : w.heap.size < X
theorem TN.on {w W W' : World} {X : Nat} {zs ys : List Value} (h : TN w W X zs ys) (hb : Below W.heap.size W W') : TN w W' X zs ys :=
  ⟨h.below.trans (hb.mono h.below.size), h.r.below hb, h.o.below hb, h.ge⟩
theorem TN.grow {w W W' : World} {X T : Nat} {zs ys : List Value} {row : Option Nat} (h : TN w W X zs ys) (hg : W.grownBy W' row) (hr : ∀ k, row = some k → w.heap.size ≤ k) (hk : KeepT (fun t => t = T) W W') (hT : 28 ≠ T) : TN w W' X zs ys :=
  ⟨h.below.grown hg h.below.size hr, h.r.block (hk _ _ _ _ h.r hT), h.o.block (hk _ _ _ _ h.o hT), h.ge⟩
theorem TN.set {w W : World} {X : Nat} {zs ys : List Value} (h : TN w W X zs ys) (i : Nat) (u : Value) : TN w (W.setCell ⟨X, i, none⟩ u) X zs (ys.set i u) :=
  have hge := h.ge
  ⟨h.below.setCell (p := ⟨X, i, none⟩) (by simp; omega) _, h.r.other (by omega), h.o.set i u, h.ge⟩
theorem TN.ret {w W : World} {X : Nat} {zs ys : List Value} (h : TN w W X zs ys) (i : Nat) (u : Value) : TN w (W.setCell ⟨w.heap.size, i, none⟩ u) X (zs.set i u) ys :=
  have hge := h.ge
  ⟨h.below.setCell (p := ⟨w.heap.size, i, none⟩) (by simp) _, h.r.set i u, h.o.other (by omega), h.ge⟩

/-- k sectors without anything. -/
def N1 (w : World) (l : List PFault) (ga : Option Addr) (gc : Nat) (X : Nat) (k : Nat) (W : World) : Prop :=
  ∃ (v : Value) (ss : List Value), TN w W X [.slice none 0 0, .slice none 0 0, .int .i64 0, .slice none 0 0, .bool false] [v, .slice none 0 0, .int .i64 0, .slice ga l.length gc, .bool false] ∧ W.ownsRow w.heap.size 22 1 v k ss ∧ Bs W w.heap.size ss (List.replicate k []) ∧ RL 69 W w.heap.size ga (fcells l)

set_option maxHeartbeats 8000000 in
theorem specDiskNew_any (n : Int) (a : Option Addr) (cap : Nat) (l : List PFault) (w : World) (h : FView w a cap l) (hn : l.length ≤ 1048576) :
    Calls Try.prog 29 #[.int .i64 n, .slice a l.length cap] w (NewTo w n l) := by
  obtain ⟨i0, hi, hz0, hz1, hz2⟩ := infoFault
  have hbA : Below w.heap.size w (w.alloc (.cells #[.slice none 0 0, .slice none 0 0, .int .i64 0, .slice none 0 0, .bool false] 28)) := (Below.refl _ _).alloc (Nat.le_refl _) _
  by_cases hr : 4 ≤ n ∧ n ≤ 48
  case neg =>
    have hV := fun W => l1In_no n 4 48 W (by omega)
    clear h
    go_enter Try.func29, Try.ntmps29
    go_wp2_with fail
    refine (hV _).mono ?_
    rintro e w1 ⟨rfl, rfl⟩
    clear hV
    go_wp2
    refine bodyPost_ret (v := .agg #[.slice none 0 0, .slice none 0 0, .int .i64 0, .slice none 0 0, .bool false]) (by simp [results, Try.results29, go_sem]) rfl ⟨_, rfl, hbA, .inr ⟨fun h => hr h.1, zero_own _ _⟩⟩
  have hV := fun W => l1In_yes n 4 48 W hr.1 hr.2
  have R0 := VN.new w 28 [.slice none 0 0, .slice none 0 0, .int .i64 0, .slice none 0 0, .bool false]
  have hF := l12Faults_any a cap l _ (fview_below h hbA) hn
  go_enter Try.func29, Try.ntmps29
  go_wp2_with fail
  refine (hV _).mono ?_
  rintro e w1 ⟨rfl, rfl⟩
  clear hV
  go_wp2_with fail
  refine hF.mono ?_
  rintro e w1 ⟨r, rfl, hrf, hb1⟩
  have HRF : Hid (r = true ↔ FaultsOk l) := hrf
  have hbw : Below w.heap.size w w1 := hbA.trans (hb1.mono hbA.size)
  have R1 := R0.below hb1
  clear hF hrf R0 hb1 hbA
  cases r
  · have r0 : w1.cell? ⟨w.heap.size, 0, none⟩ = some (.slice none 0 0) := R1.cell 0
    have r1 : w1.cell? ⟨w.heap.size, 1, none⟩ = some (.slice none 0 0) := R1.cell 1
    have r2 : w1.cell? ⟨w.heap.size, 2, none⟩ = some (.int .i64 0) := R1.cell 2
    have r3 : w1.cell? ⟨w.heap.size, 3, none⟩ = some (.slice none 0 0) := R1.cell 3
    have r4 : w1.cell? ⟨w.heap.size, 4, none⟩ = some (.bool false) := R1.cell 4
    have z0 := R1.fz 0
    have z1 := R1.fz 1
    have z2 := R1.fz 2
    have z3 := R1.fz 3
    have z4 := R1.fz 4
    have R9 := ((((R1.set 0 (.slice none 0 0)).set 1 (.slice none 0 0)).set 2 (.int .i64 0)).set 3 (.slice none 0 0)).set 4 (.bool false)
    simp only [List.set] at R9
    have HB : Hid (Below w.heap.size w (((((w1.setCell ⟨w.heap.size, 0, none⟩ (.slice none 0 0)).setCell ⟨w.heap.size, 1, none⟩ (.slice none 0 0)).setCell ⟨w.heap.size, 2, none⟩ (.int .i64 0)).setCell ⟨w.heap.size, 3, none⟩ (.slice none 0 0)).setCell ⟨w.heap.size, 4, none⟩ (.bool false))) := ((((hbw.setCell (p := ⟨w.heap.size, 0, none⟩) (by simp) _).setCell (p := ⟨w.heap.size, 1, none⟩) (by simp) _).setCell (p := ⟨w.heap.size, 2, none⟩) (by simp) _).setCell (p := ⟨w.heap.size, 3, none⟩) (by simp) _).setCell (p := ⟨w.heap.size, 4, none⟩) (by simp) _
    have m0 : (((((w1.setCell ⟨w.heap.size, 0, none⟩ (.slice none 0 0)).setCell ⟨w.heap.size, 1, none⟩ (.slice none 0 0)).setCell ⟨w.heap.size, 2, none⟩ (.int .i64 0)).setCell ⟨w.heap.size, 3, none⟩ (.slice none 0 0)).setCell ⟨w.heap.size, 4, none⟩ (.bool false)).cell? ⟨w.heap.size, 0, none⟩ = some (.slice none 0 0) := R9.cell 0
    have m1 : (((((w1.setCell ⟨w.heap.size, 0, none⟩ (.slice none 0 0)).setCell ⟨w.heap.size, 1, none⟩ (.slice none 0 0)).setCell ⟨w.heap.size, 2, none⟩ (.int .i64 0)).setCell ⟨w.heap.size, 3, none⟩ (.slice none 0 0)).setCell ⟨w.heap.size, 4, none⟩ (.bool false)).cell? ⟨w.heap.size, 1, none⟩ = some (.slice none 0 0) := R9.cell 1
    have m2 : (((((w1.setCell ⟨w.heap.size, 0, none⟩ (.slice none 0 0)).setCell ⟨w.heap.size, 1, none⟩ (.slice none 0 0)).setCell ⟨w.heap.size, 2, none⟩ (.int .i64 0)).setCell ⟨w.heap.size, 3, none⟩ (.slice none 0 0)).setCell ⟨w.heap.size, 4, none⟩ (.bool false)).cell? ⟨w.heap.size, 2, none⟩ = some (.int .i64 0) := R9.cell 2
    have m3 : (((((w1.setCell ⟨w.heap.size, 0, none⟩ (.slice none 0 0)).setCell ⟨w.heap.size, 1, none⟩ (.slice none 0 0)).setCell ⟨w.heap.size, 2, none⟩ (.int .i64 0)).setCell ⟨w.heap.size, 3, none⟩ (.slice none 0 0)).setCell ⟨w.heap.size, 4, none⟩ (.bool false)).cell? ⟨w.heap.size, 3, none⟩ = some (.slice none 0 0) := R9.cell 3
    have m4 : (((((w1.setCell ⟨w.heap.size, 0, none⟩ (.slice none 0 0)).setCell ⟨w.heap.size, 1, none⟩ (.slice none 0 0)).setCell ⟨w.heap.size, 2, none⟩ (.int .i64 0)).setCell ⟨w.heap.size, 3, none⟩ (.slice none 0 0)).setCell ⟨w.heap.size, 4, none⟩ (.bool false)).cell? ⟨w.heap.size, 4, none⟩ = some (.bool false) := R9.cell 4
    clear R1 R9 h hbw
    go_wp2
    refine bodyPost_ret (v := .agg #[.slice none 0 0, .slice none 0 0, .int .i64 0, .slice none 0 0, .bool false]) (by simp [results, Try.results29, go_sem, m0, m1, m2, m3, m4]) rfl ⟨_, rfl, HB.out, .inr ⟨fun h => (by have := HRF.out.2 h.2; cases this), zero_own _ _⟩⟩
  have hbE : Below w1.heap.size w1 (w1.alloc (.cells #[] 69)) := (Below.refl _ _).alloc (Nat.le_refl _) _
  have hO0 := own_emptyK w1 69 3
  have hbwE := hbw.trans (hbE.mono hbw.size)
  have hcl := fview_news (fview_below h hbwE)
  have hone := fcells_one l
  have hnil : a = none → l.length = 0 ∧ cap = 0 := fun e => by have h1 := h.nil e; have h2 := h.le; omega
  have hszE : w1.heap.size ≤ (w1.alloc (.cells #[] 69)).heap.size := by simp
  go_wp2_with (at_builtin; refine wpList_append_opt rfl (.tmp 16) (.tmp 17) 26 rfl w1.heap.size 69 i0 (.agg #[.int .i64 0, .int .i64 0, .int .i64 0]) 3 24 Try.underlying26 hi hz0 hz1 hz2 rfl (by decide) _ _ _ rfl hO0 a l.length cap (fcells l) rfl hnil (fcells_len l) hcl hone (by unfold maxLen; omega) (by omega) hszE ?_)
  intro v5 w5 hO5 hgr5
  have hk5 := keep_grown hO0 hgr5
  try rw [Nat.zero_add, List.nil_append] at hO5
  have R5 := (R1.below hbE).block (hk5 _ _ _ _ (R1.below hbE) (by decide))
  have hbw5 : Below w.heap.size w w5 := hbwE.grown hgr5 hbwE.size (fun k e => by have h1 := own_geK hO0 k e; have h2 := hbw.size; omega)
  obtain ⟨ga, gc, rfl, hg1, hg2, hF5⟩ := own_rl hO5
  have hF6 := hF5.mono hbw.size
  clear hO5 hgr5 hk5 hO0 hcl hone hnil hszE hbE hbwE R1 hF5 h hbw hi hz0 hz1 hz2
  have hb6 : Below w5.heap.size w5 (w5.alloc (.cells #[.slice none 0 0, .slice none 0 0, .int .i64 0, .slice ga l.length gc, .bool false] 28)) := (Below.refl _ _).alloc (Nat.le_refl _) _
  have X6 := VN.new w5 28 [.slice none 0 0, .slice none 0 0, .int .i64 0, .slice ga l.length gc, .bool false]
  have HN0 : Hid (N1 w l ga gc w5.heap.size 0 (w5.alloc (.cells #[.slice none 0 0, .slice none 0 0, .int .i64 0, .slice ga l.length gc, .bool false] 28))) := ⟨_, [], ⟨hbw5.trans (hb6.mono hbw5.size), R5.below hb6, X6, by have := R5.lt; omega⟩, own_nilK _ _ _ _, Bs.nil _ _, hF6.up (Up.ofBelow hb6)⟩
  have hnn : (n.toNat : Int) = n := by omega
  have hnb : n.toNat ≤ 48 := by omega
  obtain ⟨X, hX⟩ := hidEx w5.heap.size
  rw [hX.out] at HN0
  clear R5 hbw5 hF6 hb6 X6
  go_wp2_with fail
  rw [hX.out]
  go_loopg [6] n.toNat (fun q i wr => ∃ k : Nat, k ≤ n.toNat ∧ q = n.toNat - k ∧ i = .int .i64 k ∧ N1 w l ga gc X k wr)
  case atStart => exact ⟨0, Nat.zero_le _, rfl, rfl, HN0.out⟩
  case round =>
    clear HN0
    obtain ⟨i0, hi, hz0, hz1, hz2⟩ := infoSec
    obtain ⟨k, hk, rfl, rfl, vS, ss, hT, hO, hBs, hF⟩ := hrel
    have y0 : wr.cell? ⟨X, 0, none⟩ = some vS := hT.o.cell 0
    have y1 : wr.cell? ⟨X, 1, none⟩ = some (.slice none 0 0) := hT.o.cell 1
    have y2 : wr.cell? ⟨X, 2, none⟩ = some (.int .i64 0) := hT.o.cell 2
    have y3 : wr.cell? ⟨X, 3, none⟩ = some (.slice ga l.length gc) := hT.o.cell 3
    have y4 : wr.cell? ⟨X, 4, none⟩ = some (.bool false) := hT.o.cell 4
    by_cases hlt : k < n.toNat
    · have hkz : (k : Int) < n := by omega
      have hbA : Below wr.heap.size wr ((wr.alloc (.cells #[] 5)).alloc (.cells #[.slice (some ⟨wr.heap.size, 0, none⟩) 0 0] 22)) := ((Below.refl _ _).alloc (Nat.le_refl _) _).alloc (by simp) _
      have hcl : ∀ j u, [Value.slice (some ⟨wr.heap.size, 0, none⟩) 0 0][j]? = some u → ((wr.alloc (.cells #[] 5)).alloc (.cells #[.slice (some ⟨wr.heap.size, 0, none⟩) 0 0] 22)).cell? ((⟨wr.heap.size + 1, 0, none⟩ : Addr).add j) = some u := by
        intro j u hj
        match j, hj with
        | 0, hj => cases hj; simp [Addr.add]
      have hsz : w.heap.size ≤ ((wr.alloc (.cells #[] 5)).alloc (.cells #[.slice (some ⟨wr.heap.size, 0, none⟩) 0 0] 22)).heap.size := Nat.le_trans hT.below.size hbA.size
      have hnew := hBs.newer (g := wr.heap.size) (Nat.le_refl _)
      have hge := hT.below.size
      have hlt2 : wr.heap.size < ((wr.alloc (.cells #[] 5)).alloc (.cells #[.slice (some ⟨wr.heap.size, 0, none⟩) 0 0] 22)).heap.size := by simp; omega
      replace hO := own_upK hO (Up.ofBelow hbA)
      replace hT := hT.on hbA
      replace hF := hF.up (Up.ofBelow hbA)
      replace hBs := (hBs.up (Up.ofBelow hbA)).push (v := .slice (some ⟨wr.heap.size, 0, none⟩) 0 0) (l := []) ⟨some ⟨wr.heap.size, 0, none⟩, 0, rfl, Nat.le_refl _, (fun e => by cases e), by simp, .inl rfl⟩ (fun g e => by cases e; exact ⟨⟨hge, hlt2⟩, hnew⟩)
      clear hbA hnew hge hlt2
      go_wp2_with (at_builtin; refine wpList_append_own _ rfl (.tmp 26) (.tmp 28) 24 rfl w.heap.size 22 i0 (.slice none 0 0) 1 24 Try.underlying24 hi hz0 hz1 hz2 rfl (by decide) _ _ _ rfl hO ⟨wr.heap.size + 1, 0, none⟩ 1 1 [.slice (some ⟨wr.heap.size, 0, none⟩) 0 0] rfl rfl hcl (by intro u hu; simp at hu; subst hu; rfl) (by unfold maxLen; omega) (by omega) hsz ?_)
      intro v6 w6 hO6 hgr6 hnil6
      have hK6 := keep_grown hO hgr6
      replace hT := hT.grow hgr6 (own_geK hO) hK6 (by decide)
      replace hBs := hBs.keepT hK6 hgr6.size (by decide)
      replace hF := hF.keepT hK6 (by decide)
      obtain ⟨b6, c6, rfl⟩ := own_succK hO6
      clear hO hgr6 hnil6 hcl hK6 y0 y1 y2 y3 y4 hsz
      have y0 : w6.cell? ⟨X, 0, none⟩ = some vS := hT.o.cell 0
      have q0 := hT.o.fz 0
      have hkS := keep_vn (P := fun t => t = 28) (i := 0) (u := .slice (some ⟨b6, 0, none⟩) (k + 1) c6) hT.o rfl
      replace hO6 := own_keepT hO6 hkS (by decide)
      replace hBs := hBs.keepT hkS (by simp) (by decide)
      replace hF := hF.keepT hkS (by decide)
      replace hT := hT.set 0 (.slice (some ⟨b6, 0, none⟩) (k + 1) c6)
      simp only [List.set] at hT
      have HR : Hid (N1 w l ga gc X (k + 1) (w6.setCell ⟨X, 0, none⟩ (.slice (some ⟨b6, 0, none⟩) (k + 1) c6))) := ⟨_, _, hT, hO6, by rw [List.replicate_succ']; exact hBs, hF⟩
      clear hT hO6 hBs hF hkS
      go_wp2
      go_roundg (n.toNat - (k + 1))
      case measure => omega
      case rel => exact ⟨k + 1, by omega, rfl, by go_num, HR.out⟩
    · obtain rfl : k = n.toNat := by omega
      have hkz : ¬ ((n.toNat : Nat) : Int) < n := by omega
      obtain ⟨ta, tc, rfl, t1, t2, RS⟩ := own_rl hO
      have hssl : ss.length = n.toNat := by have := hO.1; omega
      have r0 : wr.cell? ⟨w.heap.size, 0, none⟩ = some (.slice none 0 0) := hT.r.cell 0
      have r1 : wr.cell? ⟨w.heap.size, 1, none⟩ = some (.slice none 0 0) := hT.r.cell 1
      have r2 : wr.cell? ⟨w.heap.size, 2, none⟩ = some (.int .i64 0) := hT.r.cell 2
      have r3 : wr.cell? ⟨w.heap.size, 3, none⟩ = some (.slice none 0 0) := hT.r.cell 3
      have r4 : wr.cell? ⟨w.heap.size, 4, none⟩ = some (.bool false) := hT.r.cell 4
      have z0 := hT.r.fz 0
      have z1 := hT.r.fz 1
      have z2 := hT.r.fz 2
      have z3 := hT.r.fz 3
      have z4 := hT.r.fz 4
      have T9 := ((((hT.ret 0 (.slice ta n.toNat tc)).ret 1 (.slice none 0 0)).ret 2 (.int .i64 0)).ret 3 (.slice ga l.length gc)).ret 4 (.bool false)
      simp only [List.set] at T9
      have m0 : (((((wr.setCell ⟨w.heap.size, 0, none⟩ (.slice ta n.toNat tc)).setCell ⟨w.heap.size, 1, none⟩ (.slice none 0 0)).setCell ⟨w.heap.size, 2, none⟩ (.int .i64 0)).setCell ⟨w.heap.size, 3, none⟩ (.slice ga l.length gc)).setCell ⟨w.heap.size, 4, none⟩ (.bool false)).cell? ⟨w.heap.size, 0, none⟩ = some (.slice ta n.toNat tc) := T9.r.cell 0
      have m1 : (((((wr.setCell ⟨w.heap.size, 0, none⟩ (.slice ta n.toNat tc)).setCell ⟨w.heap.size, 1, none⟩ (.slice none 0 0)).setCell ⟨w.heap.size, 2, none⟩ (.int .i64 0)).setCell ⟨w.heap.size, 3, none⟩ (.slice ga l.length gc)).setCell ⟨w.heap.size, 4, none⟩ (.bool false)).cell? ⟨w.heap.size, 1, none⟩ = some (.slice none 0 0) := T9.r.cell 1
      have m2 : (((((wr.setCell ⟨w.heap.size, 0, none⟩ (.slice ta n.toNat tc)).setCell ⟨w.heap.size, 1, none⟩ (.slice none 0 0)).setCell ⟨w.heap.size, 2, none⟩ (.int .i64 0)).setCell ⟨w.heap.size, 3, none⟩ (.slice ga l.length gc)).setCell ⟨w.heap.size, 4, none⟩ (.bool false)).cell? ⟨w.heap.size, 2, none⟩ = some (.int .i64 0) := T9.r.cell 2
      have m3 : (((((wr.setCell ⟨w.heap.size, 0, none⟩ (.slice ta n.toNat tc)).setCell ⟨w.heap.size, 1, none⟩ (.slice none 0 0)).setCell ⟨w.heap.size, 2, none⟩ (.int .i64 0)).setCell ⟨w.heap.size, 3, none⟩ (.slice ga l.length gc)).setCell ⟨w.heap.size, 4, none⟩ (.bool false)).cell? ⟨w.heap.size, 3, none⟩ = some (.slice ga l.length gc) := T9.r.cell 3
      have m4 : (((((wr.setCell ⟨w.heap.size, 0, none⟩ (.slice ta n.toNat tc)).setCell ⟨w.heap.size, 1, none⟩ (.slice none 0 0)).setCell ⟨w.heap.size, 2, none⟩ (.int .i64 0)).setCell ⟨w.heap.size, 3, none⟩ (.slice ga l.length gc)).setCell ⟨w.heap.size, 4, none⟩ (.bool false)).cell? ⟨w.heap.size, 4, none⟩ = some (.bool false) := T9.r.cell 4
      have KB : KeepT (fun t => t = 28) wr (((((wr.setCell ⟨w.heap.size, 0, none⟩ (.slice ta n.toNat tc)).setCell ⟨w.heap.size, 1, none⟩ (.slice none 0 0)).setCell ⟨w.heap.size, 2, none⟩ (.int .i64 0)).setCell ⟨w.heap.size, 3, none⟩ (.slice ga l.length gc)).setCell ⟨w.heap.size, 4, none⟩ (.bool false)) := (KeepT.trans (KeepT.trans (KeepT.trans (KeepT.trans (keep_vn (P := fun t => t = 28) (i := 0) (u := .slice ta n.toNat tc) hT.r rfl) (keep_vn (P := fun t => t = 28) (i := 1) (u := .slice none 0 0) (hT.ret 0 (.slice ta n.toNat tc)).r rfl)) (keep_vn (P := fun t => t = 28) (i := 2) (u := .int .i64 0) ((hT.ret 0 (.slice ta n.toNat tc)).ret 1 (.slice none 0 0)).r rfl)) (keep_vn (P := fun t => t = 28) (i := 3) (u := .slice ga l.length gc) (((hT.ret 0 (.slice ta n.toNat tc)).ret 1 (.slice none 0 0)).ret 2 (.int .i64 0)).r rfl)) (keep_vn (P := fun t => t = 28) (i := 4) (u := .bool false) ((((hT.ret 0 (.slice ta n.toNat tc)).ret 1 (.slice none 0 0)).ret 2 (.int .i64 0)).ret 3 (.slice ga l.length gc)).r rfl))
      have hsz9 : wr.heap.size ≤ (((((wr.setCell ⟨w.heap.size, 0, none⟩ (.slice ta n.toNat tc)).setCell ⟨w.heap.size, 1, none⟩ (.slice none 0 0)).setCell ⟨w.heap.size, 2, none⟩ (.int .i64 0)).setCell ⟨w.heap.size, 3, none⟩ (.slice ga l.length gc)).setCell ⟨w.heap.size, 4, none⟩ (.bool false)).heap.size := by simp
      have HR : Hid (KOwn (((((wr.setCell ⟨w.heap.size, 0, none⟩ (.slice ta n.toNat tc)).setCell ⟨w.heap.size, 1, none⟩ (.slice none 0 0)).setCell ⟨w.heap.size, 2, none⟩ (.int .i64 0)).setCell ⟨w.heap.size, 3, none⟩ (.slice ga l.length gc)).setCell ⟨w.heap.size, 4, none⟩ (.bool false)) w.heap.size (.agg #[.slice ta n.toNat tc, .slice none 0 0, .int .i64 0, .slice ga l.length gc, .bool false]) (madeD n.toNat l) ∧ Below w.heap.size w (((((wr.setCell ⟨w.heap.size, 0, none⟩ (.slice ta n.toNat tc)).setCell ⟨w.heap.size, 1, none⟩ (.slice none 0 0)).setCell ⟨w.heap.size, 2, none⟩ (.int .i64 0)).setCell ⟨w.heap.size, 3, none⟩ (.slice ga l.length gc)).setCell ⟨w.heap.size, 4, none⟩ (.bool false))) := by
        refine ⟨⟨ta, tc, none, 0, ga, gc, ss, [], ?_, ⟨by simpa [madeD] using t1, t2, Nat.le_refl _, fun _ => rfl, hg1, hg2, by simpa [madeD] using hssl, rfl, RS.keepT KB (by decide), .inl rfl, hF.keepT KB (by decide), ?_⟩⟩, T9.below⟩
        · simp [dval, madeD]
        · simpa [madeD] using hBs.keepT KB hsz9 (by decide)
      clear T9 hT hO hBs hF RS KB
      go_wp2
      refine bodyPost_ret (v := .agg #[.slice ta n.toNat tc, .slice none 0 0, .int .i64 0, .slice ga l.length gc, .bool false]) (by simp [results, Try.results29, go_sem, m0, m1, m2, m3, m4]) rfl ⟨_, rfl, HR.out.2, .inl ⟨⟨hr, HRF.out.1 (by simp)⟩, HR.out.1⟩⟩
end Go.Proofs.Ytnlceclfepgmhaa

/-
  The program's DiskNew.
-/
namespace Go.Proofs.Ytnlceclfepgmhaa
open Go.RowKit
set_option maxRecDepth 4000

theorem made_rl (W : World) (m : Nat) {B : Nat} (hB : B ≤ W.heap.size) : RL 22 (W.alloc (.cells (madeCells #[.slice none 0 0] m) 22)) B (some ⟨W.heap.size, 0, none⟩) (List.replicate m (.slice none 0 0)) := by
  have hr := World.rowIs_alloc W (madeCells #[.slice none 0 0] m) 22 (fun _ => .slice none 0 0) (fun i hi => by
    rw [size_madeCells] at hi
    simp [madeCells, hi, Nat.mod_one])
  rw [size_madeCells] at hr
  refine RL.ofIs hr hB (fun i u hi => ?_)
  rw [List.getElem?_replicate] at hi
  split at hi
  · cases hi
    exact ⟨by assumption, rfl⟩
  · cases hi
theorem nil_bs (W : World) (B m : Nat) : Bs W B (List.replicate m (.slice none 0 0)) (List.replicate m []) := by
  refine ⟨by simp, fun i v l h1 h2 => ?_, fun v hv g hg => ?_, ?_⟩
  · rw [List.getElem?_replicate] at h1 h2
    split at h1
    · rename_i hlt
      rw [if_pos hlt] at h2
      cases h1; cases h2
      exact ⟨none, 0, rfl, Nat.le_refl _, fun _ => rfl, by simp, .inl rfl⟩
    · cases h1
  · obtain ⟨-, rfl⟩ := List.mem_replicate.1 hv
    cases hg
  · rw [List.pairwise_replicate]
    right
    intro g hg
    cases hg
theorem okMade {m : Nat} {l : List PFault} (h4 : 4 ≤ m) (h48 : m ≤ 48) : OkD (madeD m l) ↔ FaultsOk l := by
  refine ⟨fun h => h.2.2.2.1, fun h => ⟨⟨by simpa [madeD] using h4, by simpa [madeD] using h48, fun i hi => by simp [madeD]⟩, ⟨by simp [madeD], fun i hi => by simp [madeD] at hi⟩, ⟨by simp [madeD], by simp [madeD]⟩, h, fun hd => by simp [madeD] at hd⟩⟩

set_option maxHeartbeats 16000000 in
theorem implDiskNew_any (n : Int) (a : Option Addr) (cap : Nat) (l : List PFault) (w : World) (h : FView w a cap l) (hn : l.length ≤ 1048576) :
    Calls Try.prog 23 #[.int .i64 n, .slice a l.length cap] w (NewTo w n l) := by
  have hbel : Below w.heap.size w (w.alloc (.cells #[.slice none 0 0, .slice none 0 0, .int .i64 0, .slice none 0 0, .bool false] 28)) := (Below.refl _ _).alloc (Nat.le_refl _) _
  by_cases hr4 : n < 4
  · clear h
    go_enter Try.func23, Try.ntmps23
    go_wp2
    refine bodyPost_ret (v := .agg #[.slice none 0 0, .slice none 0 0, .int .i64 0, .slice none 0 0, .bool false]) (by simp [results, Try.results23, go_sem]) rfl ⟨_, rfl, hbel, .inr ⟨fun h => by have := h.1; omega, zero_own _ _⟩⟩
  by_cases hr48 : 48 < n
  · clear h
    go_enter Try.func23, Try.ntmps23
    go_wp2
    refine bodyPost_ret (v := .agg #[.slice none 0 0, .slice none 0 0, .int .i64 0, .slice none 0 0, .bool false]) (by simp [results, Try.results23, go_sem]) rfl ⟨_, rfl, hbel, .inr ⟨fun h => by have := h.1; omega, zero_own _ _⟩⟩
  obtain ⟨m, rfl⟩ : ∃ m : Nat, n = m := ⟨n.toNat, by omega⟩
  have hm4 : 4 ≤ m := by omega
  have hm48 : m ≤ 48 := by omega
  have HFV : Hid (FView w a cap l) := h
  have hR := VN.new w 28 [.slice none 0 0, .slice none 0 0, .int .i64 0, .slice none 0 0, .bool false]
  clear h
  go_enter Try.func23, Try.ntmps23
  go_wp2_with fail
  rename_i K1 hK1
  have HREST : ∀ (X gs : Nat) (ga : Option Addr) (gc : Nat) (t13 t14 t15 t16 t17 : Value) (W : World), (TN w W X [.slice none 0 0, .slice none 0 0, .int .i64 0, .slice none 0 0, .bool false] [.slice (some ⟨gs, 0, none⟩) m m, .slice none 0 0, .int .i64 0, .slice ga l.length gc, .bool false] ∧ RL 22 W w.heap.size (some ⟨gs, 0, none⟩) (List.replicate m (.slice none 0 0)) ∧ RL 69 W w.heap.size ga (fcells l)) → l.length ≤ gc → (ga = none → gc = 0) → K1 { tmps := #[.int .i64 m, .slice a l.length cap, undef, undef, .pointer (some ⟨w.heap.size, 0, none⟩), .pointer (some ⟨X, 0, none⟩), .int .i64 m, .bool false, .bool false, .int .i64 m, .bool false, .bool false, undef, t13, t14, t15, t16, t17, undef, undef, undef, undef, undef], defers := [] } W := by
    intro X gs ga gc t13 t14 t15 t16 t17 W hE hgl hgn
    obtain ⟨hT, hRS, hFc⟩ := hE
    clear hR hbel
    apply hK1
    clear hK1
    have hKO : KO W w.heap.size (some ⟨gs, 0, none⟩) m none 0 ga gc (List.replicate m (.slice none 0 0)) [] (madeD m l) := ⟨by simp [madeD], (fun e => by cases e), Nat.le_refl _, fun _ => rfl, hgl, hgn, by simp [madeD], rfl, hRS, .inl rfl, hFc, by simpa [madeD] using nil_bs W w.heap.size m⟩
    have hKV : KView W (.agg #[.slice (some ⟨gs, 0, none⟩) m m, .slice none 0 0, .int .i64 0, .slice ga l.length gc, .bool false]) (madeD m l) := by
      obtain ⟨k1, k2, k3⟩ := hKO.view
      exact ⟨_, _, _, _, _, _, by simp [madeD], k1, k2, k3⟩
    have hV := implDiskOk_any _ (madeD m l) W hKV ⟨by simp [madeD]; omega, fun x hx => by simp [madeD] at hx; simp [hx], by simp [madeD], fun x hx => by simp [madeD] at hx, hn⟩
    have y0 : W.cell? ⟨X, 0, none⟩ = some (.slice (some ⟨gs, 0, none⟩) m m) := hT.o.cell 0
    have y1 : W.cell? ⟨X, 1, none⟩ = some (.slice none 0 0) := hT.o.cell 1
    have y2 : W.cell? ⟨X, 2, none⟩ = some (.int .i64 0) := hT.o.cell 2
    have y3 : W.cell? ⟨X, 3, none⟩ = some (.slice ga l.length gc) := hT.o.cell 3
    have y4 : W.cell? ⟨X, 4, none⟩ = some (.bool false) := hT.o.cell 4
    go_wp2_with fail
    refine hV.mono ?_
    rintro e w6 ⟨r, rfl, hrf, hb6⟩
    have HRF : Hid (r = true ↔ FaultsOk l) := hrf.trans (okMade hm4 hm48)
    replace hT := hT.on hb6
    replace hKO := hKO.up (Up.ofBelow hb6)
    clear y0 y1 y2 y3 y4 hV hrf hb6 hKV hRS hFc
    cases r
    · have hdummy : True := trivial
      have r0 : w6.cell? ⟨w.heap.size, 0, none⟩ = some (.slice none 0 0) := hT.r.cell 0
      have z0 := hT.r.fz 0
      have r1 : w6.cell? ⟨w.heap.size, 1, none⟩ = some (.slice none 0 0) := hT.r.cell 1
      have z1 := hT.r.fz 1
      have r2 : w6.cell? ⟨w.heap.size, 2, none⟩ = some (.int .i64 0) := hT.r.cell 2
      have z2 := hT.r.fz 2
      have r3 : w6.cell? ⟨w.heap.size, 3, none⟩ = some (.slice none 0 0) := hT.r.cell 3
      have z3 := hT.r.fz 3
      have r4 : w6.cell? ⟨w.heap.size, 4, none⟩ = some (.bool false) := hT.r.cell 4
      have z4 := hT.r.fz 4
      have T9 := ((((hT.ret 0 (.slice none 0 0)).ret 1 (.slice none 0 0)).ret 2 (.int .i64 0)).ret 3 (.slice none 0 0)).ret 4 (.bool false)
      simp only [List.set] at T9
      have m0 : (((((w6.setCell ⟨w.heap.size, 0, none⟩ (.slice none 0 0)).setCell ⟨w.heap.size, 1, none⟩ (.slice none 0 0)).setCell ⟨w.heap.size, 2, none⟩ (.int .i64 0)).setCell ⟨w.heap.size, 3, none⟩ (.slice none 0 0)).setCell ⟨w.heap.size, 4, none⟩ (.bool false)).cell? ⟨w.heap.size, 0, none⟩ = some (.slice none 0 0) := T9.r.cell 0
      have m1 : (((((w6.setCell ⟨w.heap.size, 0, none⟩ (.slice none 0 0)).setCell ⟨w.heap.size, 1, none⟩ (.slice none 0 0)).setCell ⟨w.heap.size, 2, none⟩ (.int .i64 0)).setCell ⟨w.heap.size, 3, none⟩ (.slice none 0 0)).setCell ⟨w.heap.size, 4, none⟩ (.bool false)).cell? ⟨w.heap.size, 1, none⟩ = some (.slice none 0 0) := T9.r.cell 1
      have m2 : (((((w6.setCell ⟨w.heap.size, 0, none⟩ (.slice none 0 0)).setCell ⟨w.heap.size, 1, none⟩ (.slice none 0 0)).setCell ⟨w.heap.size, 2, none⟩ (.int .i64 0)).setCell ⟨w.heap.size, 3, none⟩ (.slice none 0 0)).setCell ⟨w.heap.size, 4, none⟩ (.bool false)).cell? ⟨w.heap.size, 2, none⟩ = some (.int .i64 0) := T9.r.cell 2
      have m3 : (((((w6.setCell ⟨w.heap.size, 0, none⟩ (.slice none 0 0)).setCell ⟨w.heap.size, 1, none⟩ (.slice none 0 0)).setCell ⟨w.heap.size, 2, none⟩ (.int .i64 0)).setCell ⟨w.heap.size, 3, none⟩ (.slice none 0 0)).setCell ⟨w.heap.size, 4, none⟩ (.bool false)).cell? ⟨w.heap.size, 3, none⟩ = some (.slice none 0 0) := T9.r.cell 3
      have m4 : (((((w6.setCell ⟨w.heap.size, 0, none⟩ (.slice none 0 0)).setCell ⟨w.heap.size, 1, none⟩ (.slice none 0 0)).setCell ⟨w.heap.size, 2, none⟩ (.int .i64 0)).setCell ⟨w.heap.size, 3, none⟩ (.slice none 0 0)).setCell ⟨w.heap.size, 4, none⟩ (.bool false)).cell? ⟨w.heap.size, 4, none⟩ = some (.bool false) := T9.r.cell 4
      have KB : KeepT (fun t => t = 28) w6 (((((w6.setCell ⟨w.heap.size, 0, none⟩ (.slice none 0 0)).setCell ⟨w.heap.size, 1, none⟩ (.slice none 0 0)).setCell ⟨w.heap.size, 2, none⟩ (.int .i64 0)).setCell ⟨w.heap.size, 3, none⟩ (.slice none 0 0)).setCell ⟨w.heap.size, 4, none⟩ (.bool false)) := (KeepT.trans (KeepT.trans (KeepT.trans (KeepT.trans (keep_vn (P := fun t => t = 28) (i := 0) (u := .slice none 0 0) hT.r rfl) (keep_vn (P := fun t => t = 28) (i := 1) (u := .slice none 0 0) (hT.ret 0 (.slice none 0 0)).r rfl)) (keep_vn (P := fun t => t = 28) (i := 2) (u := .int .i64 0) ((hT.ret 0 (.slice none 0 0)).ret 1 (.slice none 0 0)).r rfl)) (keep_vn (P := fun t => t = 28) (i := 3) (u := .slice none 0 0) (((hT.ret 0 (.slice none 0 0)).ret 1 (.slice none 0 0)).ret 2 (.int .i64 0)).r rfl)) (keep_vn (P := fun t => t = 28) (i := 4) (u := .bool false) ((((hT.ret 0 (.slice none 0 0)).ret 1 (.slice none 0 0)).ret 2 (.int .i64 0)).ret 3 (.slice none 0 0)).r rfl))
      have hsz9 : w6.heap.size ≤ (((((w6.setCell ⟨w.heap.size, 0, none⟩ (.slice none 0 0)).setCell ⟨w.heap.size, 1, none⟩ (.slice none 0 0)).setCell ⟨w.heap.size, 2, none⟩ (.int .i64 0)).setCell ⟨w.heap.size, 3, none⟩ (.slice none 0 0)).setCell ⟨w.heap.size, 4, none⟩ (.bool false)).heap.size := by simp
      have HR : Hid (Below w.heap.size w (((((w6.setCell ⟨w.heap.size, 0, none⟩ (.slice none 0 0)).setCell ⟨w.heap.size, 1, none⟩ (.slice none 0 0)).setCell ⟨w.heap.size, 2, none⟩ (.int .i64 0)).setCell ⟨w.heap.size, 3, none⟩ (.slice none 0 0)).setCell ⟨w.heap.size, 4, none⟩ (.bool false))) := T9.below
      clear T9 hT KB hKO
      go_wp2
      refine bodyPost_ret (v := .agg #[.slice none 0 0, .slice none 0 0, .int .i64 0, .slice none 0 0, .bool false]) (by simp [results, Try.results23, go_sem, m0, m1, m2, m3, m4]) rfl ⟨_, rfl, HR.out, .inr ⟨fun h => (by have := HRF.out.2 h.2; cases this), zero_own _ _⟩⟩
    · have y0 : w6.cell? ⟨X, 0, none⟩ = some (.slice (some ⟨gs, 0, none⟩) m m) := hT.o.cell 0
      have y1 : w6.cell? ⟨X, 1, none⟩ = some (.slice none 0 0) := hT.o.cell 1
      have y2 : w6.cell? ⟨X, 2, none⟩ = some (.int .i64 0) := hT.o.cell 2
      have y3 : w6.cell? ⟨X, 3, none⟩ = some (.slice ga l.length gc) := hT.o.cell 3
      have y4 : w6.cell? ⟨X, 4, none⟩ = some (.bool false) := hT.o.cell 4
      have r0 : w6.cell? ⟨w.heap.size, 0, none⟩ = some (.slice none 0 0) := hT.r.cell 0
      have z0 := hT.r.fz 0
      have r1 : w6.cell? ⟨w.heap.size, 1, none⟩ = some (.slice none 0 0) := hT.r.cell 1
      have z1 := hT.r.fz 1
      have r2 : w6.cell? ⟨w.heap.size, 2, none⟩ = some (.int .i64 0) := hT.r.cell 2
      have z2 := hT.r.fz 2
      have r3 : w6.cell? ⟨w.heap.size, 3, none⟩ = some (.slice none 0 0) := hT.r.cell 3
      have z3 := hT.r.fz 3
      have r4 : w6.cell? ⟨w.heap.size, 4, none⟩ = some (.bool false) := hT.r.cell 4
      have z4 := hT.r.fz 4
      have T9 := ((((hT.ret 0 (.slice (some ⟨gs, 0, none⟩) m m)).ret 1 (.slice none 0 0)).ret 2 (.int .i64 0)).ret 3 (.slice ga l.length gc)).ret 4 (.bool false)
      simp only [List.set] at T9
      have m0 : (((((w6.setCell ⟨w.heap.size, 0, none⟩ (.slice (some ⟨gs, 0, none⟩) m m)).setCell ⟨w.heap.size, 1, none⟩ (.slice none 0 0)).setCell ⟨w.heap.size, 2, none⟩ (.int .i64 0)).setCell ⟨w.heap.size, 3, none⟩ (.slice ga l.length gc)).setCell ⟨w.heap.size, 4, none⟩ (.bool false)).cell? ⟨w.heap.size, 0, none⟩ = some (.slice (some ⟨gs, 0, none⟩) m m) := T9.r.cell 0
      have m1 : (((((w6.setCell ⟨w.heap.size, 0, none⟩ (.slice (some ⟨gs, 0, none⟩) m m)).setCell ⟨w.heap.size, 1, none⟩ (.slice none 0 0)).setCell ⟨w.heap.size, 2, none⟩ (.int .i64 0)).setCell ⟨w.heap.size, 3, none⟩ (.slice ga l.length gc)).setCell ⟨w.heap.size, 4, none⟩ (.bool false)).cell? ⟨w.heap.size, 1, none⟩ = some (.slice none 0 0) := T9.r.cell 1
      have m2 : (((((w6.setCell ⟨w.heap.size, 0, none⟩ (.slice (some ⟨gs, 0, none⟩) m m)).setCell ⟨w.heap.size, 1, none⟩ (.slice none 0 0)).setCell ⟨w.heap.size, 2, none⟩ (.int .i64 0)).setCell ⟨w.heap.size, 3, none⟩ (.slice ga l.length gc)).setCell ⟨w.heap.size, 4, none⟩ (.bool false)).cell? ⟨w.heap.size, 2, none⟩ = some (.int .i64 0) := T9.r.cell 2
      have m3 : (((((w6.setCell ⟨w.heap.size, 0, none⟩ (.slice (some ⟨gs, 0, none⟩) m m)).setCell ⟨w.heap.size, 1, none⟩ (.slice none 0 0)).setCell ⟨w.heap.size, 2, none⟩ (.int .i64 0)).setCell ⟨w.heap.size, 3, none⟩ (.slice ga l.length gc)).setCell ⟨w.heap.size, 4, none⟩ (.bool false)).cell? ⟨w.heap.size, 3, none⟩ = some (.slice ga l.length gc) := T9.r.cell 3
      have m4 : (((((w6.setCell ⟨w.heap.size, 0, none⟩ (.slice (some ⟨gs, 0, none⟩) m m)).setCell ⟨w.heap.size, 1, none⟩ (.slice none 0 0)).setCell ⟨w.heap.size, 2, none⟩ (.int .i64 0)).setCell ⟨w.heap.size, 3, none⟩ (.slice ga l.length gc)).setCell ⟨w.heap.size, 4, none⟩ (.bool false)).cell? ⟨w.heap.size, 4, none⟩ = some (.bool false) := T9.r.cell 4
      have KB : KeepT (fun t => t = 28) w6 (((((w6.setCell ⟨w.heap.size, 0, none⟩ (.slice (some ⟨gs, 0, none⟩) m m)).setCell ⟨w.heap.size, 1, none⟩ (.slice none 0 0)).setCell ⟨w.heap.size, 2, none⟩ (.int .i64 0)).setCell ⟨w.heap.size, 3, none⟩ (.slice ga l.length gc)).setCell ⟨w.heap.size, 4, none⟩ (.bool false)) := (KeepT.trans (KeepT.trans (KeepT.trans (KeepT.trans (keep_vn (P := fun t => t = 28) (i := 0) (u := .slice (some ⟨gs, 0, none⟩) m m) hT.r rfl) (keep_vn (P := fun t => t = 28) (i := 1) (u := .slice none 0 0) (hT.ret 0 (.slice (some ⟨gs, 0, none⟩) m m)).r rfl)) (keep_vn (P := fun t => t = 28) (i := 2) (u := .int .i64 0) ((hT.ret 0 (.slice (some ⟨gs, 0, none⟩) m m)).ret 1 (.slice none 0 0)).r rfl)) (keep_vn (P := fun t => t = 28) (i := 3) (u := .slice ga l.length gc) (((hT.ret 0 (.slice (some ⟨gs, 0, none⟩) m m)).ret 1 (.slice none 0 0)).ret 2 (.int .i64 0)).r rfl)) (keep_vn (P := fun t => t = 28) (i := 4) (u := .bool false) ((((hT.ret 0 (.slice (some ⟨gs, 0, none⟩) m m)).ret 1 (.slice none 0 0)).ret 2 (.int .i64 0)).ret 3 (.slice ga l.length gc)).r rfl))
      have hsz9 : w6.heap.size ≤ (((((w6.setCell ⟨w.heap.size, 0, none⟩ (.slice (some ⟨gs, 0, none⟩) m m)).setCell ⟨w.heap.size, 1, none⟩ (.slice none 0 0)).setCell ⟨w.heap.size, 2, none⟩ (.int .i64 0)).setCell ⟨w.heap.size, 3, none⟩ (.slice ga l.length gc)).setCell ⟨w.heap.size, 4, none⟩ (.bool false)).heap.size := by simp
      have HR : Hid (KOwn (((((w6.setCell ⟨w.heap.size, 0, none⟩ (.slice (some ⟨gs, 0, none⟩) m m)).setCell ⟨w.heap.size, 1, none⟩ (.slice none 0 0)).setCell ⟨w.heap.size, 2, none⟩ (.int .i64 0)).setCell ⟨w.heap.size, 3, none⟩ (.slice ga l.length gc)).setCell ⟨w.heap.size, 4, none⟩ (.bool false)) w.heap.size (.agg #[.slice (some ⟨gs, 0, none⟩) m m, .slice none 0 0, .int .i64 0, .slice ga l.length gc, .bool false]) (madeD m l) ∧ Below w.heap.size w (((((w6.setCell ⟨w.heap.size, 0, none⟩ (.slice (some ⟨gs, 0, none⟩) m m)).setCell ⟨w.heap.size, 1, none⟩ (.slice none 0 0)).setCell ⟨w.heap.size, 2, none⟩ (.int .i64 0)).setCell ⟨w.heap.size, 3, none⟩ (.slice ga l.length gc)).setCell ⟨w.heap.size, 4, none⟩ (.bool false))) :=
        ⟨⟨_, _, _, _, _, _, _, _, by simp [dval, madeD], ⟨hKO.sle, hKO.snil, hKO.cle, hKO.cnil, hKO.fle, hKO.fnil, hKO.ns, hKO.nc, hKO.secs.keepT KB (by decide), hKO.cache.keepT KB (by decide), hKO.faults.keepT KB (by decide), hKO.bytes.keepT KB hsz9 (by decide)⟩⟩, T9.below⟩
      clear T9 hT KB hKO
      go_wp2
      refine bodyPost_ret (v := .agg #[.slice (some ⟨gs, 0, none⟩) m m, .slice none 0 0, .int .i64 0, .slice ga l.length gc, .bool false]) (by simp [results, Try.results23, go_sem, m0, m1, m2, m3, m4]) rfl ⟨_, rfl, HR.out.2, .inl ⟨⟨by omega, HRF.out.1 (by simp)⟩, HR.out.1⟩⟩
  clear hK1
  refine wp_region_held_drew (S := fun _ => True) (by kernel_rfl) trivial (fun hHeld => ?_)
  replace hR := hR.below (show Below _ _ (w.alloc (.cells #[.slice none 0 0, .slice none 0 0, .int .i64 0, .slice none 0 0, .bool false] 28)).drew from (Below.refl (w.alloc (.cells #[.slice none 0 0, .slice none 0 0, .int .i64 0, .slice none 0 0, .bool false] 28)).heap.size (w.alloc (.cells #[.slice none 0 0, .slice none 0 0, .int .i64 0, .slice none 0 0, .bool false] 28))).drew)
  replace hbel := hbel.drew
  obtain ⟨wd, hwd⟩ := hidEx (w.alloc (.cells #[.slice none 0 0, .slice none 0 0, .int .i64 0, .slice none 0 0, .bool false] 28)).drew
  rw [hwd.out] at hR hbel ⊢
  refine' wpAnyH_take (i := 0) (v := _) rfl (by kernel_rfl) (by kernel_rfl) (by kernel_rfl) (fun _ _ _ h => h) (Or.inl ⟨by kernel_rfl, ?hna1⟩) (by assumption) ?rna1
  case hna1 => intro W hW; go_simp; all_goals with_reducible rfl
  change wpAnyH _ _ _ _ _ _ _ (Act.put _ (some 13) _) _
  simp only [Act.put, List.setIfInBounds_toArray, List.set_cons_zero, List.set_cons_succ]
  refine' wpAnyH_take (i := 2) (v := _) rfl (by kernel_rfl) (by kernel_rfl) (by kernel_rfl) (fun _ _ _ h => h) (Or.inl ⟨by kernel_rfl, ?hna2⟩) (by assumption) ?rna2
  case hna2 => intro W hW; go_simp; all_goals with_reducible rfl
  change wpAnyH _ _ _ _ _ _ _ (Act.put _ (some 15) _) _
  simp only [Act.put, List.setIfInBounds_toArray, List.set_cons_zero, List.set_cons_succ]
  refine wpAnyH_ready (rs := [1, 3, 5]) (by kernel_rfl) (by simp) ?_
  refine AllReadyH.cons rfl (fun KK hK => ?_) (AllReadyH.cons rfl (fun KK hK => ?_) (AllReadyH.cons rfl (fun KK hK => ?_) AllReadyH.nil))
  ·
    have hmk := makeSecs m (by omega) wd
    go_simp
    clear hmk
    have hbA : Below wd.heap.size wd (wd.alloc (.cells (madeCells #[.slice none 0 0] m) 22)) := (Below.refl _ _).alloc (Nat.le_refl _) _
    have hRS := made_rl wd m hbel.size
    obtain ⟨gs, hgs⟩ := hidEx wd.heap.size
    rw [hgs.out] at hRS ⊢
    replace hR := hR.below hbA
    replace hbel := hbel.trans (hbA.mono hbel.size)
    clear hbA
    refine hK.out _ _ trivial (fun hHeld => ?_)
    clear hK KK
    try simp only [Act.put, List.setIfInBounds_toArray, List.set_cons_zero, List.set_cons_succ]
    obtain ⟨q1, hq1⟩ := hidEx (wd.alloc (.cells (madeCells #[.slice none 0 0] m) 22))
    rw [hq1.out] at hR hbel hRS ⊢
    refine wpAnyH_ready (rs := [3, 5]) (by kernel_rfl) (by simp) ?_
    refine AllReadyH.cons rfl (fun KK hK => ?_) (AllReadyH.cons rfl (fun KK hK => ?_) AllReadyH.nil)
    ·
      go_simp
      refine (cloneFaults_any a cap l q1 (fview_below HFV.out hbel) hn).mono ?_
      rintro e w5 ⟨ga, gc, rfl, hg1, hg2, hFc, hb5⟩
      replace hFc := hFc.mono hbel.size
      replace hR := hR.below hb5
      replace hRS := hRS.up (Up.ofBelow hb5)
      replace hbel := hbel.trans (hb5.mono hbel.size)
      clear hb5
      go_wp2_with fail
      refine hK.out _ _ trivial (fun hHeld => ?_)
      clear hK KK
      try simp only [Act.put, List.setIfInBounds_toArray, List.set_cons_zero, List.set_cons_succ]
      refine' wpAnyH_take (i := 4) (v := _) rfl (by kernel_rfl) (by kernel_rfl) (by kernel_rfl) (fun _ _ _ h => h) (Or.inl ⟨by kernel_rfl, ?hna3⟩) (by assumption) ?rna3
      case hna3 => intro W hW; go_simp; all_goals with_reducible rfl
      change wpAnyH _ _ _ _ _ _ _ (Act.put _ (some 17) _) _
      simp only [Act.put, List.setIfInBounds_toArray, List.set_cons_zero, List.set_cons_succ]
      refine wpAnyH_ready (rs := [5]) (by kernel_rfl) (by simp) ?_
      refine AllReadyH.cons rfl (fun KK hK => ?_) AllReadyH.nil
      go_simp
      have hbA : Below w5.heap.size w5 (w5.alloc (.cells #[.slice none 0 0, .slice none 0 0, .int .i64 0, .slice none 0 0, .bool false] 28)) := (Below.refl _ _).alloc (Nat.le_refl _) _
      have hX0 := VN.new w5 28 [.slice none 0 0, .slice none 0 0, .int .i64 0, .slice none 0 0, .bool false]
      have hXge : w.heap.size < w5.heap.size := hR.lt
      obtain ⟨X, hXe⟩ := hidEx w5.heap.size
      rw [hXe.out] at hX0 hXge ⊢
      replace hR := hR.below hbA
      replace hRS := hRS.up (Up.ofBelow hbA)
      replace hFc := hFc.up (Up.ofBelow hbA)
      replace hbel := hbel.trans (hbA.mono hbel.size)
      have hX : VN (w5.alloc (.cells #[.slice none 0 0, .slice none 0 0, .int .i64 0, .slice none 0 0, .bool false] 28)) X 28 [.slice none 0 0, .slice none 0 0, .int .i64 0, .slice none 0 0, .bool false] := hX0
      clear hbA hX0
      refine hK.out _ _ trivial (fun hHeld => ?_)
      clear hK KK
      try simp only [Act.put, List.setIfInBounds_toArray, List.set_cons_zero, List.set_cons_succ]
      obtain ⟨q2, hq2⟩ := hidEx (w5.alloc (.cells #[.slice none 0 0, .slice none 0 0, .int .i64 0, .slice none 0 0, .bool false] 28))
      rw [hq2.out] at hR hbel hX hRS hFc ⊢
      refine wpAnyH_ready (rs := [6]) (by kernel_rfl) (by simp) ?_
      refine AllReadyH.cons rfl (fun KK hK => ?_) AllReadyH.nil
      have hT : TN w q2 X [.slice none 0 0, .slice none 0 0, .int .i64 0, .slice none 0 0, .bool false] [.slice none 0 0, .slice none 0 0, .int .i64 0, .slice none 0 0, .bool false] := ⟨hbel, hR, hX, hXge⟩
      have e0 : q2.cell? ⟨X, 0, none⟩ = some (.slice none 0 0) := hX.cell 0
      have z0 := hX.fz 0
      have e1 : q2.cell? ⟨X, 1, none⟩ = some (.slice none 0 0) := hX.cell 1
      have z1 := hX.fz 1
      have e2 : q2.cell? ⟨X, 2, none⟩ = some (.int .i64 0) := hX.cell 2
      have z2 := hX.fz 2
      have e3 : q2.cell? ⟨X, 3, none⟩ = some (.slice none 0 0) := hX.cell 3
      have z3 := hX.fz 3
      have e4 : q2.cell? ⟨X, 4, none⟩ = some (.bool false) := hX.cell 4
      have z4 := hX.fz 4
      go_simp
      clear e0 e1 e2 e3 e4 z0 z1 z2 z3 z4 hbel hR hX
      have hkk := (KeepT.trans (KeepT.trans (KeepT.trans (KeepT.trans (keep_vn (P := fun t => t = 28) (i := 0) (u := .slice (some ⟨gs, 0, none⟩) m m) hT.o rfl) (keep_vn (P := fun t => t = 28) (i := 1) (u := .slice none 0 0) (hT.set 0 (.slice (some ⟨gs, 0, none⟩) m m)).o rfl)) (keep_vn (P := fun t => t = 28) (i := 2) (u := .int .i64 0) ((hT.set 0 (.slice (some ⟨gs, 0, none⟩) m m)).set 1 (.slice none 0 0)).o rfl)) (keep_vn (P := fun t => t = 28) (i := 3) (u := .slice ga l.length gc) (((hT.set 0 (.slice (some ⟨gs, 0, none⟩) m m)).set 1 (.slice none 0 0)).set 2 (.int .i64 0)).o rfl)) (keep_vn (P := fun t => t = 28) (i := 4) (u := .bool false) ((((hT.set 0 (.slice (some ⟨gs, 0, none⟩) m m)).set 1 (.slice none 0 0)).set 2 (.int .i64 0)).set 3 (.slice ga l.length gc)).o rfl))
      have hF7 := hFc.keepT hkk (by decide)
      have hS7 := hRS.keepT hkk (by decide)
      have hT7 := (((((hT.set 0 (.slice (some ⟨gs, 0, none⟩) m m)).set 1 (.slice none 0 0)).set 2 (.int .i64 0)).set 3 (.slice ga l.length gc)).set 4 (.bool false))
      simp only [List.set] at hT7
      clear hT hFc hRS hkk
      refine hK.out _ _ trivial (fun hHeld => ?_)
      clear hK KK
      try simp only [Act.put, List.setIfInBounds_toArray, List.set_cons_zero, List.set_cons_succ]
      refine wpAnyH_done (by kernel_rfl) ?_ _
      exact HREST _ _ _ _ _ _ _ _ _ _ ⟨hT7, hS7, hF7⟩ hg1 hg2
    ·
      go_simp
      have hbA : Below q1.heap.size q1 (q1.alloc (.cells #[.slice none 0 0, .slice none 0 0, .int .i64 0, .slice none 0 0, .bool false] 28)) := (Below.refl _ _).alloc (Nat.le_refl _) _
      have hX0 := VN.new q1 28 [.slice none 0 0, .slice none 0 0, .int .i64 0, .slice none 0 0, .bool false]
      have hXge : w.heap.size < q1.heap.size := hR.lt
      obtain ⟨X, hXe⟩ := hidEx q1.heap.size
      rw [hXe.out] at hX0 hXge ⊢
      replace hR := hR.below hbA
      replace hRS := hRS.up (Up.ofBelow hbA)
      replace hbel := hbel.trans (hbA.mono hbel.size)
      have hX : VN (q1.alloc (.cells #[.slice none 0 0, .slice none 0 0, .int .i64 0, .slice none 0 0, .bool false] 28)) X 28 [.slice none 0 0, .slice none 0 0, .int .i64 0, .slice none 0 0, .bool false] := hX0
      clear hbA hX0
      refine hK.out _ _ trivial (fun hHeld => ?_)
      clear hK KK
      try simp only [Act.put, List.setIfInBounds_toArray, List.set_cons_zero, List.set_cons_succ]
      obtain ⟨q2, hq2⟩ := hidEx (q1.alloc (.cells #[.slice none 0 0, .slice none 0 0, .int .i64 0, .slice none 0 0, .bool false] 28))
      rw [hq2.out] at hR hbel hX hRS ⊢
      refine wpAnyH_ready (rs := [3]) (by kernel_rfl) (by simp) ?_
      refine AllReadyH.cons rfl (fun KK hK => ?_) AllReadyH.nil
      go_simp
      refine (cloneFaults_any a cap l q2 (fview_below HFV.out hbel) hn).mono ?_
      rintro e w5 ⟨ga, gc, rfl, hg1, hg2, hFc, hb5⟩
      replace hFc := hFc.mono hbel.size
      replace hR := hR.below hb5
      replace hX := hX.below hb5
      replace hRS := hRS.up (Up.ofBelow hb5)
      replace hbel := hbel.trans (hb5.mono hbel.size)
      clear hb5
      go_wp2_with fail
      refine hK.out _ _ trivial (fun hHeld => ?_)
      clear hK KK
      try simp only [Act.put, List.setIfInBounds_toArray, List.set_cons_zero, List.set_cons_succ]
      refine' wpAnyH_take (i := 4) (v := _) rfl (by kernel_rfl) (by kernel_rfl) (by kernel_rfl) (fun _ _ _ h => h) (Or.inl ⟨by kernel_rfl, ?hna4⟩) (by assumption) ?rna4
      case hna4 => intro W hW; go_simp; all_goals with_reducible rfl
      change wpAnyH _ _ _ _ _ _ _ (Act.put _ (some 17) _) _
      simp only [Act.put, List.setIfInBounds_toArray, List.set_cons_zero, List.set_cons_succ]
      refine wpAnyH_ready (rs := [6]) (by kernel_rfl) (by simp) ?_
      refine AllReadyH.cons rfl (fun KK hK => ?_) AllReadyH.nil
      have hT : TN w w5 X [.slice none 0 0, .slice none 0 0, .int .i64 0, .slice none 0 0, .bool false] [.slice none 0 0, .slice none 0 0, .int .i64 0, .slice none 0 0, .bool false] := ⟨hbel, hR, hX, hXge⟩
      have e0 : w5.cell? ⟨X, 0, none⟩ = some (.slice none 0 0) := hX.cell 0
      have z0 := hX.fz 0
      have e1 : w5.cell? ⟨X, 1, none⟩ = some (.slice none 0 0) := hX.cell 1
      have z1 := hX.fz 1
      have e2 : w5.cell? ⟨X, 2, none⟩ = some (.int .i64 0) := hX.cell 2
      have z2 := hX.fz 2
      have e3 : w5.cell? ⟨X, 3, none⟩ = some (.slice none 0 0) := hX.cell 3
      have z3 := hX.fz 3
      have e4 : w5.cell? ⟨X, 4, none⟩ = some (.bool false) := hX.cell 4
      have z4 := hX.fz 4
      go_simp
      clear e0 e1 e2 e3 e4 z0 z1 z2 z3 z4 hbel hR hX
      have hkk := (KeepT.trans (KeepT.trans (KeepT.trans (KeepT.trans (keep_vn (P := fun t => t = 28) (i := 0) (u := .slice (some ⟨gs, 0, none⟩) m m) hT.o rfl) (keep_vn (P := fun t => t = 28) (i := 1) (u := .slice none 0 0) (hT.set 0 (.slice (some ⟨gs, 0, none⟩) m m)).o rfl)) (keep_vn (P := fun t => t = 28) (i := 2) (u := .int .i64 0) ((hT.set 0 (.slice (some ⟨gs, 0, none⟩) m m)).set 1 (.slice none 0 0)).o rfl)) (keep_vn (P := fun t => t = 28) (i := 3) (u := .slice ga l.length gc) (((hT.set 0 (.slice (some ⟨gs, 0, none⟩) m m)).set 1 (.slice none 0 0)).set 2 (.int .i64 0)).o rfl)) (keep_vn (P := fun t => t = 28) (i := 4) (u := .bool false) ((((hT.set 0 (.slice (some ⟨gs, 0, none⟩) m m)).set 1 (.slice none 0 0)).set 2 (.int .i64 0)).set 3 (.slice ga l.length gc)).o rfl))
      have hF7 := hFc.keepT hkk (by decide)
      have hS7 := hRS.keepT hkk (by decide)
      have hT7 := (((((hT.set 0 (.slice (some ⟨gs, 0, none⟩) m m)).set 1 (.slice none 0 0)).set 2 (.int .i64 0)).set 3 (.slice ga l.length gc)).set 4 (.bool false))
      simp only [List.set] at hT7
      clear hT hFc hRS hkk
      refine hK.out _ _ trivial (fun hHeld => ?_)
      clear hK KK
      try simp only [Act.put, List.setIfInBounds_toArray, List.set_cons_zero, List.set_cons_succ]
      refine wpAnyH_done (by kernel_rfl) ?_ _
      exact HREST _ _ _ _ _ _ _ _ _ _ ⟨hT7, hS7, hF7⟩ hg1 hg2
  ·
    go_simp
    refine (cloneFaults_any a cap l wd (fview_below HFV.out hbel) hn).mono ?_
    rintro e w5 ⟨ga, gc, rfl, hg1, hg2, hFc, hb5⟩
    replace hFc := hFc.mono hbel.size
    replace hR := hR.below hb5
    replace hbel := hbel.trans (hb5.mono hbel.size)
    clear hb5
    go_wp2_with fail
    refine hK.out _ _ trivial (fun hHeld => ?_)
    clear hK KK
    try simp only [Act.put, List.setIfInBounds_toArray, List.set_cons_zero, List.set_cons_succ]
    refine wpAnyH_ready (rs := [1, 5]) (by kernel_rfl) (by simp) ?_
    refine AllReadyH.cons rfl (fun KK hK => ?_) (AllReadyH.cons rfl (fun KK hK => ?_) AllReadyH.nil)
    ·
      have hmk := makeSecs m (by omega) w5
      go_simp
      clear hmk
      have hbA : Below w5.heap.size w5 (w5.alloc (.cells (madeCells #[.slice none 0 0] m) 22)) := (Below.refl _ _).alloc (Nat.le_refl _) _
      have hRS := made_rl w5 m hbel.size
      obtain ⟨gs, hgs⟩ := hidEx w5.heap.size
      rw [hgs.out] at hRS ⊢
      replace hR := hR.below hbA
      replace hFc := hFc.up (Up.ofBelow hbA)
      replace hbel := hbel.trans (hbA.mono hbel.size)
      clear hbA
      refine hK.out _ _ trivial (fun hHeld => ?_)
      clear hK KK
      try simp only [Act.put, List.setIfInBounds_toArray, List.set_cons_zero, List.set_cons_succ]
      obtain ⟨q1, hq1⟩ := hidEx (w5.alloc (.cells (madeCells #[.slice none 0 0] m) 22))
      rw [hq1.out] at hR hbel hRS hFc ⊢
      refine' wpAnyH_take (i := 4) (v := _) rfl (by kernel_rfl) (by kernel_rfl) (by kernel_rfl) (fun _ _ _ h => h) (Or.inl ⟨by kernel_rfl, ?hna5⟩) (by assumption) ?rna5
      case hna5 => intro W hW; go_simp; all_goals with_reducible rfl
      change wpAnyH _ _ _ _ _ _ _ (Act.put _ (some 17) _) _
      simp only [Act.put, List.setIfInBounds_toArray, List.set_cons_zero, List.set_cons_succ]
      refine wpAnyH_ready (rs := [5]) (by kernel_rfl) (by simp) ?_
      refine AllReadyH.cons rfl (fun KK hK => ?_) AllReadyH.nil
      go_simp
      have hbA : Below q1.heap.size q1 (q1.alloc (.cells #[.slice none 0 0, .slice none 0 0, .int .i64 0, .slice none 0 0, .bool false] 28)) := (Below.refl _ _).alloc (Nat.le_refl _) _
      have hX0 := VN.new q1 28 [.slice none 0 0, .slice none 0 0, .int .i64 0, .slice none 0 0, .bool false]
      have hXge : w.heap.size < q1.heap.size := hR.lt
      obtain ⟨X, hXe⟩ := hidEx q1.heap.size
      rw [hXe.out] at hX0 hXge ⊢
      replace hR := hR.below hbA
      replace hRS := hRS.up (Up.ofBelow hbA)
      replace hFc := hFc.up (Up.ofBelow hbA)
      replace hbel := hbel.trans (hbA.mono hbel.size)
      have hX : VN (q1.alloc (.cells #[.slice none 0 0, .slice none 0 0, .int .i64 0, .slice none 0 0, .bool false] 28)) X 28 [.slice none 0 0, .slice none 0 0, .int .i64 0, .slice none 0 0, .bool false] := hX0
      clear hbA hX0
      refine hK.out _ _ trivial (fun hHeld => ?_)
      clear hK KK
      try simp only [Act.put, List.setIfInBounds_toArray, List.set_cons_zero, List.set_cons_succ]
      obtain ⟨q2, hq2⟩ := hidEx (q1.alloc (.cells #[.slice none 0 0, .slice none 0 0, .int .i64 0, .slice none 0 0, .bool false] 28))
      rw [hq2.out] at hR hbel hX hRS hFc ⊢
      refine wpAnyH_ready (rs := [6]) (by kernel_rfl) (by simp) ?_
      refine AllReadyH.cons rfl (fun KK hK => ?_) AllReadyH.nil
      have hT : TN w q2 X [.slice none 0 0, .slice none 0 0, .int .i64 0, .slice none 0 0, .bool false] [.slice none 0 0, .slice none 0 0, .int .i64 0, .slice none 0 0, .bool false] := ⟨hbel, hR, hX, hXge⟩
      have e0 : q2.cell? ⟨X, 0, none⟩ = some (.slice none 0 0) := hX.cell 0
      have z0 := hX.fz 0
      have e1 : q2.cell? ⟨X, 1, none⟩ = some (.slice none 0 0) := hX.cell 1
      have z1 := hX.fz 1
      have e2 : q2.cell? ⟨X, 2, none⟩ = some (.int .i64 0) := hX.cell 2
      have z2 := hX.fz 2
      have e3 : q2.cell? ⟨X, 3, none⟩ = some (.slice none 0 0) := hX.cell 3
      have z3 := hX.fz 3
      have e4 : q2.cell? ⟨X, 4, none⟩ = some (.bool false) := hX.cell 4
      have z4 := hX.fz 4
      go_simp
      clear e0 e1 e2 e3 e4 z0 z1 z2 z3 z4 hbel hR hX
      have hkk := (KeepT.trans (KeepT.trans (KeepT.trans (KeepT.trans (keep_vn (P := fun t => t = 28) (i := 0) (u := .slice (some ⟨gs, 0, none⟩) m m) hT.o rfl) (keep_vn (P := fun t => t = 28) (i := 1) (u := .slice none 0 0) (hT.set 0 (.slice (some ⟨gs, 0, none⟩) m m)).o rfl)) (keep_vn (P := fun t => t = 28) (i := 2) (u := .int .i64 0) ((hT.set 0 (.slice (some ⟨gs, 0, none⟩) m m)).set 1 (.slice none 0 0)).o rfl)) (keep_vn (P := fun t => t = 28) (i := 3) (u := .slice ga l.length gc) (((hT.set 0 (.slice (some ⟨gs, 0, none⟩) m m)).set 1 (.slice none 0 0)).set 2 (.int .i64 0)).o rfl)) (keep_vn (P := fun t => t = 28) (i := 4) (u := .bool false) ((((hT.set 0 (.slice (some ⟨gs, 0, none⟩) m m)).set 1 (.slice none 0 0)).set 2 (.int .i64 0)).set 3 (.slice ga l.length gc)).o rfl))
      have hF7 := hFc.keepT hkk (by decide)
      have hS7 := hRS.keepT hkk (by decide)
      have hT7 := (((((hT.set 0 (.slice (some ⟨gs, 0, none⟩) m m)).set 1 (.slice none 0 0)).set 2 (.int .i64 0)).set 3 (.slice ga l.length gc)).set 4 (.bool false))
      simp only [List.set] at hT7
      clear hT hFc hRS hkk
      refine hK.out _ _ trivial (fun hHeld => ?_)
      clear hK KK
      try simp only [Act.put, List.setIfInBounds_toArray, List.set_cons_zero, List.set_cons_succ]
      refine wpAnyH_done (by kernel_rfl) ?_ _
      exact HREST _ _ _ _ _ _ _ _ _ _ ⟨hT7, hS7, hF7⟩ hg1 hg2
    ·
      go_simp
      have hbA : Below w5.heap.size w5 (w5.alloc (.cells #[.slice none 0 0, .slice none 0 0, .int .i64 0, .slice none 0 0, .bool false] 28)) := (Below.refl _ _).alloc (Nat.le_refl _) _
      have hX0 := VN.new w5 28 [.slice none 0 0, .slice none 0 0, .int .i64 0, .slice none 0 0, .bool false]
      have hXge : w.heap.size < w5.heap.size := hR.lt
      obtain ⟨X, hXe⟩ := hidEx w5.heap.size
      rw [hXe.out] at hX0 hXge ⊢
      replace hR := hR.below hbA
      replace hFc := hFc.up (Up.ofBelow hbA)
      replace hbel := hbel.trans (hbA.mono hbel.size)
      have hX : VN (w5.alloc (.cells #[.slice none 0 0, .slice none 0 0, .int .i64 0, .slice none 0 0, .bool false] 28)) X 28 [.slice none 0 0, .slice none 0 0, .int .i64 0, .slice none 0 0, .bool false] := hX0
      clear hbA hX0
      refine hK.out _ _ trivial (fun hHeld => ?_)
      clear hK KK
      try simp only [Act.put, List.setIfInBounds_toArray, List.set_cons_zero, List.set_cons_succ]
      obtain ⟨q1, hq1⟩ := hidEx (w5.alloc (.cells #[.slice none 0 0, .slice none 0 0, .int .i64 0, .slice none 0 0, .bool false] 28))
      rw [hq1.out] at hR hbel hX hFc ⊢
      refine wpAnyH_ready (rs := [1]) (by kernel_rfl) (by simp) ?_
      refine AllReadyH.cons rfl (fun KK hK => ?_) AllReadyH.nil
      have hmk := makeSecs m (by omega) q1
      go_simp
      clear hmk
      have hbA : Below q1.heap.size q1 (q1.alloc (.cells (madeCells #[.slice none 0 0] m) 22)) := (Below.refl _ _).alloc (Nat.le_refl _) _
      have hRS := made_rl q1 m hbel.size
      obtain ⟨gs, hgs⟩ := hidEx q1.heap.size
      rw [hgs.out] at hRS ⊢
      replace hR := hR.below hbA
      replace hX := hX.below hbA
      replace hFc := hFc.up (Up.ofBelow hbA)
      replace hbel := hbel.trans (hbA.mono hbel.size)
      clear hbA
      refine hK.out _ _ trivial (fun hHeld => ?_)
      clear hK KK
      try simp only [Act.put, List.setIfInBounds_toArray, List.set_cons_zero, List.set_cons_succ]
      obtain ⟨q2, hq2⟩ := hidEx (q1.alloc (.cells (madeCells #[.slice none 0 0] m) 22))
      rw [hq2.out] at hR hbel hX hRS hFc ⊢
      refine' wpAnyH_take (i := 4) (v := _) rfl (by kernel_rfl) (by kernel_rfl) (by kernel_rfl) (fun _ _ _ h => h) (Or.inl ⟨by kernel_rfl, ?hna6⟩) (by assumption) ?rna6
      case hna6 => intro W hW; go_simp; all_goals with_reducible rfl
      change wpAnyH _ _ _ _ _ _ _ (Act.put _ (some 17) _) _
      simp only [Act.put, List.setIfInBounds_toArray, List.set_cons_zero, List.set_cons_succ]
      refine wpAnyH_ready (rs := [6]) (by kernel_rfl) (by simp) ?_
      refine AllReadyH.cons rfl (fun KK hK => ?_) AllReadyH.nil
      have hT : TN w q2 X [.slice none 0 0, .slice none 0 0, .int .i64 0, .slice none 0 0, .bool false] [.slice none 0 0, .slice none 0 0, .int .i64 0, .slice none 0 0, .bool false] := ⟨hbel, hR, hX, hXge⟩
      have e0 : q2.cell? ⟨X, 0, none⟩ = some (.slice none 0 0) := hX.cell 0
      have z0 := hX.fz 0
      have e1 : q2.cell? ⟨X, 1, none⟩ = some (.slice none 0 0) := hX.cell 1
      have z1 := hX.fz 1
      have e2 : q2.cell? ⟨X, 2, none⟩ = some (.int .i64 0) := hX.cell 2
      have z2 := hX.fz 2
      have e3 : q2.cell? ⟨X, 3, none⟩ = some (.slice none 0 0) := hX.cell 3
      have z3 := hX.fz 3
      have e4 : q2.cell? ⟨X, 4, none⟩ = some (.bool false) := hX.cell 4
      have z4 := hX.fz 4
      go_simp
      clear e0 e1 e2 e3 e4 z0 z1 z2 z3 z4 hbel hR hX
      have hkk := (KeepT.trans (KeepT.trans (KeepT.trans (KeepT.trans (keep_vn (P := fun t => t = 28) (i := 0) (u := .slice (some ⟨gs, 0, none⟩) m m) hT.o rfl) (keep_vn (P := fun t => t = 28) (i := 1) (u := .slice none 0 0) (hT.set 0 (.slice (some ⟨gs, 0, none⟩) m m)).o rfl)) (keep_vn (P := fun t => t = 28) (i := 2) (u := .int .i64 0) ((hT.set 0 (.slice (some ⟨gs, 0, none⟩) m m)).set 1 (.slice none 0 0)).o rfl)) (keep_vn (P := fun t => t = 28) (i := 3) (u := .slice ga l.length gc) (((hT.set 0 (.slice (some ⟨gs, 0, none⟩) m m)).set 1 (.slice none 0 0)).set 2 (.int .i64 0)).o rfl)) (keep_vn (P := fun t => t = 28) (i := 4) (u := .bool false) ((((hT.set 0 (.slice (some ⟨gs, 0, none⟩) m m)).set 1 (.slice none 0 0)).set 2 (.int .i64 0)).set 3 (.slice ga l.length gc)).o rfl))
      have hF7 := hFc.keepT hkk (by decide)
      have hS7 := hRS.keepT hkk (by decide)
      have hT7 := (((((hT.set 0 (.slice (some ⟨gs, 0, none⟩) m m)).set 1 (.slice none 0 0)).set 2 (.int .i64 0)).set 3 (.slice ga l.length gc)).set 4 (.bool false))
      simp only [List.set] at hT7
      clear hT hFc hRS hkk
      refine hK.out _ _ trivial (fun hHeld => ?_)
      clear hK KK
      try simp only [Act.put, List.setIfInBounds_toArray, List.set_cons_zero, List.set_cons_succ]
      refine wpAnyH_done (by kernel_rfl) ?_ _
      exact HREST _ _ _ _ _ _ _ _ _ _ ⟨hT7, hS7, hF7⟩ hg1 hg2
  ·
    go_simp
    have hbA : Below wd.heap.size wd (wd.alloc (.cells #[.slice none 0 0, .slice none 0 0, .int .i64 0, .slice none 0 0, .bool false] 28)) := (Below.refl _ _).alloc (Nat.le_refl _) _
    have hX0 := VN.new wd 28 [.slice none 0 0, .slice none 0 0, .int .i64 0, .slice none 0 0, .bool false]
    have hXge : w.heap.size < wd.heap.size := hR.lt
    obtain ⟨X, hXe⟩ := hidEx wd.heap.size
    rw [hXe.out] at hX0 hXge ⊢
    replace hR := hR.below hbA
    replace hbel := hbel.trans (hbA.mono hbel.size)
    have hX : VN (wd.alloc (.cells #[.slice none 0 0, .slice none 0 0, .int .i64 0, .slice none 0 0, .bool false] 28)) X 28 [.slice none 0 0, .slice none 0 0, .int .i64 0, .slice none 0 0, .bool false] := hX0
    clear hbA hX0
    refine hK.out _ _ trivial (fun hHeld => ?_)
    clear hK KK
    try simp only [Act.put, List.setIfInBounds_toArray, List.set_cons_zero, List.set_cons_succ]
    obtain ⟨q1, hq1⟩ := hidEx (wd.alloc (.cells #[.slice none 0 0, .slice none 0 0, .int .i64 0, .slice none 0 0, .bool false] 28))
    rw [hq1.out] at hR hbel hX ⊢
    refine wpAnyH_ready (rs := [1, 3]) (by kernel_rfl) (by simp) ?_
    refine AllReadyH.cons rfl (fun KK hK => ?_) (AllReadyH.cons rfl (fun KK hK => ?_) AllReadyH.nil)
    ·
      have hmk := makeSecs m (by omega) q1
      go_simp
      clear hmk
      have hbA : Below q1.heap.size q1 (q1.alloc (.cells (madeCells #[.slice none 0 0] m) 22)) := (Below.refl _ _).alloc (Nat.le_refl _) _
      have hRS := made_rl q1 m hbel.size
      obtain ⟨gs, hgs⟩ := hidEx q1.heap.size
      rw [hgs.out] at hRS ⊢
      replace hR := hR.below hbA
      replace hX := hX.below hbA
      replace hbel := hbel.trans (hbA.mono hbel.size)
      clear hbA
      refine hK.out _ _ trivial (fun hHeld => ?_)
      clear hK KK
      try simp only [Act.put, List.setIfInBounds_toArray, List.set_cons_zero, List.set_cons_succ]
      obtain ⟨q2, hq2⟩ := hidEx (q1.alloc (.cells (madeCells #[.slice none 0 0] m) 22))
      rw [hq2.out] at hR hbel hX hRS ⊢
      refine wpAnyH_ready (rs := [3]) (by kernel_rfl) (by simp) ?_
      refine AllReadyH.cons rfl (fun KK hK => ?_) AllReadyH.nil
      go_simp
      refine (cloneFaults_any a cap l q2 (fview_below HFV.out hbel) hn).mono ?_
      rintro e w5 ⟨ga, gc, rfl, hg1, hg2, hFc, hb5⟩
      replace hFc := hFc.mono hbel.size
      replace hR := hR.below hb5
      replace hX := hX.below hb5
      replace hRS := hRS.up (Up.ofBelow hb5)
      replace hbel := hbel.trans (hb5.mono hbel.size)
      clear hb5
      go_wp2_with fail
      refine hK.out _ _ trivial (fun hHeld => ?_)
      clear hK KK
      try simp only [Act.put, List.setIfInBounds_toArray, List.set_cons_zero, List.set_cons_succ]
      refine' wpAnyH_take (i := 4) (v := _) rfl (by kernel_rfl) (by kernel_rfl) (by kernel_rfl) (fun _ _ _ h => h) (Or.inl ⟨by kernel_rfl, ?hna7⟩) (by assumption) ?rna7
      case hna7 => intro W hW; go_simp; all_goals with_reducible rfl
      change wpAnyH _ _ _ _ _ _ _ (Act.put _ (some 17) _) _
      simp only [Act.put, List.setIfInBounds_toArray, List.set_cons_zero, List.set_cons_succ]
      refine wpAnyH_ready (rs := [6]) (by kernel_rfl) (by simp) ?_
      refine AllReadyH.cons rfl (fun KK hK => ?_) AllReadyH.nil
      have hT : TN w w5 X [.slice none 0 0, .slice none 0 0, .int .i64 0, .slice none 0 0, .bool false] [.slice none 0 0, .slice none 0 0, .int .i64 0, .slice none 0 0, .bool false] := ⟨hbel, hR, hX, hXge⟩
      have e0 : w5.cell? ⟨X, 0, none⟩ = some (.slice none 0 0) := hX.cell 0
      have z0 := hX.fz 0
      have e1 : w5.cell? ⟨X, 1, none⟩ = some (.slice none 0 0) := hX.cell 1
      have z1 := hX.fz 1
      have e2 : w5.cell? ⟨X, 2, none⟩ = some (.int .i64 0) := hX.cell 2
      have z2 := hX.fz 2
      have e3 : w5.cell? ⟨X, 3, none⟩ = some (.slice none 0 0) := hX.cell 3
      have z3 := hX.fz 3
      have e4 : w5.cell? ⟨X, 4, none⟩ = some (.bool false) := hX.cell 4
      have z4 := hX.fz 4
      go_simp
      clear e0 e1 e2 e3 e4 z0 z1 z2 z3 z4 hbel hR hX
      have hkk := (KeepT.trans (KeepT.trans (KeepT.trans (KeepT.trans (keep_vn (P := fun t => t = 28) (i := 0) (u := .slice (some ⟨gs, 0, none⟩) m m) hT.o rfl) (keep_vn (P := fun t => t = 28) (i := 1) (u := .slice none 0 0) (hT.set 0 (.slice (some ⟨gs, 0, none⟩) m m)).o rfl)) (keep_vn (P := fun t => t = 28) (i := 2) (u := .int .i64 0) ((hT.set 0 (.slice (some ⟨gs, 0, none⟩) m m)).set 1 (.slice none 0 0)).o rfl)) (keep_vn (P := fun t => t = 28) (i := 3) (u := .slice ga l.length gc) (((hT.set 0 (.slice (some ⟨gs, 0, none⟩) m m)).set 1 (.slice none 0 0)).set 2 (.int .i64 0)).o rfl)) (keep_vn (P := fun t => t = 28) (i := 4) (u := .bool false) ((((hT.set 0 (.slice (some ⟨gs, 0, none⟩) m m)).set 1 (.slice none 0 0)).set 2 (.int .i64 0)).set 3 (.slice ga l.length gc)).o rfl))
      have hF7 := hFc.keepT hkk (by decide)
      have hS7 := hRS.keepT hkk (by decide)
      have hT7 := (((((hT.set 0 (.slice (some ⟨gs, 0, none⟩) m m)).set 1 (.slice none 0 0)).set 2 (.int .i64 0)).set 3 (.slice ga l.length gc)).set 4 (.bool false))
      simp only [List.set] at hT7
      clear hT hFc hRS hkk
      refine hK.out _ _ trivial (fun hHeld => ?_)
      clear hK KK
      try simp only [Act.put, List.setIfInBounds_toArray, List.set_cons_zero, List.set_cons_succ]
      refine wpAnyH_done (by kernel_rfl) ?_ _
      exact HREST _ _ _ _ _ _ _ _ _ _ ⟨hT7, hS7, hF7⟩ hg1 hg2
    ·
      go_simp
      refine (cloneFaults_any a cap l q1 (fview_below HFV.out hbel) hn).mono ?_
      rintro e w5 ⟨ga, gc, rfl, hg1, hg2, hFc, hb5⟩
      replace hFc := hFc.mono hbel.size
      replace hR := hR.below hb5
      replace hX := hX.below hb5
      replace hbel := hbel.trans (hb5.mono hbel.size)
      clear hb5
      go_wp2_with fail
      refine hK.out _ _ trivial (fun hHeld => ?_)
      clear hK KK
      try simp only [Act.put, List.setIfInBounds_toArray, List.set_cons_zero, List.set_cons_succ]
      refine wpAnyH_ready (rs := [1]) (by kernel_rfl) (by simp) ?_
      refine AllReadyH.cons rfl (fun KK hK => ?_) AllReadyH.nil
      have hmk := makeSecs m (by omega) w5
      go_simp
      clear hmk
      have hbA : Below w5.heap.size w5 (w5.alloc (.cells (madeCells #[.slice none 0 0] m) 22)) := (Below.refl _ _).alloc (Nat.le_refl _) _
      have hRS := made_rl w5 m hbel.size
      obtain ⟨gs, hgs⟩ := hidEx w5.heap.size
      rw [hgs.out] at hRS ⊢
      replace hR := hR.below hbA
      replace hX := hX.below hbA
      replace hFc := hFc.up (Up.ofBelow hbA)
      replace hbel := hbel.trans (hbA.mono hbel.size)
      clear hbA
      refine hK.out _ _ trivial (fun hHeld => ?_)
      clear hK KK
      try simp only [Act.put, List.setIfInBounds_toArray, List.set_cons_zero, List.set_cons_succ]
      obtain ⟨q2, hq2⟩ := hidEx (w5.alloc (.cells (madeCells #[.slice none 0 0] m) 22))
      rw [hq2.out] at hR hbel hX hRS hFc ⊢
      refine' wpAnyH_take (i := 4) (v := _) rfl (by kernel_rfl) (by kernel_rfl) (by kernel_rfl) (fun _ _ _ h => h) (Or.inl ⟨by kernel_rfl, ?hna8⟩) (by assumption) ?rna8
      case hna8 => intro W hW; go_simp; all_goals with_reducible rfl
      change wpAnyH _ _ _ _ _ _ _ (Act.put _ (some 17) _) _
      simp only [Act.put, List.setIfInBounds_toArray, List.set_cons_zero, List.set_cons_succ]
      refine wpAnyH_ready (rs := [6]) (by kernel_rfl) (by simp) ?_
      refine AllReadyH.cons rfl (fun KK hK => ?_) AllReadyH.nil
      have hT : TN w q2 X [.slice none 0 0, .slice none 0 0, .int .i64 0, .slice none 0 0, .bool false] [.slice none 0 0, .slice none 0 0, .int .i64 0, .slice none 0 0, .bool false] := ⟨hbel, hR, hX, hXge⟩
      have e0 : q2.cell? ⟨X, 0, none⟩ = some (.slice none 0 0) := hX.cell 0
      have z0 := hX.fz 0
      have e1 : q2.cell? ⟨X, 1, none⟩ = some (.slice none 0 0) := hX.cell 1
      have z1 := hX.fz 1
      have e2 : q2.cell? ⟨X, 2, none⟩ = some (.int .i64 0) := hX.cell 2
      have z2 := hX.fz 2
      have e3 : q2.cell? ⟨X, 3, none⟩ = some (.slice none 0 0) := hX.cell 3
      have z3 := hX.fz 3
      have e4 : q2.cell? ⟨X, 4, none⟩ = some (.bool false) := hX.cell 4
      have z4 := hX.fz 4
      go_simp
      clear e0 e1 e2 e3 e4 z0 z1 z2 z3 z4 hbel hR hX
      have hkk := (KeepT.trans (KeepT.trans (KeepT.trans (KeepT.trans (keep_vn (P := fun t => t = 28) (i := 0) (u := .slice (some ⟨gs, 0, none⟩) m m) hT.o rfl) (keep_vn (P := fun t => t = 28) (i := 1) (u := .slice none 0 0) (hT.set 0 (.slice (some ⟨gs, 0, none⟩) m m)).o rfl)) (keep_vn (P := fun t => t = 28) (i := 2) (u := .int .i64 0) ((hT.set 0 (.slice (some ⟨gs, 0, none⟩) m m)).set 1 (.slice none 0 0)).o rfl)) (keep_vn (P := fun t => t = 28) (i := 3) (u := .slice ga l.length gc) (((hT.set 0 (.slice (some ⟨gs, 0, none⟩) m m)).set 1 (.slice none 0 0)).set 2 (.int .i64 0)).o rfl)) (keep_vn (P := fun t => t = 28) (i := 4) (u := .bool false) ((((hT.set 0 (.slice (some ⟨gs, 0, none⟩) m m)).set 1 (.slice none 0 0)).set 2 (.int .i64 0)).set 3 (.slice ga l.length gc)).o rfl))
      have hF7 := hFc.keepT hkk (by decide)
      have hS7 := hRS.keepT hkk (by decide)
      have hT7 := (((((hT.set 0 (.slice (some ⟨gs, 0, none⟩) m m)).set 1 (.slice none 0 0)).set 2 (.int .i64 0)).set 3 (.slice ga l.length gc)).set 4 (.bool false))
      simp only [List.set] at hT7
      clear hT hFc hRS hkk
      refine hK.out _ _ trivial (fun hHeld => ?_)
      clear hK KK
      try simp only [Act.put, List.setIfInBounds_toArray, List.set_cons_zero, List.set_cons_succ]
      refine wpAnyH_done (by kernel_rfl) ?_ _
      exact HREST _ _ _ _ _ _ _ _ _ _ ⟨hT7, hS7, hF7⟩ hg1 hg2
end Go.Proofs.Ytnlceclfepgmhaa

