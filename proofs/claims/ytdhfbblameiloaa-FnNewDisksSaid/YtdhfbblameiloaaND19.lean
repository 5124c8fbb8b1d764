/-
  Together: FlushOwn, Ret5, DrawBytes, Conv, DrawCore
-/
import Derived.Test.YtdhfbblameiloaaND18
import Derived.Test.YtdhfbblameiloaaND4
import Derived.Test.YtdhfbblameiloaaND9
import Derived.Test.YtdhfbblameiloaaND11
import Derived.Test.YtdhfbblameiloaaND1
import Derived.Laws.BytesArg
import Derived.Test.YtdhfbblameiloaaND2
import Derived.Deep.RegionWith
/-
  Disks of the call's own behind settle and powerOff.
-/
namespace Go.Proofs.Ytdhfbblameiloaa
open Go.RowKit
set_option maxRecDepth 4000

theorem KO.keepT {P : TypeId → Prop} {w w' : World} {B : Nat} {sa : Option Addr} {sc : Nat} {ca : Option Addr} {cc : Nat} {fa : Option Addr} {fc : Nat} {ss cs : List Value} {D : PDisk} (h : KO w B sa sc ca cc fa fc ss cs D) (ho : KeepT P w w') (hs : w.heap.size ≤ w'.heap.size) (h1 : ¬ P 27) (h2 : ¬ P 51) (h3 : ¬ P 79) (h4 : ¬ P 5) : KO w' B sa sc ca cc fa fc ss cs D :=
  ⟨h.sle, h.snil, h.cle, h.cnil, h.fle, h.fnil, h.ns, h.nc, h.secs.keepT ho h1, h.cache.keepT ho h2, h.faults.keepT ho h3, h.bytes.keepT ho hs h4⟩
theorem KO.opsUp {w : World} {B : Nat} {sa : Option Addr} {sc : Nat} {ca : Option Addr} {cc : Nat} {fa : Option Addr} {fc : Nat} {ss cs : List Value} {D : PDisk} (h : KO w B sa sc ca cc fa fc ss cs D) (x : Int) : KO w B sa sc ca cc fa fc ss cs { D with ops := x } :=
  ⟨h.sle, h.snil, h.cle, h.cnil, h.fle, h.fnil, h.ns, h.nc, h.secs, h.cache, h.faults, h.bytes⟩
theorem SettleTo.keepT {w w' : World} {B X gs ns sc : Nat} {ca : Option Addr} {o f b : Value} {rows ys ss : List Value} (h : SettleTo w B X gs ns sc ca o f b rows w') (hX : VN w X 32 ys) (hS : RL 27 w B (some ⟨gs, 0, none⟩) ss) (hss : 0 < ss.length) : KeepT (fun t => t = 32 ∨ t = 27 ∨ t = 51) w w' := by
  intro k c t z hk ht
  refine h.keep k (Array.getElem?_eq_some_iff.1 hk).1 (fun e => ht (.inl ?_)) (fun e => ht (.inr (.inl ?_))) (fun c' z' e => ht (.inr (.inr ?_)))
  · unfold VN at hX
    rw [← e, hk] at hX
    cases hX; rfl
  · rcases hS with h0 | ⟨g', cur, ea, -, hg, -⟩
    · rw [h0] at hss; simp at hss
    · cases ea
      rw [← e, hk] at hg
      cases hg; rfl
  · rw [hk] at e
    cases e; rfl
theorem zip_cache (l : List (Int × List Int)) : (l.map (·.1)).zip (l.map (·.2)) = l := by
  induction l with
  | nil => rfl
  | cons x l ih => simp [ih]
/-- A disk whose cache came into its sectors. -/
theorem KO.settled {w w' : World} {B X gs sc : Nat} {ca : Option Addr} {cc : Nat} {fa : Option Addr} {fc : Nat} {ss cs : List Value} {D : PDisk} {o f b : Value} {ys : List Value} (h : KO w B (some ⟨gs, 0, none⟩) sc ca cc fa fc ss cs D) (hX : VN w X 32 ys) (hp : 0 < D.secs.length) (us : List Value) (L : List (Int × List Int)) (hB : Bs w B (ss ++ us) (D.secs ++ L.map (·.2))) (hu : us.length = L.length) (hT : SettleTo w B X gs D.secs.length sc ca o f b (settleL ss ((L.map (·.1)).zip us)) w') (dn : Bool) : KO w' B (some ⟨gs, 0, none⟩) sc ca 0 fa fc (settleL ss ((L.map (·.1)).zip us)) [] { D with secs := settleL D.secs L, cache := [], down := dn } := by
  have hk := hT.keepT hX h.secs (by rw [h.ns]; exact hp)
  have hb := (Bs.settle (ns := L.map (·.1)) hB h.ns (by simp [hu])).keepT hk hT.size (by decide)
  rw [zip_cache] at hb
  refine ⟨?_, (fun e => by cases e), Nat.le_refl _, fun _ => rfl, h.fle, h.fnil, ?_, rfl, hT.secs, .inl rfl, h.faults.keepT hk (by decide), ?_⟩
  · show (settleL D.secs L).length ≤ sc
    rw [settleL_len]; exact h.sle
  · show _ = (settleL D.secs L).length
    rw [settleL_len, settleL_len]; exact h.ns
  · rw [List.append_nil]
    show Bs w' B _ (settleL D.secs L ++ [])
    rw [List.append_nil]
    exact hb

theorem keptG_sub {α : Type} (keep : Int) (l : List α) : ∀ k, (keptG keep l k).Sublist (l.take k)
  | 0 => by simp [keptG]
  | k + 1 => by
    rw [keptG, List.take_add_one]
    refine (keptG_sub keep l k).append ?_
    split
    · exact List.Sublist.refl _
    · exact List.nil_sublist _
theorem keptG_zip {α β : Type} (keep : Int) {l : List α} {m : List β} (h : l.length = m.length) : ∀ k, (keptG keep l k).zip (keptG keep m k) = keptG keep (l.zip m) k
  | 0 => rfl
  | k + 1 => by
    rw [keptG, keptG, keptG, List.zip_append (keptG_len_eq h k), keptG_zip keep h k]
    congr 1
    split
    · by_cases hk : k < l.length
      · rw [List.getElem?_eq_getElem hk, List.getElem?_eq_getElem (show k < m.length by omega), List.getElem?_eq_getElem (show k < (l.zip m).length by simp; omega)]
        simp
      · rw [List.getElem?_eq_none (by omega), List.getElem?_eq_none (show m.length ≤ k by omega), List.getElem?_eq_none (show (l.zip m).length ≤ k by simp; omega)]
        rfl
    · rfl
theorem OB.cut {w : World} {B r : Nat} {v : Value} {l : List Int} (h : OB w B v l) : OB w B (cutVal r v) (l.take r) := by
  obtain ⟨a, c, rfl, h1, h2, h3, h4⟩ := h.is
  have e : (l.take r).length = min r l.length := List.length_take
  refine ⟨a, min r l.length, by rw [e]; rfl, by rw [e]; exact Nat.le_refl _, fun ea => ?_, fun x hx => h3 x (List.mem_of_mem_take hx), ?_⟩
  · have := h2 ea; omega
  · rcases h4 with h4 | ⟨g, ea, hb, hr⟩
    · exact .inl (by rw [h4]; simp)
    · obtain ⟨cur, hc, hn, hx⟩ := hr
      refine .inr ⟨g, ea, hb, cur, hc, by rw [e]; omega, fun i hi => ?_⟩
      rw [e] at hi
      rw [hx i (by omega)]
      unfold bf
      rw [List.getD_eq_getElem?_getD, List.getD_eq_getElem?_getD, List.getElem?_take, if_pos (by omega)]
theorem own_cut (r : Nat) (v : Value) : (cutVal r v).ownBlock = v.ownBlock := by
  unfold cutVal
  split
  · rename_i a n c
    cases a <;> rfl
  · rfl
/-- Byte rows of which some are kept, the last one cut. -/
theorem Bs.lost {w : World} {B : Nat} {ss cs : List Value} {s : List (List Int)} {L : List (Int × List Int)} (h : Bs w B (ss ++ cs) (s ++ L.map (·.2))) (hs : ss.length = s.length) (q : Int) (r : Nat) : Bs w B (ss ++ cutLast (cutVal r) (keptG q cs L.length)) (s ++ (cutLast (cutW r) (keptG q L L.length)).map (·.2)) ∧ (cutLast (cutVal r) (keptG q cs L.length)).length = (cutLast (cutW r) (keptG q L L.length)).length := by
  have hc : cs.length = L.length := by have := h.len; simp at this; omega
  have hbase : Bs w B (ss ++ keptG q cs L.length) (s ++ (keptG q L L.length).map (·.2)) := by
    have hl2 := keptG_len_eq (keep := q) (l := cs) (m := L) hc L.length
    refine ⟨by simp [hs, hl2], fun i v l h1 h2 => ?_, fun v hv g hg => ?_, ?_⟩
    · by_cases hi : i < ss.length
      · rw [List.getElem?_append_left hi] at h1
        rw [List.getElem?_append_left (by omega)] at h2
        exact h.ob i v l (by rw [List.getElem?_append_left hi]; exact h1) (by rw [List.getElem?_append_left (by omega)]; exact h2)
      · rw [List.getElem?_append_right (by omega)] at h1
        rw [List.getElem?_append_right (by omega), ← hs] at h2
        rw [keptG_map] at h2
        have hz : ((keptG q cs L.length).zip (keptG q (L.map (·.2)) L.length))[i - ss.length]? = some (v, l) := by
          rw [List.getElem?_zip_eq_some]
          exact ⟨h1, h2⟩
        rw [keptG_zip q (by simp [hc])] at hz
        have hm := keptG_mem (List.mem_of_getElem? hz)
        obtain ⟨j, hj, ej⟩ := List.getElem_of_mem hm
        have hj' : (cs.zip (L.map (·.2)))[j]? = some (v, l) := by rw [List.getElem?_eq_getElem hj, ej]
        rw [List.getElem?_zip_eq_some] at hj'
        exact h.ob (ss.length + j) v l (by rw [List.getElem?_append_right (by omega), Nat.add_sub_cancel_left]; exact hj'.1) (by rw [hs, List.getElem?_append_right (by omega), Nat.add_sub_cancel_left]; exact hj'.2)
    · rcases List.mem_append.1 hv with hv | hv
      · exact h.lt v (List.mem_append_left _ hv) g hg
      · exact h.lt v (List.mem_append_right _ (keptG_mem hv)) g hg
    · exact h.apt.sublist ((List.Sublist.refl ss).append ((keptG_sub q cs L.length).trans (List.take_sublist _ _)))
  have hl2 := keptG_len_eq (keep := q) (l := cs) (m := L) hc L.length
  rcases List.eq_nil_or_concat (keptG q L L.length) with e | ⟨L0, x, e⟩
  · have e2 : keptG q cs L.length = [] := List.eq_nil_of_length_eq_zero (by rw [hl2, e]; rfl)
    rw [e, e2] at hbase ⊢
    exact ⟨hbase, rfl⟩
  · rw [List.concat_eq_append] at e
    obtain ⟨u0, u, e2⟩ : ∃ u0 u, keptG q cs L.length = u0 ++ [u] := by
      rcases List.eq_nil_or_concat (keptG q cs L.length) with e3 | ⟨a, b, e3⟩
      · rw [e3, e] at hl2; simp at hl2
      · exact ⟨a, b, by rw [e3, List.concat_eq_append]⟩
    rw [e, e2] at hbase hl2
    rw [e, e2, cutLast_app, cutLast_app]
    have hl3 : u0.length = L0.length := by simpa using hl2
    refine ⟨?_, by simp [hl3]⟩
    rw [List.map_append, List.map_singleton] at hbase
    rw [List.map_append, List.map_singleton]
    refine ⟨by simp [hs, hl3], fun i v l h1 h2 => ?_, fun v hv g hg => ?_, ?_⟩
    · by_cases hi : i < (ss ++ u0).length
      · rw [← List.append_assoc, List.getElem?_append_left hi] at h1
        rw [← List.append_assoc, List.getElem?_append_left (by simp [← hs, ← hl3] at hi ⊢; omega)] at h2
        exact hbase.ob i v l (by rw [← List.append_assoc, List.getElem?_append_left hi]; exact h1) (by rw [← List.append_assoc, List.getElem?_append_left (by simp [← hs, ← hl3] at hi ⊢; omega)]; exact h2)
      · have e0 : (s ++ L0.map (·.2)).length = (ss ++ u0).length := by simp [hs, hl3]
        rw [← List.append_assoc, List.getElem?_append_right (by omega)] at h1
        rw [← List.append_assoc, List.getElem?_append_right (by omega), e0] at h2
        have ei : i - (ss ++ u0).length = 0 := by
          have := (List.getElem?_eq_some_iff.1 h1).1
          simp at this ⊢; omega
        rw [ei] at h1 h2
        simp at h1 h2
        subst h1 h2
        exact (hbase.ob ((ss ++ u0).length) u x.2 (by rw [← List.append_assoc, List.getElem?_append_right (Nat.le_refl _)]; simp) (by rw [← List.append_assoc, ← e0, List.getElem?_append_right (Nat.le_refl _)]; simp)).cut
    · rw [← List.append_assoc] at hv
      rcases List.mem_append.1 hv with hv | hv
      · exact hbase.lt v (by rw [← List.append_assoc]; exact List.mem_append_left _ hv) g hg
      · simp at hv
        subst hv
        rw [own_cut] at hg
        exact hbase.lt u (by simp) g hg
    · have ha := hbase.apt
      rw [← List.append_assoc, List.pairwise_append] at ha ⊢
      refine ⟨ha.1, by simp, fun a h1 b h2 => ?_⟩
      simp at h2
      subst h2
      intro g g1 g2
      rw [own_cut] at g2
      exact ha.2.2 a h1 u (by simp) g g1 g2
end Go.Proofs.Ytdhfbblameiloaa

/-
  A disk's five cells laid into the result's variable.
-/
namespace Go.Proofs.Ytdhfbblameiloaa
open Go.RowKit
set_option maxRecDepth 4000

theorem ret5_vn {W : World} {R : Nat} {z0 z1 z2 z3 z4 : Value} (v0 v1 v2 v3 v4 : Value) (h : VN W R 32 [z0, z1, z2, z3, z4]) : VN (((((W.setCell ⟨R, 0, none⟩ v0).setCell ⟨R, 1, none⟩ v1).setCell ⟨R, 2, none⟩ v2).setCell ⟨R, 3, none⟩ v3).setCell ⟨R, 4, none⟩ v4) R 32 [v0, v1, v2, v3, v4] := by
  have := ((((h.set 0 v0).set 1 v1).set 2 v2).set 3 v3).set 4 v4
  simpa only [List.set] using this
theorem ret5_keep {W : World} {R : Nat} {z0 z1 z2 z3 z4 : Value} (v0 v1 v2 v3 v4 : Value) (h : VN W R 32 [z0, z1, z2, z3, z4]) : KeepT (fun t => t = 32) W (((((W.setCell ⟨R, 0, none⟩ v0).setCell ⟨R, 1, none⟩ v1).setCell ⟨R, 2, none⟩ v2).setCell ⟨R, 3, none⟩ v3).setCell ⟨R, 4, none⟩ v4) := by
  have k0 := keep_vn (P := fun t => t = 32) (i := 0) (u := v0) h rfl
  have k1 := keep_vn (P := fun t => t = 32) (i := 1) (u := v1) (h.set 0 v0) rfl
  have k2 := keep_vn (P := fun t => t = 32) (i := 2) (u := v2) ((h.set 0 v0).set 1 v1) rfl
  have k3 := keep_vn (P := fun t => t = 32) (i := 3) (u := v3) (((h.set 0 v0).set 1 v1).set 2 v2) rfl
  have k4 := keep_vn (P := fun t => t = 32) (i := 4) (u := v4) ((((h.set 0 v0).set 1 v1).set 2 v2).set 3 v3) rfl
  exact (((k0.trans k1).trans k2).trans k3).trans k4
theorem ret5_below {w W : World} {n R : Nat} (v0 v1 v2 v3 v4 : Value) (h : Below n w W) (hR : n ≤ R) : Below n w (((((W.setCell ⟨R, 0, none⟩ v0).setCell ⟨R, 1, none⟩ v1).setCell ⟨R, 2, none⟩ v2).setCell ⟨R, 3, none⟩ v3).setCell ⟨R, 4, none⟩ v4) :=
  ((((h.setCell (p := ⟨R, 0, none⟩) hR _).setCell (p := ⟨R, 1, none⟩) hR _).setCell (p := ⟨R, 2, none⟩) hR _).setCell (p := ⟨R, 3, none⟩) hR _).setCell (p := ⟨R, 4, none⟩) hR _
theorem ret5_size (W : World) (R : Nat) (v0 v1 v2 v3 v4 : Value) : (((((W.setCell ⟨R, 0, none⟩ v0).setCell ⟨R, 1, none⟩ v1).setCell ⟨R, 2, none⟩ v2).setCell ⟨R, 3, none⟩ v3).setCell ⟨R, 4, none⟩ v4).heap.size = W.heap.size := by simp
/-- The rows of a disk, the variable's turned. -/
theorem MS.keepX {w w' : World} {B X gs sc : Nat} {ca : Option Addr} {cc : Nat} {fa : Option Addr} {fc : Nat} {ss cs : List Value} {D : PDisk} {S : List (List Int)} (h : MS w B X gs sc ca cc fa fc ss cs D S) (hk : KeepT (fun t => t = 32) w w') (Y : Nat) (hX : VN w' Y 32 [.slice (some ⟨gs, 0, none⟩) D.secs.length sc, .slice ca D.cache.length cc, .int .i64 D.ops, .slice fa D.faults.length fc, .bool D.down]) : MS w' B Y gs sc ca cc fa fc ss cs D S :=
  ⟨hX, h.secs.keepT hk (by decide), h.ns, h.len, fun i v l h1 h2 => (h.ob i v l h1 h2).keepT hk (by decide), own_keepT h.own hk (by decide), h.nc, fun i v l h1 h2 => (h.cb i v l h1 h2).keepT hk (by decide), own_keepT h.fown hk (by decide)⟩
end Go.Proofs.Ytdhfbblameiloaa

/-
  Drawn bytes: as many as asked, in memory of their own; nothing that was there turns but the cursor.
-/
namespace Go.Proofs.Ytdhfbblameiloaa
open Go.RowKit
set_option maxRecDepth 4000

set_option maxHeartbeats 2000000 in
theorem l1Bytes_any (g : Nat) (ao : Option Addr) (n cap : Nat) (f : Nat → Int) (m : Nat) (w : World) (hn : n ≤ 1048576) (hm : m ≤ 1048576) (hC : Cur w g ao n cap f) :
    Calls Try.prog 123 #[.pointer (some ⟨g, 0, none⟩), .int .i64 (m : Int)] w fun e w' => ∃ (b c : Nat) (l : List Int), e = .returned (.slice (some ⟨b, 0, none⟩) m c) ∧ l.length = m ∧ (∀ y ∈ l, 0 ≤ y ∧ y ≤ 255) ∧ w.heap.size ≤ b ∧ m ≤ c ∧ Row 5 w' b m (fun i => l.getD i 0) ∧ Cur w' g ao n cap f ∧ But g w w' := by
  obtain ⟨i0, hi, hz0, hz1, hz2⟩ := info_parts Try.info5
  have hown0 := World.ownsRow_lit (base := w.heap.size) (e := 5) (size := 1) w #[] 0 (Nat.le_refl _) (Nat.zero_le _) rfl
  have hb0 : Below w.heap.size w (w.alloc (.cells #[] 5)) := (Below.refl _ _).alloc (Nat.le_refl _) _
  have hgl := hC.lt
  have HC : Hid (∀ a, ao = some a → 0 < n → a.block < w.heap.size) := hC.code
  go_enter Try.func123, Try.ntmps123
  go_wp2
  go_loopg [5, 6] m (fun q v i wr => ∃ (k : Nat) (l : List Int), k ≤ m ∧ q = m - k ∧ i = .int .i64 k ∧ l.length = k ∧ (∀ y ∈ l, 0 ≤ y ∧ y ≤ 255) ∧ wr.ownsRow w.heap.size 5 1 v k (bl l) ∧ v ≠ .slice none 0 0 ∧ Cur wr g ao n cap f ∧ But g w wr)
  case atStart => exact ⟨0, [], Nat.zero_le _, rfl, rfl, rfl, (by intro y hy; cases hy), hown0, (by intro h; cases h), hC.below hb0, But.ofBelow hb0⟩
  case round =>
    obtain ⟨k, l, hk, rfl, rfl, hl, hby, hown, hv, hCr, hB⟩ := hrel
    clear hown0 hb0
    have HV : Hid (u5 ≠ .slice none 0 0) := hv
    have HY : Hid (∀ y ∈ l, 0 ≤ y ∧ y ≤ 255) := hby
    have HL : Hid (l.length = k) := hl
    clear hv hby hl
    by_cases hlt : k < m
    · have hkz : (k : Int) < (m : Int) := by omega
      go_wp2_with fail
      refine (l1Byte_any g ao n cap f wr hn hCr).mono ?_
      rintro e w1 ⟨x, rfl, hx0, hx1, hC1, hO1⟩
      have hown1 := hown.kept hO1.grown (Or.inr (fun e => by have := (hown.lt g e).1; omega))
      have hs1 : w.heap.size ≤ w1.heap.size := by rw [hO1.size]; exact hB.size
      go_wp2_with (at_builtin; go_must (refine wpList_append_own _ rfl (.tmp 13) (.tmp 17) 27 rfl w.heap.size 5 i0 (.int .u8 0) 1 1 Try.underlying27 hi hz0 hz1 hz2 rfl (by decide) u5 _ _ rfl (hown1.alloc _) ⟨w1.heap.size, 0, none⟩ 1 1 [.int .u8 x] rfl rfl (cellNew _ _ _) (bl_one [x]) (by unfold maxLen; omega) (by omega) (by simp; omega) ?_); intro v2 w2 hown2 hgr2 hnil)
      have hb2 : Below w1.heap.size w1 (w1.alloc (.cells #[.int .u8 x] 5)) := (Below.refl _ _).alloc (Nat.le_refl _) _
      have hB1 : But g w w1 := hB.trans (But.ofOnly hO1)
      have hB2 : But g w w2 := by
        refine ⟨hgr2.os.trans hB1.os, hgr2.tape.trans hB1.tape, hgr2.output.trans hB1.output, Nat.le_trans hs1 (Nat.le_trans (by simp) hgr2.size), fun j hj hg => ?_⟩
        rw [hgr2.block j (by simp; omega) (fun e => by have := (hown.lt j e.symm).1; omega), Below.heap_alloc _ _ _ (by omega)]
        exact hB1.block j hj hg
      have hC2 : Cur w2 g ao n cap f := (hC1.below hb2).grown hgr2 (fun e => by have := (hown.lt g e).1; omega) (fun a ha h0 e => by have := (hown.lt _ e).1; have := HC.out a ha h0; omega)
      have hO2 : w2.ownsRow w.heap.size 5 1 v2 (k + 1) (bl (l ++ [x])) := by rw [bl_append]; exact hown2
      have HV2 : Hid (v2 ≠ .slice none 0 0) := fun e => HV.out (hnil.1 e).1
      have HY2 : Hid (∀ y ∈ l ++ [x], 0 ≤ y ∧ y ≤ 255) := by
        intro y hy
        rcases List.mem_append.1 hy with hy | hy
        · exact HY.out y hy
        · simp at hy; omega
      have HL2 : Hid ((l ++ [x]).length = k + 1) := by show (l ++ [x]).length = k + 1; rw [List.length_append, HL.out]; rfl
      clear hgr2 hnil hown hown1 hown2 hB hB1 hC1 hCr hO1 hb2
      go_wp2
      go_roundg (m - (k + 1))
      case measure => omega
      case rel => exact ⟨k + 1, l ++ [x], by omega, rfl, by go_num, HL2.out, HY2.out, hO2, HV2.out, hC2, hB2⟩
    · obtain rfl : k = m := by omega
      obtain ⟨b, c, hv5, hb, hc, hrow⟩ := row_of_own' hown HV.out
      clear hown HV
      rw [hv5]
      clear hv5
      go_wp2
      go_ret
      exact ⟨b, c, l, rfl, HL.out, HY.out, hb, hc, hrow, hCr, hB⟩
end Go.Proofs.Ytdhfbblameiloaa

/-
  Bytes as a string: what 'string(b)' comes to at a slice of bytes that reads.
-/
namespace Go.Proofs.Ytdhfbblameiloaa
open Go.RowKit
set_option maxRecDepth 4000

theorem conv_view {w : World} {b off n cap : Nat} {f : Nat → Int} (hv : View w (some ⟨b, off, none⟩) n cap f) :
    (convert 27 9 (.slice (some ⟨b, off, none⟩) n cap)).run Try.prog w = .ok (.string (strOfNums (lof n f))) w := by
  refine run_convert_bytes_arg w 27 5 Try.underlying27 Try.underlying5 b off n cap (lof n f) (lof_len n f) ?_ 9 Try.underlying9
  intro i hi
  obtain ⟨b', off', e, _, hc⟩ := hv.cells (by omega)
  simp only [Option.some.injEq, Addr.mk.injEq, and_true] at e
  obtain ⟨rfl, rfl⟩ := e
  rw [hc i hi, lof_get n f i hi]

theorem strOfNums_inj {xs ys : List Int} (hx : ∀ y ∈ xs, 0 ≤ y ∧ y ≤ 255) (hy : ∀ y ∈ ys, 0 ≤ y ∧ y ≤ 255) (h : strOfNums xs = strOfNums ys) : xs = ys := by
  have h1 : xs.map (fun n => UInt8.ofNat n.toNat) = ys.map (fun n => UInt8.ofNat n.toNat) := by
    rw [← strOfNums_data, ← strOfNums_data, h]
  have key : ∀ a b : Int, 0 ≤ a ∧ a ≤ 255 → 0 ≤ b ∧ b ≤ 255 → UInt8.ofNat a.toNat = UInt8.ofNat b.toNat → a = b := by
    intro a b ha hb e
    have := congrArg UInt8.toNat e
    simp at this
    omega
  clear h
  induction xs generalizing ys with
  | nil => cases ys with
    | nil => rfl
    | cons y ys => simp at h1
  | cons x xs ih => cases ys with
    | nil => simp at h1
    | cons y ys =>
      simp only [List.map_cons, List.cons.injEq] at h1
      rw [key x y (hx x (by simp)) (hy y (by simp)) h1.1, ih (fun z hz => hx z (by simp [hz])) (fun z hz => hy z (by simp [hz])) h1.2]

end Go.Proofs.Ytdhfbblameiloaa

/-
  The draws of layer 1, as far as a law leans on them.
-/
namespace Go.Proofs.Ytdhfbblameiloaa
open Go.RowKit
set_option maxRecDepth 4000

/-- Drawn bytes in memory of their own. -/
structure Drawn (w w' : World) (g : Nat) (e : Ending) (m b c : Nat) (l : List Int) : Prop where
  ret : e = .returned (.slice (some ⟨b, 0, none⟩) m c)
  len : l.length = m
  byte : ∀ y ∈ l, 0 ≤ y ∧ y ≤ 255
  new : w.heap.size ≤ b
  le : m ≤ c
  row : Row 5 w' b m (fun i => l.getD i 0)
  few : m ≤ 9

set_option maxHeartbeats 2000000 in
theorem l1Some_any (g : Nat) (ao : Option Addr) (n cap : Nat) (f : Nat → Int) (w : World) (hn : n ≤ 1048576) (hC : Cur w g ao n cap f) :
    Calls Try.prog 78 #[.pointer (some ⟨g, 0, none⟩)] w fun e w' => (∃ (b c m : Nat) (l : List Int), Drawn w w' g e m b c l) ∧ Cur w' g ao n cap f ∧ But g w w' := by
  have hb0 : Below w.heap.size w (w.alloc (.cells #[.int .i64 0, .int .i64 1, .int .i64 2, .int .i64 5, .int .i64 9] 3)) := (Below.refl _ _).alloc (Nat.le_refl _) _
  have hgl := hC.lt
  have hz := newInts w [0, 1, 2, 5, 9] 3
  go_enter Try.func78, Try.ntmps78
  go_wp2_with fail
  refine (l1Int_any g ao n cap f w.heap.size 5 (fun i => [0, 1, 2, 5, 9].getD i 0) _ hn (by omega) (by omega) hz (by omega) (hC.below hb0)).mono ?_
  rintro e w1 ⟨j, hj, rfl, hC1, hO1⟩
  have hmem : [(0 : Int), 1, 2, 5, 9].getD j 0 ∈ [(0 : Int), 1, 2, 5, 9] := getD_mem hj
  obtain ⟨m, hm, hm9⟩ : ∃ m : Nat, [(0 : Int), 1, 2, 5, 9].getD j 0 = (m : Int) ∧ m ≤ 9 := by
    simp only [List.mem_cons, List.not_mem_nil, or_false] at hmem
    exact ⟨([(0 : Int), 1, 2, 5, 9].getD j 0).toNat, by omega, by omega⟩
  clear hmem hz
  rw [hm]
  clear hm
  have hB1 : But g w w1 := (But.ofBelow hb0).trans (But.ofOnly hO1)
  clear hO1
  go_wp2_with fail
  refine (l1Bytes_any g ao n cap f m w1 hn (by omega) hC1).mono ?_
  rintro e w2 ⟨b, c, l, rfl, hl, hy, hb, hc, hrow, hC2, hB2⟩
  go_wp2
  go_ret
  exact ⟨⟨b, c, m, l, rfl, hl, hy, Nat.le_trans hB1.size hb, hc, hrow, hm9⟩, hC2, hB1.trans hB2⟩

theorem conv_drawn {w : World} {m b c : Nat} {l : List Int} (h1 : l.length = m) (h2 : ∀ y ∈ l, 0 ≤ y ∧ y ≤ 255) (h4 : m ≤ c) (h5 : Row 5 w b m (fun i => l.getD i 0)) :
    (convert 27 9 (.slice (some ⟨b, 0, none⟩) m c)).run Try.prog w = .ok (.string (strOfNums l)) w := by
  subst h1
  have := conv_view (h5.view h4 (fun i hi => h2 _ (getD_mem hi)))
  rw [lof_self] at this
  exact this
theorem Drawn.mono {w0 w w' : World} {g : Nat} {e : Ending} {m b c : Nat} {l : List Int} (h : Drawn w w' g e m b c l) (hs : w0.heap.size ≤ w.heap.size) : Drawn w0 w' g e m b c l :=
  ⟨h.ret, h.len, h.byte, Nat.le_trans hs h.new, h.le, h.row, h.few⟩

/-- Drawn bytes as a result among others: all that is known of them. -/
structure Own9 (w w' : World) (m b c : Nat) (l : List Int) : Prop where
  len : l.length = m
  byte : ∀ y ∈ l, 0 ≤ y ∧ y ≤ 255
  new : w.heap.size ≤ b
  le : m ≤ c
  row : Row 5 w' b m (fun i => l.getD i 0)
  few : m ≤ 9
theorem Own9.bytes {w w' : World} {m b c : Nat} {l : List Int} (h : Own9 w w' m b c l) : ∀ i, i < m → 0 ≤ l.getD i 0 ∧ l.getD i 0 ≤ 255 := by
  intro i hi
  exact h.byte _ (getD_mem (by rw [h.len]; exact hi))
theorem Own9.view {w w' : World} {m b c : Nat} {l : List Int} (h : Own9 w w' m b c l) : View w' (some ⟨b, 0, none⟩) m c (fun i => l.getD i 0) := h.row.view h.le h.bytes

end Go.Proofs.Ytdhfbblameiloaa

