/-
  Together: NodeNums, NodeKind, NodeSizeI, SliceIn, NodeIn
-/
import Derived.Test.YtkaficcnfkpkiaaNz2
import Derived.Test.YtkaficcnfkpkiaaNz1
import Derived.Test.YtkaficcnfkpkiaaNz3
import Derived.Deep.RegionHeld3
import Derived.Test.YtkaficcnfkpkiaaProg
import Derived.WalkKit
import Derived.OpenShut
import Derived.Deep.Strs
import Derived.ChangeSame
import Derived.Lib.SmallJoins
/-
  The program's putNumbers at as many numbers as there are: what was there, and behind it their groups.
-/
namespace Go.Proofs.Ytkaficcnfkpkiaa
open Go.RowKit
set_option maxRecDepth 4000

/-- Bytes of the call's own, maybe none, read. -/
theorem view_own_opt {w : World} {base : Nat} {v : Value} {L : List Int} (h : w.ownsRow base 5 1 v L.length (bl L)) (hy : ∀ y ∈ L, 0 ≤ y ∧ y ≤ 255) : ∃ a c, v = .slice a L.length c ∧ (a = none → L.length = 0 ∧ c = 0) ∧ View w a L.length c (fun i => L.getD i 0) := by
  by_cases hv : v = .slice none 0 0
  · have hl : L.length = 0 := by
      obtain ⟨hl, h⟩ := h
      rcases h with ⟨_, h0⟩ | ⟨g, k, cur, e, _⟩
      · exact h0
      · rw [hv] at e; cases e
    refine ⟨none, 0, by rw [hv, hl], fun _ => ⟨hl, rfl⟩, ⟨by omega, fun i hi => by omega, fun hn => by omega⟩⟩
  · obtain ⟨g, c, e, -, hgc, hr⟩ := row_of_own' h hv
    exact ⟨_, c, e, (fun e => by cases e), hr.view hgc (getD_byte hy)⟩

set_option maxHeartbeats 2000000 in
theorem putNums_many (ai : Option Addr) (L0 : List Int) (cap : Nat) (a : Option Addr) (m c : Nat) (g : Nat → Int) (w : World) (hv : View w ai L0.length cap (fun i => L0.getD i 0)) (hni : ai = none → L0.length = 0 ∧ cap = 0) (hn : L0.length ≤ 35184372088832) (hm : NuV w a m c g) (hm1 : m ≤ 1048577) :
    Calls Try.prog 42 #[.slice ai L0.length cap, .slice a m c] w fun e w' => ∃ v, e = .returned v ∧ BR w' w.heap.size v (L0 ++ numL g m) ∧ Below w.heap.size w w' := by
  obtain ⟨i0, hi, hz0, hz1, hz2⟩ := info_parts Try.info5
  go_enter Try.func42, Try.ntmps42
  go_wp2
  go_loopg [5, 11] m (fun q v i wr => ∃ k : Nat, k ≤ m ∧ q = m - k ∧ i = .int .i64 k ∧ wr.ownsRow w.heap.size 5 1 v (numL g k).length (bl (numL g k)) ∧ Below w.heap.size w wr)
  case atStart => exact ⟨0, Nat.zero_le _, rfl, rfl, World.ownsRow_nil _ _ _ _, Below.refl _ _⟩
  case round =>
    obtain ⟨k, hk, rfl, rfl, hown, hB⟩ := hrel
    by_cases hlt : k < m
    · obtain ⟨b1, o1, rfl, hb1, x0⟩ := nuv_at (hm.below hB) hlt
      have hkz : (k : Int) < (m : Int) := by omega
      have hgl := groups_len (clampN (g k))
      have hkl := numL_len g k
      have HNX : Hid (numL g (k + 1) = numL g k ++ groups (clampN (g k))) := rfl
      obtain ⟨x, hx⟩ : ∃ x, Hid (g k = x) := ⟨_, rfl⟩
      obtain ⟨Q, hQ⟩ : ∃ Q, Hid (numL g k = Q) := ⟨_, rfl⟩
      rw [hx.out] at x0 HNX hgl
      rw [hQ.out] at hown hkl HNX
      have HV : Hid (View w ai L0.length cap (fun i => L0.getD i 0)) := hv
      have HM : Hid (NuV w (some ⟨b1, o1, none⟩) m c g) := hm
      have HB : Hid (Below w.heap.size w wr) := hB
      clear hv hm hB
      go_wp2
      all_goals
        go_loopg [5, 8] (clampN x).toNat (fun gg v s wq => ∃ (y : Int) (ys : List Int), s = .int .i64 y ∧ 0 ≤ y ∧ y ≤ 1000000 ∧ gg = y.toNat ∧ groups (clampN x) = ys ++ groups y ∧ wq.ownsRow w.heap.size 5 1 v (Q ++ ys).length (bl (Q ++ ys)) ∧ Below w.heap.size w wq)
        case atStart => exact ⟨clampN x, [], congrArg (Value.int .i64) (by unfold clampN; split <;> (try split) <;> omega), (clampN_bd x).1, (clampN_bd x).2, rfl, rfl, by rw [List.append_nil]; exact hown, HB.out⟩
        case round =>
          clear hown HB
          obtain ⟨y, ys, rfl, hy0, hy1, rfl, hgr, hown, hB⟩ := hrel
          have HG : Hid (groups (clampN x) = ys ++ groups y) := hgr
          have hlen : (Q ++ ys).length ≤ 3 * k + 3 := by have := hgl; rw [hgr] at this; simp at this ⊢; have := groups_len y; omega
          clear hgr
          by_cases hlt2 : y < 128
          · go_wp2_with (first | (at_builtin; go_must (refine wpList_append_own _ rfl (.tmp 29) (.tmp 32) 33 rfl w.heap.size 5 i0 (.int .u8 0) 1 1 Try.underlying33 hi hz0 hz1 hz2 rfl (by decide) _ _ _ rfl (hown.alloc _) ⟨wr.heap.size, 0, none⟩ 1 1 [.int .u8 y] rfl rfl (cellNew _ _ _) (bl_one [y]) (by unfold maxLen; omega) (by omega) (by have := hB.size; simp; omega) ?_); intro v2 w2 hown2 hgr2 _))
            have hB2 : Below w.heap.size w w2 := (hB.alloc hB.size _).grown hgr2 (by have := hB.size; simp; omega) (fun k hk => (hown.lt k hk).1)
            have hO2 : w2.ownsRow w.heap.size 5 1 v2 (numL g (k + 1)).length (bl (numL g (k + 1))) := by
              rw [HNX.out, HG.out, groups_last y hlt2, ← List.append_assoc, List.length_append, bl_append]
              exact hown2
            clear hgr2 hown hown2 hB
            go_wp2
            go_roundg (m - (k + 1))
            case measure => omega
            case rel => exact ⟨k + 1, by omega, rfl, by go_num, hO2, hB2⟩
          · have hG2 : Hid (groups (clampN x) = (ys ++ [y % 128 + 128]) ++ groups (y / 128)) := by
              have := HG.out
              rw [groups_step y (by omega) hy1] at this
              rw [List.append_assoc]; exact this
            go_wp2_with (at_builtin; go_must (refine wpList_append_own _ rfl (.tmp 20) (.tmp 25) 33 rfl w.heap.size 5 i0 (.int .u8 0) 1 1 Try.underlying33 hi hz0 hz1 hz2 rfl (by decide) _ _ _ rfl (hown.alloc _) ⟨wr.heap.size, 0, none⟩ 1 1 [.int .u8 (y % 128 + 128)] rfl rfl (cellNew _ _ _) (bl_one [y % 128 + 128]) (by unfold maxLen; omega) (by omega) (by have := hB.size; simp; omega) ?_); intro v2 w2 hown2 hgr2 _)
            have hB2 : Below w.heap.size w w2 := (hB.alloc hB.size _).grown hgr2 (by have := hB.size; simp; omega) (fun k hk => (hown.lt k hk).1)
            have hO2 : w2.ownsRow w.heap.size 5 1 v2 (Q ++ (ys ++ [y % 128 + 128])).length (bl (Q ++ (ys ++ [y % 128 + 128]))) := by
              rw [← List.append_assoc, List.length_append, bl_append]
              exact hown2
            clear hgr2 hown hown2 hB
            go_wp2
            go_roundg ((y / 128).toNat)
            case measure => omega
            case rel => exact ⟨y / 128, ys ++ [y % 128 + 128], rfl, by omega, by omega, rfl, hG2.out, hO2, hB2⟩
    · obtain rfl : k = m := by omega
      have hkz : ¬ (k : Int) < (k : Int) := by omega
      have hkl := numL_len g k
      obtain ⟨a2, c2, rfl, hno, hV2⟩ := view_own_opt hown (numL_byte g k)
      have hP := putBytes_opt ai L0.length cap (fun i => L0.getD i 0) a2 (numL g k).length c2 (fun i => (numL g k).getD i 0) wr (hv.below hB) hni hV2 hno (by omega)
      have HB : Hid (Below w.heap.size w wr) := hB
      clear hm hv hown hB hV2
      go_wp2_with fail
      refine hP.mono ?_
      rintro e w3 ⟨rfl, hown3, hb3⟩
      have HO : Hid (BR w3 w.heap.size (.slice (some ⟨wr.heap.size, 0, none⟩) (L0.length + (numL g k).length) (L0.length + (numL g k).length)) (L0 ++ numL g k) ∧ Below w.heap.size w w3) := by
        have hbw := HB.out
        rw [lof_self, lof_self] at hown3
        have hr := row_of_owned hown3
        exact ⟨⟨wr.heap.size, _, by rw [List.length_append], hbw.size, by rw [List.length_append]; exact Nat.le_refl _, by rw [List.length_append]; exact hr⟩, hbw.trans (hb3.mono hbw.size)⟩
      clear hown3 hb3 hP
      go_wp2
      go_ret
      exact ⟨_, rfl, HO.out.1, HO.out.2⟩
end Go.Proofs.Ytkaficcnfkpkiaa

/-
  The program's nodes within: what each function answers of each kind.
-/
namespace Go.Proofs.Ytkaficcnfkpkiaa
open Go.RowKit
set_option maxRecDepth 4000

theorem nuv_one (w : World) (x : Int) (T : TypeId) : NuV (w.alloc (.cells #[.int .i64 x] T)) (some ⟨w.heap.size, 0, none⟩) 1 1 (fun _ => x) :=
  ⟨Nat.le_refl _, fun _ => ⟨w.heap.size, 0, rfl, by simp, fun i hi => by
    obtain rfl : i = 0 := by omega
    simp⟩⟩
def two (x y : Int) (i : Nat) : Int := if i = 0 then x else y
theorem nuv_two (w : World) (x y : Int) (T : TypeId) : NuV (w.alloc (.cells #[.int .i64 x, .int .i64 y] T)) (some ⟨w.heap.size, 0, none⟩) 2 2 (two x y) :=
  ⟨Nat.le_refl _, fun _ => ⟨w.heap.size, 0, rfl, by simp, fun i hi => by
    have : i = 0 ∨ i = 1 := by omega
    rcases this with rfl | rfl
    · simp [two]
    · simp [two, go_sem]⟩⟩
theorem numL_two (x y : Int) : numL (two x y) 2 = groups (clampN x) ++ groups (clampN y) := by simp [numL, two]
/-- A node within, as the machine holds it. -/
def leafV (K V : Value) : Value := .iface 72 (.agg #[K, V])
def innerV (K I : Value) : Value := .iface 74 (.agg #[K, I])
theorem as_leaf_leaf (a b : Option Addr) (n c m d : Nat) (W : World) : (Instr.typeAssert (.iface 72 (.agg #[.slice a n c, .slice b m d])) 52 72 true).run Try.prog W = .ok (.tuple #[.agg #[.slice a n c, .slice b m d], .bool true]) W := by kernel_rfl
theorem as_inner_leaf (a b : Option Addr) (n c m d : Nat) (W : World) : (Instr.typeAssert (.iface 74 (.agg #[.slice a n c, .slice b m d])) 52 72 true).run Try.prog W = .ok (.tuple #[.agg #[.slice none 0 0, .slice none 0 0], .bool false]) W := by kernel_rfl
theorem as_inner_inner (a b : Option Addr) (n c m d : Nat) (W : World) : (Instr.typeAssert (.iface 74 (.agg #[.slice a n c, .slice b m d])) 52 74 false).run Try.prog W = .ok (.agg #[.slice a n c, .slice b m d]) W := by kernel_rfl

theorem inner_kids (a b : Option Addr) (n c m d : Nat) (W : World) : (Instr.field 74 (.agg #[.slice a n c, .slice b m d]) 1).run Try.prog W = .ok (.slice b m d) W := by kernel_rfl

set_option maxHeartbeats 1000000 in
theorem kindOf_leaf (a b i : Option Addr) (n c m d k e : Nat) (w : World) :
    Calls Try.prog 36 #[.agg #[.bool true, .slice a n c, .slice b m d, .slice i k e]] w fun r w' => r = .returned (leafV (.slice a n c) (.slice b m d)) ∧ Below w.heap.size w w' := by
  have hB0 := (nbox_below (nbox_start w (.cells #[.bool true, .slice a n c, .slice b m d, .slice i k e] 28))).1
  go_enter Try.func36, Try.ntmps36
  go_wp2
  go_ret
  exact ⟨rfl, hB0⟩
set_option maxHeartbeats 1000000 in
theorem kindOf_inner (a b i : Option Addr) (n c m d k e : Nat) (w : World) :
    Calls Try.prog 36 #[.agg #[.bool false, .slice a n c, .slice b m d, .slice i k e]] w fun r w' => r = .returned (innerV (.slice a n c) (.slice i k e)) ∧ Below w.heap.size w w' := by
  have hB0 := (nbox_below (nbox_start w (.cells #[.bool false, .slice a n c, .slice b m d, .slice i k e] 28))).1
  go_enter Try.func36, Try.ntmps36
  go_wp2
  go_ret
  exact ⟨rfl, hB0⟩

set_option maxHeartbeats 2000000 in
theorem sizeOfTexts_any (a : Option Addr) (n c : Nat) (f : Nat → ByteArray) (w : World) (h : TxV w a n c f) (hn : n ≤ 1048576) (hz : ∀ i, i < n → (f i).size ≤ 1048576) :
    Calls Try.prog 43 #[.slice a n c] w fun e w' => e = .returned (.int .i64 (textsL f n).length) ∧ Below w.heap.size w w' := by
  go_enter Try.func43, Try.ntmps43
  go_wp2
  go_loopg [3, 8] n (fun q s i wr => ∃ k : Nat, k ≤ n ∧ q = n - k ∧ s = .int .i64 (textsL f k).length ∧ i = .int .i64 k ∧ Below w.heap.size w wr)
  case atStart => exact ⟨0, Nat.zero_le _, rfl, rfl, rfl, Below.refl _ _⟩
  case round =>
    obtain ⟨k, hk, rfl, rfl, rfl, hB⟩ := hrel
    by_cases hlt : k < n
    · obtain ⟨b1, o1, rfl, hb1, x0⟩ := txv_at (h.below hB) hlt
      have hkz : (k : Int) < (n : Int) := by omega
      have hl := textsL_len hz k (by omega)
      have HS : Hid (((textsL f (k + 1)).length : Int) = (textsL f k).length + ((numL (fun _ => ((f k).size : Int)) 1).length + (f k).size)) := by
        show _ = _
        simp [textsL, oneT, numL, sl_len]
      have hgl := (groups_len (clampN ((f k).size : Int))).2
      have HGL : Hid ((numL (fun _ => ((f k).size : Int)) 1).length ≤ 3) := by show _ ≤ _; simp [numL]; exact hgl
      have hz0 := hz k hlt
      obtain ⟨p0, hp0⟩ : ∃ x, Hid (f k = x) := ⟨_, rfl⟩
      obtain ⟨L0, hL0⟩ : ∃ x, Hid ((textsL f k).length = x) := ⟨_, rfl⟩
      rw [hp0.out] at x0 HS hz0 HGL
      rw [hL0.out] at HS hl ⊢
      have HB : Hid (Below w.heap.size w wr) := hB
      have hP := putNums_many none [] 0 (some ⟨wr.heap.size, 0, none⟩) 1 1 (fun _ => (p0.size : Int)) (wr.alloc (.cells #[.int .i64 (p0.size : Int)] 3)) ⟨Nat.le_refl _, fun i hi => absurd hi (Nat.not_lt_zero _), fun h => absurd h (Nat.lt_irrefl _)⟩ (fun _ => ⟨rfl, rfl⟩) (by simp) (nuv_one wr (p0.size : Int) 3) (by omega)
      clear h hz hB hgl
      go_wp2_with fail
      refine hP.mono ?_
      rintro e w2 ⟨v2, rfl, hr2, hb2⟩
      have HB2 : Hid (Below w.heap.size w w2) := (HB.out.alloc HB.out.size _).trans (hb2.mono (by have := HB.out.size; simp; omega))
      obtain ⟨g2, c2, rfl, -⟩ := hr2
      rw [List.nil_append]
      obtain ⟨G0, hG0⟩ : ∃ x, Hid ((numL (fun _ => (p0.size : Int)) 1).length = x) := ⟨_, rfl⟩
      rw [hG0.out] at HS HGL ⊢
      have hg3 := HGL.out
      clear hP hb2 HB
      go_wp2
      go_roundg (n - (k + 1))
      case measure => omega
      case rel => exact ⟨k + 1, by omega, rfl, by rw [HS.out]; first | done | go_num, by go_num, HB2.out⟩
    · obtain rfl : k = n := by omega
      have hkz : ¬ (k : Int) < (k : Int) := by omega
      clear h hz
      go_wp2
      go_ret
      exact ⟨rfl, hB⟩

set_option maxHeartbeats 1000000 in
theorem sizeOfRest_leaf (a b : Option Addr) (n c m d : Nat) (f : Nat → ByteArray) (w : World) (h : TxV w b m d f) (hn : m ≤ 1048576) (hz : ∀ i, i < m → (f i).size ≤ 1048576) :
    Calls Try.prog 44 #[leafV (.slice a n c) (.slice b m d)] w fun e w' => e = .returned (.int .i64 (textsL f m).length) ∧ Below w.heap.size w w' := by
  have hq := as_leaf_leaf a b n c m d
  have hb0 : Below w.heap.size w (w.alloc (.cells #[.slice a n c, .slice b m d] 72)) := (Below.refl _ _).alloc (Nat.le_refl _) _
  have hS := sizeOfTexts_any b m d f _ (h.below hb0) hn hz
  clear h hz
  unfold leafV
  go_enter Try.func44, Try.ntmps44
  go_wp2_with fail
  refine hS.mono ?_
  rintro e w2 ⟨rfl, hb2⟩
  have HB : Hid (Below w.heap.size w w2) := hb0.trans (hb2.mono (by simp))
  clear hS hb2 hb0 hq
  go_wp2
  go_ret
  exact ⟨rfl, HB.out⟩
set_option maxHeartbeats 1000000 in
theorem sizeOfRest_inner (a b : Option Addr) (n c m d : Nat) (f : Nat → Int) (w : World) (h : NuV w b m d f) (hn : m ≤ 1048576) :
    Calls Try.prog 44 #[innerV (.slice a n c) (.slice b m d)] w fun e w' => e = .returned (.int .i64 (numL f m).length) ∧ Below w.heap.size w w' := by
  have hq := as_inner_leaf a b n c m d
  have hq2 := as_inner_inner a b n c m d
  have hq3 := inner_kids a b n c m d
  have hb0 : Below w.heap.size w (w.alloc (.cells #[.slice none 0 0, .slice none 0 0] 72)) := (Below.refl _ _).alloc (Nat.le_refl _) _
  have hS := putNums_many none [] 0 b m d f _ ⟨Nat.le_refl _, fun i hi => absurd hi (Nat.not_lt_zero _), fun h => absurd h (Nat.lt_irrefl _)⟩ (fun _ => ⟨rfl, rfl⟩) (by simp) (h.below hb0) (by omega)
  have hl := numL_len f m
  clear h
  unfold innerV
  go_enter Try.func44, Try.ntmps44
  go_wp2_with fail
  refine hS.mono ?_
  rintro e w2 ⟨v2, rfl, hr2, hb2⟩
  have HB : Hid (Below w.heap.size w w2) := hb0.trans (hb2.mono (by simp))
  obtain ⟨g2, c2, rfl, -⟩ := hr2
  rw [List.nil_append]
  clear hS hb2 hb0 hq hq2 hq3
  go_wp2
  go_ret
  exact ⟨rfl, HB.out⟩
end Go.Proofs.Ytkaficcnfkpkiaa

/-
  The program's SizeOf.
-/
namespace Go.Proofs.Ytkaficcnfkpkiaa
open Go.RowKit
set_option maxRecDepth 4000

theorem putLen (a : Option Addr) (m c : Nat) (g : Nat → Int) (w : World) (hm : NuV w a m c g) (hm1 : m ≤ 1048577) :
    Calls Try.prog 42 #[.slice none 0 0, .slice a m c] w fun e w' => ∃ g2 c2, e = .returned (.slice (some ⟨g2, 0, none⟩) (numL g m).length c2) ∧ Below w.heap.size w w' := by
  refine (putNums_many none [] 0 a m c g w ⟨Nat.le_refl _, fun i hi => absurd hi (Nat.not_lt_zero _), fun h => absurd h (Nat.lt_irrefl _)⟩ (fun _ => ⟨rfl, rfl⟩) (by simp) hm hm1).mono ?_
  rintro e w2 ⟨v2, rfl, hr2, hb2⟩
  obtain ⟨g2, c2, rfl, -⟩ := hr2
  exact ⟨g2, c2, rfl, hb2⟩

set_option maxHeartbeats 1000000 in
theorem mark_leaf (a b : Option Addr) (n c m d : Nat) (w : World) :
    Calls Try.prog 93 #[.agg #[.slice a n c, .slice b m d]] w fun e w' => e = .returned (.int .i64 1) ∧ Below w.heap.size w w' := by
  have hb0 : Below w.heap.size w (w.alloc (.cells #[.slice a n c, .slice b m d] 72)) := (Below.refl _ _).alloc (Nat.le_refl _) _
  go_enter Try.func93, Try.ntmps93
  go_wp2
  go_ret
  exact ⟨rfl, hb0⟩

set_option maxHeartbeats 4000000 in
theorem implSizeOf_leaf (D : PNode) (hleaf : D.leaf = true) (ac : Option Addr) (cc : Nat) (ap : Option Addr) (cp : Nat) (ai : Option Addr) (ci : Nat) (w : World) (hc : TxV w ac D.nk cc D.key) (hp : TxV w ap D.nv cp D.val) (hi : NuV w ai D.nd ci D.kid) (hf : NFine D) :
    Calls Try.prog 15 #[.agg #[.bool true, .slice ac D.nk cc, .slice ap D.nv cp, .slice ai D.nd ci]] w fun e w' => e = .returned (.int .i64 (sizeN D)) ∧ Below w.heap.size w w' := by
  have hB0 := nbox_start w (.cells #[.bool true, .slice ac D.nk cc, .slice ap D.nv cp, .slice ai D.nd ci] 28)
  have hK := kindOf_leaf ac ap ai D.nk cc D.nv cp D.nd ci (w.alloc (.cells #[.bool true, .slice ac D.nk cc, .slice ap D.nv cp, .slice ai D.nd ci] 28))
  have hm : ∀ W : World, (method 212 72 (.agg #[.slice ac D.nk cc, .slice ap D.nv cp]) "loop.example/g00322/impl.mark").run Try.prog W = .ok (93, .agg #[.slice ac D.nk cc, .slice ap D.nv cp]) W := fun _ => by kernel_rfl
  have hn : ∀ W : World, (nilAhead 212 72 (.agg #[.slice ac D.nk cc, .slice ap D.nv cp]) "loop.example/g00322/impl.mark").run Try.prog W = .ok (some false) W := fun _ => by kernel_rfl
  have HF : Hid (NFine D) := hf
  have HC : Hid (TxV w ac D.nk cc D.key) := hc
  have HP : Hid (TxV w ap D.nv cp D.val) := hp
  have HI : Hid (NuV w ai D.nd ci D.kid) := hi
  have hA0 := numL_len (two 1 D.nk) 2
  have hB0' := textsL_len hf.key D.nk (Nat.le_refl _)
  have hC0 : (textsL D.val D.nv).length ≤ 1048579 * 1048576 := by
    have := hf.nv; have := hf.nd
    have := textsL_len hf.val D.nv (Nat.le_refl _); omega
  have hnk := hf.nk
  have HE : Hid (sizeN D = ((numL (two 1 D.nk) 2).length : Int) + ((textsL D.key D.nk).length : Int) + ((textsL D.val D.nv).length : Int)) := by
    show _ = _
    simp only [sizeN, bytesN, headL, hleaf, numL_two, List.length_append]; simp; try omega
  have hPN : ∀ (W : World) (a : Option Addr), NuV W a 2 2 (two 1 D.nk) → Calls Try.prog 42 #[.slice none 0 0, .slice a 2 2] W fun e w' => ∃ g2 c2, e = .returned (.slice (some ⟨g2, 0, none⟩) (numL (two 1 D.nk) 2).length c2) ∧ Below W.heap.size W w' := fun W a h => putLen a 2 2 _ W h (by omega)
  have hPT : ∀ W : World, Below w.heap.size w W → Calls Try.prog 43 #[.slice ac D.nk cc] W fun e w' => e = .returned (.int .i64 (textsL D.key D.nk).length) ∧ Below W.heap.size W w' := fun W hb => sizeOfTexts_any ac D.nk cc D.key W (HC.out.below hb) HF.out.nk HF.out.key
  have hPR : ∀ W : World, Below w.heap.size w W → Calls Try.prog 44 #[.iface 72 (.agg #[.slice ac D.nk cc, .slice ap D.nv cp])] W fun e w' => e = .returned (.int .i64 (textsL D.val D.nv).length) ∧ Below W.heap.size W w' := fun W hb => sizeOfRest_leaf ac ap D.nk cc D.nv cp D.val W (HP.out.below hb) HF.out.nv HF.out.val
  obtain ⟨A, hA⟩ : ∃ x, Hid ((numL (two 1 D.nk) 2).length = x) := ⟨_, rfl⟩
  obtain ⟨B, hB⟩ : ∃ x, Hid ((textsL D.key D.nk).length = x) := ⟨_, rfl⟩
  obtain ⟨C, hC⟩ : ∃ x, Hid ((textsL D.val D.nv).length = x) := ⟨_, rfl⟩
  simp only [hA.out, hB.out, hC.out] at hPN hPT hPR HE hA0 hB0' hC0
  have hw1 : IntKind.i64.wrap ((A : Int) + (B : Int)) = (A : Int) + (B : Int) := by rw [IntKind.wrap_i64]; omega
  have hw2 : IntKind.i64.wrap ((A : Int) + (B : Int) + (C : Int)) = (A : Int) + (B : Int) + (C : Int) := by rw [IntKind.wrap_i64]; omega
  clear hf hc hp hi hleaf
  go_enter Try.func15, Try.ntmps15
  go_wp2_with fail
  refine hK.mono ?_
  rintro e w1 ⟨rfl, hb1⟩
  have hB1 := nbox_on hB0 hb1
  obtain ⟨-, x1, -, -⟩ := nbox4 hB1
  have hbw1 := (nbox_below hB1).1
  have HWK : Hid (∀ W, Below w1.heap.size w1 W → W.cell? ⟨w.heap.size, 1, none⟩ = some (.slice ac D.nk cc)) := fun W hb => (nbox4 (nbox_on hB1 hb)).2.1
  have HMW : Hid (∀ W, Below w1.heap.size w1 W → Below w.heap.size w W) := fun W hb => hbw1.trans (hb.mono hbw1.size)
  unfold leafV
  clear hK hb1 hB0 hB1 hbw1
  go_wp2_with fail
  go_region_held3 (fun WW => WW.cell? ⟨w.heap.size, 1, none⟩ = some (.slice ac D.nk cc)) (first | assumption | go_keep) (first
    | (go_at_call 93; refine (mark_leaf _ _ _ _ _ _ _).mono ?_; rintro e wm ⟨rfl, hBm⟩; have hbm : Below w1.heap.size w1 wm := Below.trans (by repeat (first | exact Below.refl _ _ | refine Below.drew ?_)) hBm; have hcm : wm.cell? ⟨w.heap.size, 1, none⟩ = some (.slice ac D.nk cc) := HWK.out _ hbm)
    | (go_at_call 42; refine (hPN _ _ (nuv_two _ _ _ _)).mono ?_; rintro e wp ⟨g2, c2, rfl, hBp⟩; have hbp : Below w1.heap.size w1 wp := hbm.trans ((Below.trans (by repeat (first | exact Below.refl _ _ | refine Below.alloc ?_ (by simp) _ | refine Below.drew ?_)) (hBp.mono (by simp))).mono hbm.size); have hcp : wp.cell? ⟨w.heap.size, 1, none⟩ = some (.slice ac D.nk cc) := HWK.out _ hbp)
    | (go_at_call 43; refine (hPT _ (HMW.out _ (by repeat (first | exact hbp | refine Below.drew ?_)))).mono ?_; rintro e wt ⟨rfl, hBt⟩; have hbt : Below w1.heap.size w1 wt := hbp.trans ((Below.trans (by repeat (first | exact Below.refl _ _ | refine Below.drew ?_)) hBt).mono hbp.size); have hct : wt.cell? ⟨w.heap.size, 1, none⟩ = some (.slice ac D.nk cc) := HWK.out _ hbt)
    | (go_at_call 44; refine (hPR _ (HMW.out _ (by repeat (first | exact hbt | refine Below.drew ?_)))).mono ?_; rintro e wz ⟨rfl, hBz⟩; have hbz : Below w1.heap.size w1 wz := hbt.trans ((Below.trans (by repeat (first | exact Below.refl _ _ | refine Below.drew ?_)) hBz).mono hbt.size); have hcz : wz.cell? ⟨w.heap.size, 1, none⟩ = some (.slice ac D.nk cc) := HWK.out _ hbz))
  all_goals
    have HB : Hid (Below w.heap.size w wz) := HMW.out _ hbz
    clear hcm hcp hct hcz hBm hBp hBt hBz hbm hbp hbt hbz HWK HMW hPN hPT hPR
    go_wp2
    go_ret
    exact ⟨by rw [HE.out]; rfl, by first | exact HB.out | exact HB.out.drew⟩

set_option maxHeartbeats 1000000 in
theorem mark_inner (a b : Option Addr) (n c m d : Nat) (w : World) :
    Calls Try.prog 94 #[.agg #[.slice a n c, .slice b m d]] w fun e w' => e = .returned (.int .i64 0) ∧ Below w.heap.size w w' := by
  have hb0 : Below w.heap.size w (w.alloc (.cells #[.slice a n c, .slice b m d] 74)) := (Below.refl _ _).alloc (Nat.le_refl _) _
  go_enter Try.func94, Try.ntmps94
  go_wp2
  go_ret
  exact ⟨rfl, hb0⟩

set_option maxHeartbeats 4000000 in
theorem implSizeOf_inner (D : PNode) (hleaf : D.leaf = false) (ac : Option Addr) (cc : Nat) (ap : Option Addr) (cp : Nat) (ai : Option Addr) (ci : Nat) (w : World) (hc : TxV w ac D.nk cc D.key) (hp : TxV w ap D.nv cp D.val) (hi : NuV w ai D.nd ci D.kid) (hf : NFine D) :
    Calls Try.prog 15 #[.agg #[.bool false, .slice ac D.nk cc, .slice ap D.nv cp, .slice ai D.nd ci]] w fun e w' => e = .returned (.int .i64 (sizeN D)) ∧ Below w.heap.size w w' := by
  have hB0 := nbox_start w (.cells #[.bool false, .slice ac D.nk cc, .slice ap D.nv cp, .slice ai D.nd ci] 28)
  have hK := kindOf_inner ac ap ai D.nk cc D.nv cp D.nd ci (w.alloc (.cells #[.bool false, .slice ac D.nk cc, .slice ap D.nv cp, .slice ai D.nd ci] 28))
  have hm : ∀ W : World, (method 212 74 (.agg #[.slice ac D.nk cc, .slice ai D.nd ci]) "loop.example/g00322/impl.mark").run Try.prog W = .ok (94, .agg #[.slice ac D.nk cc, .slice ai D.nd ci]) W := fun _ => by kernel_rfl
  have hn : ∀ W : World, (nilAhead 212 74 (.agg #[.slice ac D.nk cc, .slice ai D.nd ci]) "loop.example/g00322/impl.mark").run Try.prog W = .ok (some false) W := fun _ => by kernel_rfl
  have HF : Hid (NFine D) := hf
  have HC : Hid (TxV w ac D.nk cc D.key) := hc
  have HP : Hid (TxV w ap D.nv cp D.val) := hp
  have HI : Hid (NuV w ai D.nd ci D.kid) := hi
  have hA0 := numL_len (two 0 D.nk) 2
  have hB0' := textsL_len hf.key D.nk (Nat.le_refl _)
  have hC0 : (numL D.kid D.nd).length ≤ 1048579 * 1048576 := by
    have := hf.nv; have := hf.nd
    have := numL_len D.kid D.nd; omega
  have hnk := hf.nk
  have HE : Hid (sizeN D = ((numL (two 0 D.nk) 2).length : Int) + ((textsL D.key D.nk).length : Int) + ((numL D.kid D.nd).length : Int)) := by
    show _ = _
    simp only [sizeN, bytesN, headL, hleaf, numL_two, List.length_append]; simp; try omega
  have hPN : ∀ (W : World) (a : Option Addr), NuV W a 2 2 (two 0 D.nk) → Calls Try.prog 42 #[.slice none 0 0, .slice a 2 2] W fun e w' => ∃ g2 c2, e = .returned (.slice (some ⟨g2, 0, none⟩) (numL (two 0 D.nk) 2).length c2) ∧ Below W.heap.size W w' := fun W a h => putLen a 2 2 _ W h (by omega)
  have hPT : ∀ W : World, Below w.heap.size w W → Calls Try.prog 43 #[.slice ac D.nk cc] W fun e w' => e = .returned (.int .i64 (textsL D.key D.nk).length) ∧ Below W.heap.size W w' := fun W hb => sizeOfTexts_any ac D.nk cc D.key W (HC.out.below hb) HF.out.nk HF.out.key
  have hPR : ∀ W : World, Below w.heap.size w W → Calls Try.prog 44 #[.iface 74 (.agg #[.slice ac D.nk cc, .slice ai D.nd ci])] W fun e w' => e = .returned (.int .i64 (numL D.kid D.nd).length) ∧ Below W.heap.size W w' := fun W hb => sizeOfRest_inner ac ai D.nk cc D.nd ci D.kid W (HI.out.below hb) HF.out.nd
  obtain ⟨A, hA⟩ : ∃ x, Hid ((numL (two 0 D.nk) 2).length = x) := ⟨_, rfl⟩
  obtain ⟨B, hB⟩ : ∃ x, Hid ((textsL D.key D.nk).length = x) := ⟨_, rfl⟩
  obtain ⟨C, hC⟩ : ∃ x, Hid ((numL D.kid D.nd).length = x) := ⟨_, rfl⟩
  simp only [hA.out, hB.out, hC.out] at hPN hPT hPR HE hA0 hB0' hC0
  have hw1 : IntKind.i64.wrap ((A : Int) + (B : Int)) = (A : Int) + (B : Int) := by rw [IntKind.wrap_i64]; omega
  have hw2 : IntKind.i64.wrap ((A : Int) + (B : Int) + (C : Int)) = (A : Int) + (B : Int) + (C : Int) := by rw [IntKind.wrap_i64]; omega
  clear hf hc hp hi hleaf
  go_enter Try.func15, Try.ntmps15
  go_wp2_with fail
  refine hK.mono ?_
  rintro e w1 ⟨rfl, hb1⟩
  have hB1 := nbox_on hB0 hb1
  obtain ⟨-, x1, -, -⟩ := nbox4 hB1
  have hbw1 := (nbox_below hB1).1
  have HWK : Hid (∀ W, Below w1.heap.size w1 W → W.cell? ⟨w.heap.size, 1, none⟩ = some (.slice ac D.nk cc)) := fun W hb => (nbox4 (nbox_on hB1 hb)).2.1
  have HMW : Hid (∀ W, Below w1.heap.size w1 W → Below w.heap.size w W) := fun W hb => hbw1.trans (hb.mono hbw1.size)
  unfold innerV
  clear hK hb1 hB0 hB1 hbw1
  go_wp2_with fail
  go_region_held3 (fun WW => WW.cell? ⟨w.heap.size, 1, none⟩ = some (.slice ac D.nk cc)) (first | assumption | go_keep) (first
    | (go_at_call 94; refine (mark_inner _ _ _ _ _ _ _).mono ?_; rintro e wm ⟨rfl, hBm⟩; have hbm : Below w1.heap.size w1 wm := Below.trans (by repeat (first | exact Below.refl _ _ | refine Below.drew ?_)) hBm; have hcm : wm.cell? ⟨w.heap.size, 1, none⟩ = some (.slice ac D.nk cc) := HWK.out _ hbm)
    | (go_at_call 42; refine (hPN _ _ (nuv_two _ _ _ _)).mono ?_; rintro e wp ⟨g2, c2, rfl, hBp⟩; have hbp : Below w1.heap.size w1 wp := hbm.trans ((Below.trans (by repeat (first | exact Below.refl _ _ | refine Below.alloc ?_ (by simp) _ | refine Below.drew ?_)) (hBp.mono (by simp))).mono hbm.size); have hcp : wp.cell? ⟨w.heap.size, 1, none⟩ = some (.slice ac D.nk cc) := HWK.out _ hbp)
    | (go_at_call 43; refine (hPT _ (HMW.out _ (by repeat (first | exact hbp | refine Below.drew ?_)))).mono ?_; rintro e wt ⟨rfl, hBt⟩; have hbt : Below w1.heap.size w1 wt := hbp.trans ((Below.trans (by repeat (first | exact Below.refl _ _ | refine Below.drew ?_)) hBt).mono hbp.size); have hct : wt.cell? ⟨w.heap.size, 1, none⟩ = some (.slice ac D.nk cc) := HWK.out _ hbt)
    | (go_at_call 44; refine (hPR _ (HMW.out _ (by repeat (first | exact hbt | refine Below.drew ?_)))).mono ?_; rintro e wz ⟨rfl, hBz⟩; have hbz : Below w1.heap.size w1 wz := hbt.trans ((Below.trans (by repeat (first | exact Below.refl _ _ | refine Below.drew ?_)) hBz).mono hbt.size); have hcz : wz.cell? ⟨w.heap.size, 1, none⟩ = some (.slice ac D.nk cc) := HWK.out _ hbz))
  all_goals
    have HB : Hid (Below w.heap.size w wz) := HMW.out _ hbz
    clear hcm hcp hct hcz hBm hBp hBt hBz hbm hbp hbt hbz HWK HMW hPN hPT hPR
    go_wp2
    go_ret
    exact ⟨by rw [HE.out]; rfl, by first | exact HB.out | exact HB.out.drew⟩

theorem implSizeOf_any (v : Value) (D : PNode) (w : World) (h : NdView w v D) (hf : NFine D) :
    Calls Try.prog 15 #[v] w fun e w' => e = .returned (.int .i64 (sizeN D)) ∧ Below w.heap.size w w' := by
  obtain ⟨ac, cc, ap, cp, ai, ci, rfl, hc, hp, hi⟩ := h.is
  cases hl : D.leaf with
  | true => exact implSizeOf_leaf D hl ac cc ap cp ai ci w hc hp hi hf
  | false => exact implSizeOf_inner D hl ac cc ap cp ai ci w hc hp hi hf
end Go.Proofs.Ytkaficcnfkpkiaa

/-
  What the frame of a row hands over of a slice that came in, element by element.
-/
namespace Go.Proofs.Ytkaficcnfkpkiaa
open Go.RowKit
set_option maxRecDepth 4000
open Go.Deep Go.ChangeShapes

/-- A slice that came in, whose elements are each read. -/
theorem sliceIn {H : Type} {enc : TypeId × Value → H} {W : World} {sp : Nat → Bool} {α : Type} [Inhabited α] {T e : TypeId} {c fuel : Nat} {cs : List Value} {x : DataW H × List MemPlace}
    (ht : Try.prog.underlying T = some (.slice e)) (hc : Try.prog.cellsOf e = c) (hc0 : 0 < c) (Q : Addr → α → Prop)
    (each : ∀ (fuel : Nat) (cs : List Value) (x : DataW H × List MemPlace) (a : Addr), cs.length = c → (∀ j, j < c → W.cell? (a.add j) = cs[j]?) → DataW.trod enc Try.prog W 0 sp true fuel e cs = some x → ∃ y, Q a y)
    (h : DataW.trod enc Try.prog W 0 sp true fuel T cs = some x) :
    ∃ (ao : Option Addr) (n cap : Nat) (f : Nat → α), cs = [.slice ao n cap] ∧ n ≤ cap ∧ cap ≤ maxLen ∧ (0 < n → ∃ b off, ao = some ⟨b, off, none⟩ ∧ b < W.heap.size ∧ ∀ i, i < n → Q ⟨b, off + i * c, none⟩ (f i)) := by
  rcases DataW.trod_slice ht h with ⟨hcs, _⟩ | ⟨a, l, cap, elems, rest, n, _, hcs, _, _, hl, hm, hlen, hel, _, _⟩
  · exact ⟨none, 0, 0, fun _ => default, hcs, Nat.le_refl _, Nat.zero_le _, fun h => absurd h (Nat.lt_irrefl _)⟩
  · have key : ∀ i, i < l → ∃ y, Q (a.add (i * c)) y ∧ W.cell? (a.add (i * c)) ≠ none := by
      intro i hi
      have h1 := hel i hi
      rw [hc] at h1
      have h2 : elems[i]? = some elems[i] := List.getElem?_eq_getElem (by omega)
      rw [h2] at h1
      obtain ⟨cs, hcs, htr⟩ := Option.bind_eq_some_iff.1 h1
      obtain ⟨_, hl3, hcell⟩ := World.cells?_some hcs
      obtain ⟨y, hy⟩ := each n cs _ _ hl3 (fun j hj => hcell j hj) htr
      refine ⟨y, hy, ?_⟩
      have := hcell 0 (by omega)
      intro hn
      rw [show (a.add (i * c)).add 0 = a.add (i * c) by unfold Addr.add; split <;> simp_all, hn, List.getElem?_eq_getElem (by omega)] at this
      cases this
    have pick : ∃ f : Nat → α, ∀ i, i < l → Q (a.add (i * c)) (f i) := ⟨fun i => if h : i < l then (key i h).choose else default, fun i hi => by simp only [dif_pos hi]; exact (key i hi).choose_spec.1⟩
    obtain ⟨f, hf⟩ := pick
    refine ⟨some a, l, cap, f, hcs, hl, hm, fun hn => ?_⟩
    obtain ⟨b, off, spot⟩ := a
    obtain ⟨y0, -, h0⟩ := key 0 hn
    obtain ⟨u, hu⟩ := Option.ne_none_iff_exists'.1 h0
    have hs : spot = none := by simpa [Addr.add] using World.cell?_spot hu
    subst hs
    have ea : ∀ j, (⟨b, off, none⟩ : Addr).add j = ⟨b, off + j, none⟩ := fun j => by unfold Addr.add; split <;> simp_all
    rw [ea] at hu
    refine ⟨b, off, rfl, World.block_lt_of_cell? _ _ hu, fun i hi => ?_⟩
    have := hf i hi
    rw [ea] at this
    exact this

theorem addr_add (b off j : Nat) : (⟨b, off, none⟩ : Addr).add j = ⟨b, off + j, none⟩ := by unfold Addr.add; split <;> simp_all
end Go.Proofs.Ytkaficcnfkpkiaa

/-
  What the frame of a row hands over of a node that came in.
-/
namespace Go.Proofs.Ytkaficcnfkpkiaa
open Go.RowKit
set_option maxRecDepth 4000
open Go.Deep Go.ChangeShapes

theorem textsIn {H : Type} {enc : TypeId × Value → H} {W : World} {sp : Nat → Bool} {fuel : Nat} {cs : List Value} {x : DataW H × List MemPlace}
    (h : DataW.trod enc Try.prog W 0 sp true fuel 22 cs = some x) : ∃ a n cap f, cs = [.slice a n cap] ∧ TxV W a n cap f ∧ n ≤ maxLen ∧ ∀ i, i < n → (f i).size ≤ maxLen := by
  have c1 : Try.prog.cellsOf 9 = 1 := by kernel_rfl
  haveI : Inhabited ByteArray := ⟨⟨#[]⟩⟩
  obtain ⟨a, n, cap, f, e, hl, hm, hv⟩ := sliceIn (α := ByteArray) Try.underlying22 c1 (by decide) (fun a y => W.cell? (a.add 0) = some (.string y) ∧ y.size ≤ maxLen) (by
    intro fuel cs x a hl hcell htr
    match cs, hl with
    | [c0], _ =>
      obtain ⟨s, e0, _, hs⟩ := DataW.trod_string Try.underlying9 htr
      simp only [List.cons.injEq, and_true] at e0
      subst e0
      exact ⟨s, hcell 0 (by decide), hs⟩) h
  refine ⟨a, n, cap, f, e, ⟨hl, fun hn => ?_⟩, Nat.le_trans hl hm, fun i hi => ?_⟩
  · obtain ⟨b, off, ea, hlt, hc⟩ := hv hn
    refine ⟨b, off, ea, hlt, fun i hi => ?_⟩
    have := (hc i hi).1
    simpa only [addr_add, Nat.add_zero, Nat.mul_one] using this
  · obtain ⟨b, off, ea, hlt, hc⟩ := hv (by omega)
    exact (hc i hi).2
theorem numsIn {H : Type} {enc : TypeId × Value → H} {W : World} {sp : Nat → Bool} {fuel : Nat} {cs : List Value} {x : DataW H × List MemPlace}
    (h : DataW.trod enc Try.prog W 0 sp true fuel 23 cs = some x) : ∃ a n cap f, cs = [.slice a n cap] ∧ NuV W a n cap f ∧ n ≤ maxLen ∧ ∀ i, i < n → -9223372036854775808 ≤ f i ∧ f i ≤ 9223372036854775807 := by
  have c1 : Try.prog.cellsOf 3 = 1 := by kernel_rfl
  haveI : Inhabited Int := ⟨0⟩
  obtain ⟨a, n, cap, f, e, hl, hm, hv⟩ := sliceIn (α := Int) Try.underlying23 c1 (by decide) (fun a y => W.cell? (a.add 0) = some (.int .i64 y) ∧ -9223372036854775808 ≤ y ∧ y ≤ 9223372036854775807) (by
    intro fuel cs x a hl hcell htr
    match cs, hl with
    | [c0], _ =>
      obtain ⟨s, e0, _, hw⟩ := DataW.trod_int Try.underlying3 htr
      simp only [List.cons.injEq, and_true] at e0
      subst e0
      exact ⟨s, hcell 0 (by decide), by have := bounds_i64 hw; omega, by have := bounds_i64 hw; omega⟩) h
  refine ⟨a, n, cap, f, e, ⟨hl, fun hn => ?_⟩, Nat.le_trans hl hm, fun i hi => ?_⟩
  · obtain ⟨b, off, ea, hlt, hc⟩ := hv hn
    refine ⟨b, off, ea, hlt, fun i hi => ?_⟩
    have := (hc i hi).1
    simpa only [addr_add, Nat.add_zero, Nat.mul_one] using this
  · obtain ⟨b, off, ea, hlt, hc⟩ := hv (by omega)
    exact (hc i hi).2
/-- The four cells of a node that came in. -/
theorem nodeIn {H : Type} {enc : TypeId × Value → H} {W : World} {sp : Nat → Bool} {n0 n1 n2 n3 : Nat} {c0 c1 c2 c3 : Value} {y0 y1 y2 y3 : DataW H × List MemPlace}
    (h0 : DataW.trod enc Try.prog W 0 sp true n0 4 [c0] = some y0) (h1 : DataW.trod enc Try.prog W 0 sp true n1 22 [c1] = some y1)
    (h2 : DataW.trod enc Try.prog W 0 sp true n2 22 [c2] = some y2) (h3 : DataW.trod enc Try.prog W 0 sp true n3 23 [c3] = some y3) :
    ∃ D : PNode, NdView W (.agg #[c0, c1, c2, c3]) D ∧ NLim D := by
  obtain ⟨s, e0, _⟩ := DataW.trod_bool Try.underlying4 h0
  obtain ⟨ac, nc, cc, fc, e1, v1, m1, z1⟩ := textsIn h1
  obtain ⟨ap, np, cp, fp, e2, v2, m2, z2⟩ := textsIn h2
  obtain ⟨ai, ni, ci, fi, e3, v3, m3, z3⟩ := numsIn h3
  simp only [List.cons.injEq, and_true] at e0 e1 e2 e3
  subst e0 e1 e2 e3
  exact ⟨⟨s, nc, fc, np, fp, ni, fi⟩, ⟨ac, cc, ap, cp, ai, ci, rfl, v1, v2, v3⟩, ⟨m1, z1, m2, z2, m3, z3⟩⟩
end Go.Proofs.Ytkaficcnfkpkiaa

