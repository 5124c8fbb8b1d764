/-
  The model's reading of a value comes to the plain one.
-/
import Derived.Test.YthjddmhcppdleaaDoorParseNum
import Derived.Test.YthjddmhcppdleaaDoorTextSpec
import Derived.Test.YthjddmhcppdleaaDoorBoxed
import Derived.Deep.RegionWith
namespace Go.Proofs.YthjddmhcppdleaaDoor
open Go.RowKit Go.Lib

theorem neq_list {s : ByteArray} {l : List UInt8} (h : s ≠ ⟨l.toArray⟩) : (s.toList == l) = false := by
  rw [beq_eq_false_iff_ne, ByteArray.toList_eq]
  intro e
  apply h
  rw [← e]

theorem bytes_eq {s : ByteArray} {l : List UInt8} (h : s.data.toList = l) : s = ⟨l.toArray⟩ := by
  rw [← h]

/-- A value that was read, as the machine hands it back. -/
def retM (r : Int × Int × ByteArray × Bool) : Ending := .returned (.tuple #[valAgg r.1 r.2.1 r.2.2.1, .bool r.2.2.2])

def Not3 (s : ByteArray) : Prop := s ≠ ⟨[110, 117, 108, 108].toArray⟩ ∧ s ≠ ⟨[110, 111].toArray⟩ ∧ s ≠ ⟨[121, 101, 115].toArray⟩

set_option maxHeartbeats 1000000 in
theorem l2Val_null (w : World) : Calls Tryd.prog 22 #[.string ⟨#[110, 117, 108, 108]⟩] w fun e w' => e = retM (0, 0, ⟨#[]⟩, true) ∧ Below w.heap.size w w' := by
    unfold retM
    go_enter Tryd.func22, Tryd.ntmps22
    go_wp2
    refine bodyPost_ret (v := .tuple #[valAgg _ _ _, .bool _]) (by simp [results, Tryd.results22, go_sem, valAgg]; try exact ⟨rfl, rfl, rfl⟩) rfl ⟨rfl, ?_⟩
    repeat (first | exact Below.refl _ _ | refine Below.alloc ?_ (by simp <;> omega) _ | refine Below.drew ?_)

set_option maxHeartbeats 1000000 in
theorem l2Val_no (w : World) : Calls Tryd.prog 22 #[.string ⟨#[110, 111]⟩] w fun e w' => e = retM (4, 0, ⟨#[]⟩, true) ∧ Below w.heap.size w w' := by
    unfold retM
    go_enter Tryd.func22, Tryd.ntmps22
    go_wp2
    refine bodyPost_ret (v := .tuple #[valAgg _ _ _, .bool _]) (by simp [results, Tryd.results22, go_sem, valAgg]; try exact ⟨rfl, rfl, rfl⟩) rfl ⟨rfl, ?_⟩
    repeat (first | exact Below.refl _ _ | refine Below.alloc ?_ (by simp <;> omega) _ | refine Below.drew ?_)

set_option maxHeartbeats 1000000 in
theorem l2Val_yes (w : World) : Calls Tryd.prog 22 #[.string ⟨#[121, 101, 115]⟩] w fun e w' => e = retM (4, 1, ⟨#[]⟩, true) ∧ Below w.heap.size w w' := by
    unfold retM
    go_enter Tryd.func22, Tryd.ntmps22
    go_wp2
    refine bodyPost_ret (v := .tuple #[valAgg _ _ _, .bool _]) (by simp [results, Tryd.results22, go_sem, valAgg]; try exact ⟨rfl, rfl, rfl⟩) rfl ⟨rfl, ?_⟩
    repeat (first | exact Below.refl _ _ | refine Below.alloc ?_ (by simp <;> omega) _ | refine Below.drew ?_)

set_option maxHeartbeats 2000000 in
theorem l2Val_short (s : ByteArray) (w : World) (_hs : s.size ≤ 1048576) (h3 : Not3 s) (hl : (s.size : Int) < 2) : Calls Tryd.prog 22 #[.string s] w fun e w' => e = retM (0, 0, ⟨#[]⟩, false) ∧ Below w.heap.size w w' := by
    unfold retM
    have qa := neq_list h3.1
    have qb := neq_list h3.2.1
    have qc := neq_list h3.2.2
    clear h3
    go_enter Tryd.func22, Tryd.ntmps22
    go_wp2
    refine bodyPost_ret (v := .tuple #[valAgg _ _ _, .bool _]) (by simp [results, Tryd.results22, go_sem, valAgg]; try exact ⟨rfl, rfl, rfl⟩) rfl ⟨rfl, ?_⟩
    repeat (first | exact Below.refl _ _ | refine Below.alloc ?_ (by simp <;> omega) _ | refine Below.drew ?_)

set_option maxHeartbeats 2000000 in
theorem l2Val_i (s : ByteArray) (w : World) (_hs : s.size ≤ 1048576) (h3 : Not3 s) (hl : ¬ (s.size : Int) < 2) (h0 : 0 < s.size) (hq : ((s[0].toNat : Int) == 39) = false) (hi : ((s[0].toNat : Int) == 105) = true) (r : ByteArray) (hx : s.extract 1 s.size = r)  : Calls Tryd.prog 22 #[.string s] w fun e w' => e = retM (1, (p2 r.data.toList).1, ⟨#[]⟩, (p2 r.data.toList).2) ∧ Below w.heap.size w w' := by
    unfold retM
    have qa := neq_list h3.1
    have qb := neq_list h3.2.1
    have qc := neq_list h3.2.2
    clear h3
    have hP := fun W => l2Parse_any r W
    generalize p2 r.data.toList = p at *
    go_enter Tryd.func22, Tryd.ntmps22
    go_wp2_with (first | (go_at_call 34; refine (hP _).mono ?_; rintro e _ ⟨rfl, rfl⟩))
    refine bodyPost_ret (v := .tuple #[valAgg _ _ _, .bool _]) (by simp [results, Tryd.results22, go_sem, valAgg]; try exact ⟨rfl, rfl, rfl⟩) rfl ⟨rfl, ?_⟩
    repeat (first | exact Below.refl _ _ | refine Below.alloc ?_ (by simp <;> omega) _ | refine Below.drew ?_)

set_option maxHeartbeats 2000000 in
theorem l2Val_n (s : ByteArray) (w : World) (_hs : s.size ≤ 1048576) (h3 : Not3 s) (hl : ¬ (s.size : Int) < 2) (h0 : 0 < s.size) (hq : ((s[0].toNat : Int) == 39) = false) (hi : ((s[0].toNat : Int) == 105) = false) (hn : ((s[0].toNat : Int) == 110) = true) (r : ByteArray) (hx : s.extract 1 s.size = r)  : Calls Tryd.prog 22 #[.string s] w fun e w' => e = retM (2, (p2 r.data.toList).1, ⟨#[]⟩, (p2 r.data.toList).2) ∧ Below w.heap.size w w' := by
    unfold retM
    have qa := neq_list h3.1
    have qb := neq_list h3.2.1
    have qc := neq_list h3.2.2
    clear h3
    have hP := fun W => l2Parse_any r W
    generalize p2 r.data.toList = p at *
    go_enter Tryd.func22, Tryd.ntmps22
    go_wp2_with (first | (go_at_call 34; refine (hP _).mono ?_; rintro e _ ⟨rfl, rfl⟩))
    refine bodyPost_ret (v := .tuple #[valAgg _ _ _, .bool _]) (by simp [results, Tryd.results22, go_sem, valAgg]; try exact ⟨rfl, rfl, rfl⟩) rfl ⟨rfl, ?_⟩
    repeat (first | exact Below.refl _ _ | refine Below.alloc ?_ (by simp <;> omega) _ | refine Below.drew ?_)

set_option maxHeartbeats 2000000 in
theorem l2Val_x (s : ByteArray) (w : World) (_hs : s.size ≤ 1048576) (h3 : Not3 s) (hl : ¬ (s.size : Int) < 2) (h0 : 0 < s.size) (hq : ((s[0].toNat : Int) == 39) = false) (hi : ((s[0].toNat : Int) == 105) = false) (hn : ((s[0].toNat : Int) == 110) = false) (r : ByteArray) (hx : s.extract 1 s.size = r)  : Calls Tryd.prog 22 #[.string s] w fun e w' => e = retM (0, 0, ⟨#[]⟩, false) ∧ Below w.heap.size w w' := by
    unfold retM
    have qa := neq_list h3.1
    have qb := neq_list h3.2.1
    have qc := neq_list h3.2.2
    clear h3
    have hP := fun W => l2Parse_any r W
    generalize p2 r.data.toList = p at *
    go_enter Tryd.func22, Tryd.ntmps22
    go_wp2_with (first | (go_at_call 34; refine (hP _).mono ?_; rintro e _ ⟨rfl, rfl⟩))
    refine bodyPost_ret (v := .tuple #[valAgg _ _ _, .bool _]) (by simp [results, Tryd.results22, go_sem, valAgg]; try exact ⟨rfl, rfl, rfl⟩) rfl ⟨rfl, ?_⟩
    repeat (first | exact Below.refl _ _ | refine Below.alloc ?_ (by simp <;> omega) _ | refine Below.drew ?_)

set_option maxHeartbeats 2000000 in
theorem l2Val_q (s : ByteArray) (w : World) (_hs : s.size ≤ 1048576) (h3 : Not3 s) (hl : ¬ (s.size : Int) < 2) (h0 : 0 < s.size) (hq : ((s[0].toNat : Int) == 39) = true) (m : Nat) (hm : (s.size : Int) - 1 = (m : Int)) (hm1 : (1 : Int) ≤ (m : Int)) (hm2 : (m : Int) ≤ (s.size : Int)) (hm3 : (m : Int) < (s.size : Int)) (hmlt : m < s.size) (hz : ((s[m].toNat : Int) == 39) = false) (r : ByteArray) (hx : s.extract 1 m = r)  : Calls Tryd.prog 22 #[.string s] w fun e w' => e = retM (3, 0, r, false) ∧ Below w.heap.size w w' := by
    unfold retM
    have qa := neq_list h3.1
    have qb := neq_list h3.2.1
    have qc := neq_list h3.2.2
    clear h3
    go_enter Tryd.func22, Tryd.ntmps22
    go_wp2_with fail
    go_region
    all_goals go_wp2
    all_goals refine bodyPost_ret (v := .tuple #[valAgg _ _ _, .bool _]) (by simp [results, Tryd.results22, go_sem, valAgg]; try exact ⟨rfl, rfl, rfl⟩) rfl ⟨rfl, ?_⟩
    all_goals repeat (first | exact Below.refl _ _ | refine Below.alloc ?_ (by simp <;> omega) _ | refine Below.drew ?_)

set_option maxHeartbeats 2000000 in
theorem l2Val_t (s : ByteArray) (w : World) (_hs : s.size ≤ 1048576) (h3 : Not3 s) (hl : ¬ (s.size : Int) < 2) (h0 : 0 < s.size) (hq : ((s[0].toNat : Int) == 39) = true) (m : Nat) (hm : (s.size : Int) - 1 = (m : Int)) (hm1 : (1 : Int) ≤ (m : Int)) (hm2 : (m : Int) ≤ (s.size : Int)) (hm3 : (m : Int) < (s.size : Int)) (hmlt : m < s.size) (hz : ((s[m].toNat : Int) == 39) = true) (r : ByteArray) (hx : s.extract 1 m = r) (hr : r.size ≤ 1048576)  : Calls Tryd.prog 22 #[.string s] w fun e w' => e = retM (3, 0, r, plainL r.data.toList) ∧ Below w.heap.size w w' := by
    unfold retM
    have qa := neq_list h3.1
    have qb := neq_list h3.2.1
    have qc := neq_list h3.2.2
    clear h3
    have hP := fun W => l2Plain_any r W (by omega)
    generalize plainL r.data.toList = p at *
    have hw : IntKind.i64.wrap ((s.size : Int) - 1) = (m : Int) := by rw [hm, wrap_i64 (by omega) (by omega)]
    have hw2 : IntKind.i64.wrap (m : Int) = (m : Int) := wrap_i64 (by omega) (by omega)
    go_enter Tryd.func22, Tryd.ntmps22
    go_wp2_with fail
    go_region_with (first | (go_at_call 23; refine (hP _).mono ?_; rintro e _ ⟨rfl, rfl⟩))
    all_goals go_wp2
    all_goals refine bodyPost_ret (v := .tuple #[valAgg _ _ _, .bool _]) (by simp [results, Tryd.results22, go_sem, valAgg]; try exact ⟨rfl, rfl, rfl⟩) rfl ⟨rfl, ?_⟩
    all_goals repeat (first | exact Below.refl _ _ | refine Below.alloc ?_ (by simp <;> omega) _ | refine Below.drew ?_)

end Go.Proofs.YthjddmhcppdleaaDoor
