/-
  What the program reads of a text, ahead of its looks.
-/
import Derived.Test.YthjddmhcppdleaaDoorParseModel
import Derived.Test.YthjddmhcppdleaaDoorTextImpl
import Derived.Lib.AtoiAllMem
namespace Go.Proofs.YthjddmhcppdleaaDoor
open Go.RowKit Go.Lib

/-- A variable that holds an error. -/
def ErrVar (nm : String) (w : World) : Prop := ∃ tp p, w.var? Tryd.prog nm = some #[.iface tp p]

def CutsTo (s : ByteArray) (c : UInt8) (t : ByteArray) (b : Bool) : Prop := ∀ W : World, Calls Tryd.prog 30 #[.string s, .string ⟨#[c]⟩] W fun e w' => e = .returned (.tuple #[.string t, .bool b]) ∧ w' = W

theorem cuts_yes (c : UInt8) (d : List UInt8) : CutsTo (bytesOf (c :: d)) c (bytesOf d) true := by
  intro W
  have := Tryd.strings_CutPrefix (bytesOf (c :: d)) ⟨#[c]⟩ W
  have e1 : Lib.trimPrefix (bytesOf (c :: d)).data.toList (ByteArray.mk #[c]).data.toList = d := by simp [bytesOf, Lib.trimPrefix, Lib.hasPrefix]
  have e2 : Lib.hasPrefix (bytesOf (c :: d)).data.toList (ByteArray.mk #[c]).data.toList = true := by simp [bytesOf, Lib.hasPrefix]
  rw [e1, e2] at this
  exact this

theorem cuts_no {s : ByteArray} {c : UInt8} (h : s.data.toList.head? ≠ some c) : ∃ t, CutsTo s c t false := by
  have e2 : Lib.hasPrefix s.data.toList (ByteArray.mk #[c]).data.toList = false := by
    obtain ⟨⟨l⟩⟩ := s
    cases l with
    | nil => rfl
    | cons a r =>
      have : (c == a) = false := by
        rw [beq_eq_false_iff_ne]
        exact fun e => h (by rw [e]; rfl)
      show ((c == a) && [].isPrefixOf r) = false
      rw [this]
      rfl
  refine ⟨⟨(Lib.trimPrefix s.data.toList (ByteArray.mk #[c]).data.toList).toArray⟩, fun W => ?_⟩
  have := Tryd.strings_CutPrefix s ⟨#[c]⟩ W
  rw [e2] at this
  exact this

def AtoiTo (d : ByteArray) (n : Int) (e : Value) (w : World) : Prop := Calls Tryd.prog 31 #[.string d] w fun x w' => x = .returned (.tuple #[.int .i64 n, e]) ∧ Below w.heap.size w w'

theorem atoi_yes {d : ByteArray} {n : Int} (w : World) (hs : d.size ≤ 1048576) (h : atoiAll d.data.toList = .ok n) : AtoiTo d n .nilIface w := by
  refine (Tryd.strconv_Atoi_ok d (by omega) n h w).mono ?_
  rintro e w' ⟨rfl, hw⟩
  refine ⟨rfl, ?_⟩
  rcases hw with rfl | ⟨t, rfl⟩
  · exact Below.refl _ _
  · exact Lib.bytesWorld_below _ _ _

def AtoiErr (d : ByteArray) (w : World) : Prop := ∃ m, Calls Tryd.prog 31 #[.string d] w fun x w' => ∃ N, x = .returned (.tuple #[.int .i64 m, .iface 81 (.pointer (some ⟨N, 0, none⟩))]) ∧ Below w.heap.size w w'

theorem atoi_no {d : ByteArray} (w : World) (hs : d.size ≤ 1048576) (h : ∀ n, atoiAll d.data.toList ≠ .ok n) (h1 : ErrVar "strconv.ErrSyntax" w) (h2 : ErrVar "strconv.ErrRange" w) : AtoiErr d w := by
  obtain ⟨t1, p1, h1⟩ := h1
  obtain ⟨t2, p2, h2⟩ := h2
  cases ha : atoiAll d.data.toList with
  | ok n => exact absurd ha (h n)
  | «syntax» =>
    refine ⟨0, (Tryd.strconv_Atoi_syntax_var d (by omega) ha t1 p1 w h1).mono ?_⟩
    rintro e w' ⟨N, rfl, _, _, hB⟩
    exact ⟨N, rfl, hB⟩
  | range =>
    refine ⟨atoiSat d.data.toList, (Tryd.strconv_Atoi_range_var d (by omega) ha t2 p2 w h2).mono ?_⟩
    rintro e w' ⟨N, rfl, _, _, hB⟩
    exact ⟨N, rfl, hB⟩

set_option maxHeartbeats 1000000 in
theorem read_null (w : World) : Calls Tryd.prog 17 #[.string ⟨#[110, 117, 108, 108]⟩] w fun e w' => e = .returned (.tuple #[V.enc .null, .bool true]) ∧ Below w.heap.size w w' := by
    go_enter Tryd.func17, Tryd.ntmps17
    go_wp2
    go_ret2
    exact ⟨rfl, Below.refl _ _⟩
set_option maxHeartbeats 1000000 in
theorem read_no (w : World) : Calls Tryd.prog 17 #[.string ⟨#[110, 111]⟩] w fun e w' => e = .returned (.tuple #[V.enc (.bool false), .bool true]) ∧ Below w.heap.size w w' := by
    go_enter Tryd.func17, Tryd.ntmps17
    go_wp2
    go_ret2
    exact ⟨rfl, Below.refl _ _⟩
set_option maxHeartbeats 1000000 in
theorem read_yes (w : World) : Calls Tryd.prog 17 #[.string ⟨#[121, 101, 115]⟩] w fun e w' => e = .returned (.tuple #[V.enc (.bool true), .bool true]) ∧ Below w.heap.size w w' := by
    go_enter Tryd.func17, Tryd.ntmps17
    go_wp2
    go_ret2
    exact ⟨rfl, Below.refl _ _⟩

set_option maxHeartbeats 1000000 in
theorem read_int_ok (s d : ByteArray) (n : Int) (w : World) (h3 : Not3 s) (hc : CutsTo s 105 d true) (ha : AtoiTo d n .nilIface w) : Calls Tryd.prog 17 #[.string s] w fun e w' => e = .returned (.tuple #[V.enc (.int n), .bool true]) ∧ Below w.heap.size w w' := by
    have qa := neq_list h3.1
    have qb := neq_list h3.2.1
    have qc := neq_list h3.2.2
    clear h3
    go_enter Tryd.func17, Tryd.ntmps17
    go_wp2_with fail
    refine (hc _).mono ?_
    rintro e _ ⟨rfl, rfl⟩
    go_wp2_with fail
    refine ha.mono ?_
    rintro e w1 ⟨rfl, hB⟩
    go_wp2
    go_region
    all_goals go_wp2
    all_goals go_ret2
    all_goals exact ⟨rfl, by first | exact hB | exact hB.drew⟩

set_option maxHeartbeats 1000000 in
theorem read_int_err (s d : ByteArray) (w : World) (h3 : Not3 s) (hc : CutsTo s 105 d true) (ha : AtoiErr d w) : Calls Tryd.prog 17 #[.string s] w fun e w' => ∃ x, e = .returned (.tuple #[x, .bool false]) ∧ Below w.heap.size w w' := by
    have qa := neq_list h3.1
    have qb := neq_list h3.2.1
    have qc := neq_list h3.2.2
    clear h3
    obtain ⟨m, ha⟩ := ha
    go_enter Tryd.func17, Tryd.ntmps17
    go_wp2_with fail
    refine (hc _).mono ?_
    rintro e _ ⟨rfl, rfl⟩
    go_wp2_with fail
    refine ha.mono ?_
    rintro e w1 ⟨N, rfl, hB⟩
    go_wp2
    go_region
    all_goals go_wp2
    all_goals go_ret2
    all_goals exact ⟨_, rfl, by first | exact hB | exact hB.drew⟩

set_option maxHeartbeats 1000000 in
theorem read_num_ok (s d : ByteArray) (n : Int) (w : World) (h3 : Not3 s) (t : ByteArray) (hc1 : CutsTo s 105 t false) (hc : CutsTo s 110 d true) (ha : AtoiTo d n .nilIface w) : Calls Tryd.prog 17 #[.string s] w fun e w' => e = .returned (.tuple #[V.enc (.num n), .bool true]) ∧ Below w.heap.size w w' := by
    have qa := neq_list h3.1
    have qb := neq_list h3.2.1
    have qc := neq_list h3.2.2
    clear h3
    go_enter Tryd.func17, Tryd.ntmps17
    go_wp2_with fail
    refine (hc1 _).mono ?_
    rintro e _ ⟨rfl, rfl⟩
    go_wp2_with fail
    refine (hc _).mono ?_
    rintro e _ ⟨rfl, rfl⟩
    go_wp2_with fail
    refine ha.mono ?_
    rintro e w1 ⟨rfl, hB⟩
    go_wp2
    go_region
    all_goals go_wp2
    all_goals go_ret2
    all_goals exact ⟨rfl, by first | exact hB | exact hB.drew⟩

set_option maxHeartbeats 1000000 in
theorem read_num_err (s d : ByteArray) (w : World) (h3 : Not3 s) (t : ByteArray) (hc1 : CutsTo s 105 t false) (hc : CutsTo s 110 d true) (ha : AtoiErr d w) : Calls Tryd.prog 17 #[.string s] w fun e w' => ∃ x, e = .returned (.tuple #[x, .bool false]) ∧ Below w.heap.size w w' := by
    have qa := neq_list h3.1
    have qb := neq_list h3.2.1
    have qc := neq_list h3.2.2
    clear h3
    obtain ⟨m, ha⟩ := ha
    go_enter Tryd.func17, Tryd.ntmps17
    go_wp2_with fail
    refine (hc1 _).mono ?_
    rintro e _ ⟨rfl, rfl⟩
    go_wp2_with fail
    refine (hc _).mono ?_
    rintro e _ ⟨rfl, rfl⟩
    go_wp2_with fail
    refine ha.mono ?_
    rintro e w1 ⟨N, rfl, hB⟩
    go_wp2
    go_region
    all_goals go_wp2
    all_goals go_ret2
    all_goals exact ⟨_, rfl, by first | exact hB | exact hB.drew⟩

set_option maxHeartbeats 1000000 in
theorem clone_any (s : ByteArray) (w : World) (hs : s.size ≤ 1048576) : Calls Tryd.prog 32 #[.string s] w fun e w' => e = .returned (.string s) ∧ Below w.heap.size w w' := by
    have hC := fun W => Tryd.stringslite_Clone s W (by omega)
    go_enter Tryd.func32, Tryd.ntmps32
    go_wp2_with fail
    refine (hC _).mono ?_
    rintro e w1 ⟨rfl, hB⟩
    go_wp2
    go_ret
    exact ⟨rfl, hB⟩

set_option maxHeartbeats 1000000 in
theorem read_text (s : ByteArray) (w : World) (_hs : s.size ≤ 1048576) (h3 : Not3 s) (t1 t2 : ByteArray) (hc1 : CutsTo s 105 t1 false) (hc2 : CutsTo s 110 t2 false) (hl : (2 : Int) ≤ (s.size : Int)) (h0 : 0 < s.size) (hq : ((s[0].toNat : Int) == 39) = true) (m : Nat) (hm : (s.size : Int) - 1 = (m : Int)) (_hm1 : (1 : Int) ≤ (m : Int)) (_hm2 : (m : Int) ≤ (s.size : Int)) (hm3 : (m : Int) < (s.size : Int)) (hmlt : m < s.size) (hz : ((s[m].toNat : Int) == 39) = true) (r : ByteArray) (hx : s.extract 1 m = r) (hr : r.size ≤ 1048576) : Calls Tryd.prog 17 #[.string s] w fun e w' => e = .returned (.tuple #[V.enc (.text r), .bool true]) ∧ Below w.heap.size w w' := by
    have hK := fun W => clone_any r W hr
    have qa := neq_list h3.1
    have qb := neq_list h3.2.1
    have qc := neq_list h3.2.2
    clear h3
    go_enter Tryd.func17, Tryd.ntmps17
    go_wp2_with fail
    refine (hc1 _).mono ?_
    rintro e _ ⟨rfl, rfl⟩
    go_wp2_with fail
    refine (hc2 _).mono ?_
    rintro e _ ⟨rfl, rfl⟩
    go_wp2_with fail
    refine (hK _).mono ?_
    rintro e w1 ⟨rfl, hB⟩
    go_wp2
    go_ret2
    exact ⟨rfl, hB⟩

set_option maxHeartbeats 1000000 in
theorem read_none_short (s : ByteArray) (w : World) (_hs : s.size ≤ 1048576) (h3 : Not3 s) (t1 t2 : ByteArray) (hc1 : CutsTo s 105 t1 false) (hc2 : CutsTo s 110 t2 false) (hl : ¬ (2 : Int) ≤ (s.size : Int)) : Calls Tryd.prog 17 #[.string s] w fun e w' => e = .returned (.tuple #[.nilIface, .bool false]) ∧ Below w.heap.size w w' := by
    have qa := neq_list h3.1
    have qb := neq_list h3.2.1
    have qc := neq_list h3.2.2
    clear h3
    go_enter Tryd.func17, Tryd.ntmps17
    go_wp2_with fail
    refine (hc1 _).mono ?_
    rintro e _ ⟨rfl, rfl⟩
    go_wp2_with fail
    refine (hc2 _).mono ?_
    rintro e _ ⟨rfl, rfl⟩
    go_wp2
    go_ret2
    exact ⟨rfl, Below.refl _ _⟩

set_option maxHeartbeats 1000000 in
theorem read_none_head (s : ByteArray) (w : World) (_hs : s.size ≤ 1048576) (h3 : Not3 s) (t1 t2 : ByteArray) (hc1 : CutsTo s 105 t1 false) (hc2 : CutsTo s 110 t2 false) (hl : (2 : Int) ≤ (s.size : Int)) (h0 : 0 < s.size) (hq : ((s[0].toNat : Int) == 39) = false) : Calls Tryd.prog 17 #[.string s] w fun e w' => e = .returned (.tuple #[.nilIface, .bool false]) ∧ Below w.heap.size w w' := by
    have qa := neq_list h3.1
    have qb := neq_list h3.2.1
    have qc := neq_list h3.2.2
    clear h3
    go_enter Tryd.func17, Tryd.ntmps17
    go_wp2_with fail
    refine (hc1 _).mono ?_
    rintro e _ ⟨rfl, rfl⟩
    go_wp2_with fail
    refine (hc2 _).mono ?_
    rintro e _ ⟨rfl, rfl⟩
    go_wp2
    go_ret2
    exact ⟨rfl, Below.refl _ _⟩

set_option maxHeartbeats 1000000 in
theorem read_none_tail (s : ByteArray) (w : World) (_hs : s.size ≤ 1048576) (h3 : Not3 s) (t1 t2 : ByteArray) (hc1 : CutsTo s 105 t1 false) (hc2 : CutsTo s 110 t2 false) (hl : (2 : Int) ≤ (s.size : Int)) (h0 : 0 < s.size) (hq : ((s[0].toNat : Int) == 39) = true) (m : Nat) (hm : (s.size : Int) - 1 = (m : Int)) (_hm1 : (1 : Int) ≤ (m : Int)) (_hm2 : (m : Int) ≤ (s.size : Int)) (hm3 : (m : Int) < (s.size : Int)) (hmlt : m < s.size) (hz : ((s[m].toNat : Int) == 39) = false) : Calls Tryd.prog 17 #[.string s] w fun e w' => e = .returned (.tuple #[.nilIface, .bool false]) ∧ Below w.heap.size w w' := by
    have qa := neq_list h3.1
    have qb := neq_list h3.2.1
    have qc := neq_list h3.2.2
    clear h3
    go_enter Tryd.func17, Tryd.ntmps17
    go_wp2_with fail
    refine (hc1 _).mono ?_
    rintro e _ ⟨rfl, rfl⟩
    go_wp2_with fail
    refine (hc2 _).mono ?_
    rintro e _ ⟨rfl, rfl⟩
    go_wp2
    go_ret2
    exact ⟨rfl, Below.refl _ _⟩

end Go.Proofs.YthjddmhcppdleaaDoor
