/-
  Together: RowImpl, Before, SameB, Same, Big, LawKeys
-/
import Derived.Test.YtclegljalndaeacPack5
import Derived.Test.YtclegljalndaeacPack4
import Derived.Test.YtclegljalndaeacPack14
import Derived.Deep.LoopGhost
import Derived.Test.YtclegljalndaeacPack2
import Derived.Test.YtclegljalndaeacPack3
import Derived.Lib.BytesEntry
import Derived.Test.YtclegljalndaeacPack1
import Derived.Test.YtclegljalndaeacPack8
import Derived.Test.YtclegljalndaeacPack13
import Derived.Test.YtclegljalndaeacKeyLessImpl
/-
  The program's SameRow.
-/
namespace Go.Proofs.Ytclegljalndaeac
open Go.RowKit
set_option maxRecDepth 4000

set_option maxHeartbeats 2000000 in
theorem equalFunc_any (a1 a2 : Option Addr) (n m c1 c2 : Nat) (fk fn : Nat → Int) (fs : Nat → ByteArray) (gk gn : Nat → Int) (gs : Nat → ByteArray) (w : World) (h1 : VView w a1 n c1 fk fn fs) (h2 : VView w a2 m c2 gk gn gs) (hn : n ≤ 281474976710656) (hm : m ≤ 281474976710656) :
    Calls Try.prog 63 #[.slice a1 n c1, .slice a2 m c2, .func (.func 64) #[] #[]] w fun e w' => e = .returned (.bool (rowEq n m fk fn fs gk gn gs)) ∧ Below w.heap.size w w' := by
  by_cases e : n = m
  case neg =>
    have e1 : ((n : Int) != (m : Int)) = true := by simp; omega
    have er : rowEq n m fk fn fs gk gn gs = false := by unfold rowEq; rw [decide_eq_false e]; rfl
    rw [er]
    go_enter Try.func63, Try.ntmps63
    go_wp2
    go_ret
    exact ⟨rfl, Below.refl _ _⟩
  subst e
  have er : rowEq n n fk fn fs gk gn gs = allEq fk fn fs gk gn gs n := by unfold rowEq; simp
  rw [er]
  clear er
  go_enter Try.func63, Try.ntmps63
  go_wp2
  go_loopg [17] n (fun q i wr => ∃ k : Nat, k ≤ n ∧ q = n - k ∧ i = .int .i64 k ∧ Below w.heap.size w wr ∧ allEq fk fn fs gk gn gs k = true)
  case atStart => exact ⟨0, Nat.zero_le _, rfl, rfl, Below.refl _ _, rfl⟩
  case round =>
    obtain ⟨k, hk, rfl, rfl, hB, hA⟩ := hrel
    by_cases hlt : k < n
    · obtain ⟨b1, o1, rfl, hb1, hc1⟩ := (h1.below hB).cells (by omega)
      obtain ⟨b2, o2, rfl, hb2, hc2⟩ := (h2.below hB).cells (by omega)
      obtain ⟨x0, x1, x2⟩ := hc1 k hlt
      obtain ⟨y0, y1, y2⟩ := hc2 k hlt
      have hkz : (k : Int) < (n : Int) := by omega
      have hV := fun W => sameVal_impl (fk k) (fn k) (fs k) (gk k) (gn k) (gs k) W
      have hS : Hid (allEq fk fn fs gk gn gs (k + 1) = eqV (fk k) (fn k) (fs k) (gk k) (gn k) (gs k)) := by
        show allEq fk fn fs gk gn gs (k + 1) = _
        simp only [allEq, hA, Bool.true_and]
      have hbad : Hid (eqV (fk k) (fn k) (fs k) (gk k) (gn k) (gs k) = false → allEq fk fn fs gk gn gs n = false) := fun h => allEq_bad h n hlt
      clear hc1 hc2 h1 h2 hA
      generalize eqV (fk k) (fn k) (fs k) (gk k) (gn k) (gs k) = z at *
      generalize fk k = p0 at *
      generalize fn k = p1 at *
      generalize fs k = p2 at *
      generalize gk k = r0 at *
      generalize gn k = r1 at *
      generalize gs k = r2 at *
      go_wp2_with fail
      refine (hV _).mono ?_
      rintro e w2 ⟨rfl, hB2⟩
      have hB3 : Below w.heap.size w w2 := ((hB.alloc hB.size _).alloc (by have := hB.size; simp; omega) _).trans (hB2.mono (by have := hB.size; simp; omega))
      clear hB2 hV x0 x1 x2 y0 y1 y2 hb1 hb2
      cases z
      · have hbad2 : Hid (allEq fk fn fs gk gn gs n = false) := hbad.out rfl
        clear hbad
        go_wp2
        go_ret
        exact ⟨by rw [hbad2.out]; rfl, hB3⟩
      · go_wp2
        go_roundg (n - (k + 1))
        case measure => omega
        case rel => exact ⟨k + 1, by omega, rfl, by go_num, hB3, hS.out⟩
    · have hkn : k = n := by omega
      have hA : Hid (allEq fk fn fs gk gn gs n = true) := by rw [← hkn]; exact hA
      go_wp2
      go_ret
      exact ⟨by rw [hA.out]; rfl, hB⟩
set_option maxHeartbeats 2000000 in
theorem sameRow_impl (a1 a2 : Option Addr) (n m c1 c2 : Nat) (fk fn : Nat → Int) (fs : Nat → ByteArray) (gk gn : Nat → Int) (gs : Nat → ByteArray) (w : World) (h1 : VView w a1 n c1 fk fn fs) (h2 : VView w a2 m c2 gk gn gs) (hn : n ≤ 281474976710656) (hm : m ≤ 281474976710656) :
    Calls Try.prog 21 #[.slice a1 n c1, .slice a2 m c2] w fun e w' => e = .returned (.bool (rowEq n m fk fn fs gk gn gs)) ∧ Below w.heap.size w w' := by
  have hE := equalFunc_any a1 a2 n m c1 c2 fk fn fs gk gn gs w h1 h2 hn hm
  clear h1 h2
  generalize rowEq n m fk fn fs gk gn gs = z at *
  go_enter Try.func21, Try.ntmps21
  go_wp2_with fail
  refine hE.mono ?_
  rintro e w1 ⟨rfl, hB⟩
  go_wp2
  go_ret
  exact ⟨rfl, hB⟩

end Go.Proofs.Ytclegljalndaeac

/-
  Before, the program's: whether bytes are ahead of others, as texts are.
-/
namespace Go.Proofs.Ytclegljalndaeac
open Go.RowKit
set_option maxRecDepth 4000

theorem cmp_lt : ∀ a b : List UInt8, decide (Lib.compareBytes a b < 0) = Op.bytesLess a b
  | [], [] => by simp [Lib.compareBytes, Op.bytesLess]
  | [], _ :: _ => by simp [Lib.compareBytes, Op.bytesLess]
  | _ :: _, [] => by simp [Lib.compareBytes, Op.bytesLess]
  | x :: xs, y :: ys => by
    have ih := cmp_lt xs ys
    simp only [Lib.compareBytes, Op.bytesLess]
    by_cases h1 : x < y
    · simp [h1]
    · by_cases h2 : y < x
      · have hne : (x == y) = false := by
          simp only [beq_eq_false_iff_ne, ne_eq]
          intro e; subst e; exact h1 h2
        simp [h1, h2, hne]
      · have he : x = y := by
          apply UInt8.toNat_inj.1
          simp only [UInt8.lt_iff_toNat_lt] at h1 h2
          omega
        subst he
        simp [h1, ih]

theorem bytes_view {w : World} {b off n cap : Nat} {f : Nat → Int} (hv : View w (some ⟨b, off, none⟩) n cap f) :
    (Extern.Bytes.bytesOf (.slice (some ⟨b, off, none⟩) n cap)).run Try.prog w = .ok (strOfNums (lof n f)) w := by
  have hl := Lib.run_loadBytesX (P := Try.prog) w (lof n f) ⟨b, off, none⟩ .empty (fun j x hj => by
    have hjl : j < (lof n f).length := (List.getElem?_eq_some_iff.1 hj).1
    rw [lof_len] at hjl
    obtain ⟨b', off', e', _, hc⟩ := hv.cells (by omega)
    simp only [Option.some.injEq, Addr.mk.injEq, and_true] at e'
    obtain ⟨rfl, rfl⟩ := e'
    have e : (⟨b, off, none⟩ : Addr).add j = ⟨b, off + j, none⟩ := by unfold Addr.add; split <;> simp_all
    rw [e, hc j hjl]
    have hg : (lof n f).getD j 0 = x := by rw [List.getD_eq_getElem?_getD, hj]; rfl
    rw [← hg, lof_get n f j hjl])
  rw [lof_len] at hl
  have he : (⟨ByteArray.empty.data ++ (Lib.bytesOf (lof n f)).toArray⟩ : ByteArray) = strOfNums (lof n f) := by
    apply ByteArray.ext
    show (#[] : Array UInt8) ++ (Lib.bytesOf (lof n f)).toArray = (strOfNums (lof n f)).data
    simp [strOfNums, Lib.bytesOf]
  rw [he] at hl
  exact hl

theorem run_compareS {w : World} {b1 o1 n c1 : Nat} {f : Nat → Int} {b2 o2 m c2 : Nat} {g : Nat → Int} (h1 : View w (some ⟨b1, o1, none⟩) n c1 f) (h2 : View w (some ⟨b2, o2, none⟩) m c2 g) :
    (Extern.BytealgCompare.compare #[.slice (some ⟨b1, o1, none⟩) n c1, .slice (some ⟨b2, o2, none⟩) m c2]).run Try.prog w = .ok (.int .i64 (Lib.compareBytes (strOfNums (lof n f)).data.toList (strOfNums (lof m g)).data.toList)) w := by
  change Sem.run Try.prog (do pure (goInt (Extern.BytealgCompare.cmp (← Extern.Bytes.bytesOf (.slice (some ⟨b1, o1, none⟩) n c1)) (← Extern.Bytes.bytesOf (.slice (some ⟨b2, o2, none⟩) m c2))))) w = _
  simp only [Sem.run_bind, Sem.run_pure, bytes_view h1, bytes_view h2, Result.andThen]
  rw [Lib.cmp_eq]
  rfl

theorem cmpBytes_any (b1 o1 n c1 : Nat) (f : Nat → Int) (b2 o2 m c2 : Nat) (g : Nat → Int) (w : World) (h1 : View w (some ⟨b1, o1, none⟩) n c1 f) (h2 : View w (some ⟨b2, o2, none⟩) m c2 g) :
    Calls Try.prog 65 #[.slice (some ⟨b1, o1, none⟩) n c1, .slice (some ⟨b2, o2, none⟩) m c2] w fun e w' => e = .returned (.int .i64 (Lib.compareBytes (strOfNums (lof n f)).data.toList (strOfNums (lof m g)).data.toList)) ∧ w = w' := by
  have q := run_compareS h1 h2
  have q2 : (callFunc 98 #[.slice (some ⟨b1, o1, none⟩) n c1, .slice (some ⟨b2, o2, none⟩) m c2]).run Try.prog w = .ok (.value (.int .i64 (Lib.compareBytes (strOfNums (lof n f)).data.toList (strOfNums (lof m g)).data.toList))) w := by
    rw [run_callFunc_extern (e := Extern.BytealgCompare.compare) Try.func98 (by kernel_rfl) (by kernel_rfl) (by kernel_rfl) (by kernel_rfl), q]
    rfl
  go_enter Try.func65, Try.ntmps65
  go_wp2
  go_ret
  exact ⟨rfl, rfl⟩



theorem before_impl (b1 o1 n c1 : Nat) (f : Nat → Int) (b2 o2 m c2 : Nat) (g : Nat → Int) (w : World) (h1 : View w (some ⟨b1, o1, none⟩) n c1 f) (h2 : View w (some ⟨b2, o2, none⟩) m c2 g) :
    Calls Try.prog 24 #[.slice (some ⟨b1, o1, none⟩) n c1, .slice (some ⟨b2, o2, none⟩) m c2] w fun e w' => e = .returned (.bool (ahead (lof n f) (lof m g))) ∧ w = w' := by
  have he : ahead (lof n f) (lof m g) = decide (Lib.compareBytes (strOfNums (lof n f)).data.toList (strOfNums (lof m g)).data.toList < 0) := by
    unfold ahead
    rw [cmp_lt, toList_data, toList_data]
  rw [he]
  go_enter Try.func24, Try.ntmps24
  go_wp2_with fail
  refine (cmpBytes_any b1 o1 n c1 f b2 o2 m c2 g w h1 h2).mono ?_
  rintro e _ ⟨rfl, rfl⟩
  go_wp2
  go_ret
  exact ⟨rfl, rfl⟩
end Go.Proofs.Ytclegljalndaeac

/-
  What the law's own helpers sameBytes and begins come to, at every two slices of bytes that read.
-/
namespace Go.Proofs.Ytclegljalndaeac
open Go.RowKit
set_option maxRecDepth 4000

theorem lof_eq {n : Nat} {f g : Nat → Int} : lof n f = lof n g ↔ ∀ i, i < n → f i = g i := by
  constructor
  · intro h i hi
    rw [← lof_get n f i hi, ← lof_get n g i hi, h]
  · intro h
    unfold lof
    apply List.map_congr_left
    intro i hi
    exact h i (List.mem_range.1 hi)

set_option maxHeartbeats 1000000 in
theorem sameBytes_any (a1 a2 : Option Addr) (n m c1 c2 : Nat) (f g : Nat → Int) (w : World) (h1 : View w a1 n c1 f) (h2 : View w a2 m c2 g) (hn : n ≤ 281474976710656) (hm : m ≤ 281474976710656) :
    Calls Try.prog 16 #[.slice a1 n c1, .slice a2 m c2] w fun e w' => e = .returned (.bool (decide (lof n f = lof m g))) ∧ Below w.heap.size w w' := by
  by_cases hnm : n = m
  · subst hnm
    have q0 : ((n : Int) != (n : Int)) = false := by simp
    go_enter Try.func16, Try.ntmps16
    go_wp2
    go_loopg [5] n (fun q i wr => ∃ k : Nat, k ≤ n ∧ q = n - k ∧ i = .int .i64 k ∧ Below w.heap.size w wr ∧ ∀ j, j < k → f j = g j)
    case atStart => exact ⟨0, Nat.zero_le _, rfl, rfl, Below.refl _ _, fun j hj => absurd hj (Nat.not_lt_zero _)⟩
    case round =>
      obtain ⟨k, hk, rfl, rfl, hB, hE⟩ := hrel
      have HE : Hid (∀ j, j < k → f j = g j) := hE
      clear hE
      by_cases hlt : k < n
      · obtain ⟨b1, o1, rfl, hb1, hc1⟩ := h1.cells (by omega)
        obtain ⟨b2, o2, rfl, hb2, hc2⟩ := h2.cells (by omega)
        have hkz : (k : Int) < (n : Int) := by omega
        have e1 : wr.cell? ⟨b1, o1 + k, none⟩ = some (.int .u8 (f k)) := by rw [hB.cell (p := ⟨b1, o1 + k, none⟩) hb1]; exact hc1 k hlt
        have e2 : wr.cell? ⟨b2, o2 + k, none⟩ = some (.int .u8 (g k)) := by rw [hB.cell (p := ⟨b2, o2 + k, none⟩) hb2]; exact hc2 k hlt
        clear hc1 hc2
        by_cases he : f k = g k
        · have q1 : (f k != g k) = false := by simpa using he
          have HE2 : Hid (∀ j, j < k + 1 → f j = g j) := fun j hj => by
            by_cases e : j = k
            · subst e; exact he
            · exact HE.out j (by omega)
          clear he
          go_wp2
          go_region
          all_goals go_wp2
          all_goals
            go_roundg (n - (k + 1))
            case measure => omega
            case rel => exact ⟨k + 1, by omega, rfl, by go_num, by first | exact hB.drew | exact hB, HE2.out⟩
        · have q1 : (f k != g k) = true := by simpa using he
          have HD : Hid (decide (lof n f = lof n g) = false) := by
            show _ = _
            rw [decide_eq_false_iff_not, lof_eq]
            exact fun h => he (h k hlt)
          clear he
          go_wp2
          go_region
          all_goals go_wp2
          all_goals
            go_ret
            exact ⟨by rw [HD.out]; rfl, by first | exact hB.drew | exact hB⟩
      · obtain rfl : k = n := by omega
        have HD : Hid (decide (lof k f = lof k g) = true) := by
          show _ = _
          rw [decide_eq_true_iff, lof_eq]
          exact HE.out
        go_wp2
        go_ret
        exact ⟨by rw [HD.out]; rfl, hB⟩
  · have q0 : ((n : Int) != (m : Int)) = true := by simp; omega
    have HD : Hid (decide (lof n f = lof m g) = false) := by
      show _ = _
      rw [decide_eq_false_iff_not]
      intro h
      have := congrArg List.length h
      rw [lof_len, lof_len] at this
      exact hnm this
    go_enter Try.func16, Try.ntmps16
    go_wp2
    go_ret
    exact ⟨by rw [HD.out]; rfl, Below.refl _ _⟩
end Go.Proofs.Ytclegljalndaeac

/-
  laws.begins.
-/
namespace Go.Proofs.Ytclegljalndaeac
open Go.RowKit
set_option maxRecDepth 4000

set_option maxHeartbeats 1000000 in
theorem begins_any (b1 o1 n c1 : Nat) (a2 : Option Addr) (m c2 : Nat) (f g : Nat → Int) (w : World) (h1 : View w (some ⟨b1, o1, none⟩) n c1 f) (h2 : View w a2 m c2 g) (hm : m ≤ 281474976710656) :
    Calls Try.prog 26 #[.slice (some ⟨b1, o1, none⟩) n c1, .slice a2 m c2] w fun e w' => e = .returned (.bool (decide (m ≤ n ∧ lof m f = lof m g))) ∧ Below w.heap.size w w' := by
  have hc := h1.le
  by_cases hle : m ≤ n
  · have hz : (m : Int) ≤ (n : Int) := by omega
    have hzc : (m : Int) ≤ (c1 : Int) := by omega
    obtain ⟨x, hx⟩ : ∃ x, Hid (decide (lof m f = lof m g) = x) := ⟨_, rfl⟩
    have HD : Hid (decide (m ≤ n ∧ lof m f = lof m g) = x) := by show _ = _; rw [← hx.out]; simp [hle]
    rw [HD.out]
    go_enter Try.func26, Try.ntmps26
    go_wp2_with fail
    refine (sameBytes_any (some ⟨b1, o1, none⟩) a2 m m c1 c2 f g w (h1.take hle) h2 hm hm).mono ?_
    rw [hx.out]
    rintro e w1 ⟨rfl, hb⟩
    go_wp2
    go_ret
    exact ⟨rfl, hb⟩
  · have hz : (n : Int) < (m : Int) := by omega
    have HD : Hid (decide (m ≤ n ∧ lof m f = lof m g) = false) := by show _ = _; simp [hle]
    rw [HD.out]
    go_enter Try.func26, Try.ntmps26
    go_wp2
    go_ret
    exact ⟨rfl, Below.refl _ _⟩
end Go.Proofs.Ytclegljalndaeac

/-
  Whether a code is too long.
-/
namespace Go.Proofs.Ytclegljalndaeac
open Go.RowKit
set_option maxRecDepth 4000

theorem big_any (ao : Option Addr) (n cap : Nat) (w : World) (_hn : n ≤ 9223372036854775807) :
    Calls Try.prog 8 #[.slice ao n cap] w fun e w' => e = .returned (.bool (decide ((1048576 : Int) < (n : Int)))) ∧ w = w' := by
  go_enter Try.func8, Try.ntmps8
  go_wp2
  go_ret
  exact ⟨rfl, rfl⟩

end Go.Proofs.Ytclegljalndaeac

/-
  The walk over the law FnKeys: it answers true and writes nothing that was there, at every code that reads.
-/
namespace Go.Proofs.Ytclegljalndaeac
open Go.RowKit
set_option maxRecDepth 4000

set_option linter.unusedSimpArgs false in
set_option maxHeartbeats 2000000 in
theorem lawKeys (ao : Option Addr) (N cap : Nat) (f : Nat → Int) (w : World) (hv0 : View w ao N cap f) (hlen : N ≤ 9223372036854775807) :
    Calls Try.prog 4 #[.slice ao N cap] w fun e w' => e = .returned (.bool true) ∧ Below w.heap.size w w' := by
  by_cases hbig : (1048576 : Int) < (N : Int)
  · go_enter Try.func4, Try.ntmps4
    go_wp2_with fail
    refine (big_any ao N cap w hlen).mono ?_
    rw [decide_eq_true hbig]
    rintro e _ ⟨rfl, rfl⟩
    go_wp2
    go_ret
    exact ⟨rfl, Below.refl _ _⟩
  go_enter Try.func4, Try.ntmps4
  go_wp2_with fail
  refine (big_any ao N cap w hlen).mono ?_
  rw [decide_eq_false (by omega : ¬ (1048576 : Int) < (N : Int))]
  rintro e _ ⟨rfl, rfl⟩
  go_wp2_with fail
  refine (drawKeys_any ao N cap f w (by omega) hv0).mono ?_
  rintro e w2 ⟨⟨a, a1, a2, m, cp, c1, c2, gc, gt, gu, gd, fk, fn, fs, fk', fn', fs', rfl, hD⟩, hB⟩
  have hm3 := hD.few
  have hp := hD.plan
  have hv := hD.vals
  have hv' := hD.vals'
  have hok : ∀ i, i < m → partOk (gc i) (gt i) = true := fun i hi => by have := hD.ok i hi; unfold partOk; simp; omega
  have hpk := planOk_iff.2 ⟨hok, (by omega : m ≤ 6)⟩
  have hfa := fitsAll_iff.2 ⟨Nat.le_refl m, hD.fit⟩
  have hfa' := fitsAll_iff.2 ⟨Nat.le_refl m, hD.fit'⟩
  obtain ⟨L1, hL1⟩ : ∃ L, keyL m gc gt gu gd m fk fn fs = L := ⟨_, rfl⟩
  obtain ⟨L2, hL2⟩ : ∃ L, keyL m gc gt gu gd m fk' fn' fs' = L := ⟨_, rfl⟩
  have e1 : L1 = keyT (onePL gc gt gu gd fk fn fs) m := by rw [← hL1]; unfold keyL; rw [hpk, hfa]; rfl
  have e2 : L2 = keyT (onePL gc gt gu gd fk' fn' fs') m := by rw [← hL2]; unfold keyL; rw [hpk, hfa']; rfl
  have H1 : Hid (keyL m gc gt gu gd m fk fn fs = L1) := hL1
  have H2 : Hid (keyL m gc gt gu gd m fk' fn' fs' = L2) := hL2
  have hn1 : L1.length ≤ 414 := by rw [← hL1]; exact keyL_len m gc gt gu gd m fk fn fs
  have hn2 : L2.length ≤ 414 := by rw [← hL2]; exact keyL_len m gc gt gu gd m fk' fn' fs'
  have hby1 : ∀ i, i < L1.length → 0 ≤ L1.getD i 0 ∧ L1.getD i 0 ≤ 255 := fun i hi => by
    have e : L1.getD i 0 = L1[i] := by simp [List.getD, List.getElem?_eq_getElem hi]
    rw [e]; exact (by rw [← hL1]; exact keyL_byte m gc gt gu gd m fk fn fs : ∀ y ∈ L1, 0 ≤ y ∧ y ≤ 255) _ (List.getElem_mem hi)
  have hby2 : ∀ i, i < L2.length → 0 ≤ L2.getD i 0 ∧ L2.getD i 0 ≤ 255 := fun i hi => by
    have e : L2.getD i 0 = L2[i] := by simp [List.getD, List.getElem?_eq_getElem hi]
    rw [e]; exact (by rw [← hL2]; exact keyL_byte m gc gt gu gd m fk' fn' fs' : ∀ y ∈ L2, 0 ≤ y ∧ y ≤ 255) _ (List.getElem_mem hi)
  obtain ⟨hb1, hr1⟩ := keys_back (fu := gu) (fd := gd) (by omega) hok hD.fit L1 e1
  obtain ⟨hb2, hr2⟩ := keys_back (fu := gu) (fd := gd) (by omega) hok hD.fit' L2 e2
  have hTK := keys_two (fd := gd) hok hD.fit hD.fit' L1 L2 e1 e2
  obtain ⟨s, hs⟩ : ∃ s, rowEq m m fk fn fs fk' fn' fs' = s := ⟨_, rfl⟩
  obtain ⟨lk, hlk⟩ : ∃ s, lessK m gd m fk fn fs m fk' fn' fs' = s := ⟨_, rfl⟩
  rw [hs, hlk] at hTK
  have HT : Hid (TwoKeys L1 L2 s lk) := hTK
  have HS : Hid (rowEq m m fk fn fs fk' fn' fs' = s) := hs
  have HLK : Hid (lessK m gd m fk fn fs m fk' fn' fs' = lk) := hlk
  have HB1 : Hid (decOk L1.length (fun i => L1.getD i 0) gc gt gu gd m = true) := hb1
  have HB2 : Hid (decOk L2.length (fun i => L2.getD i 0) gc gt gu gd m = true) := hb2
  have HR1 : Hid (rowC (decK L1.length (fun i => L1.getD i 0) gc gt gu gd) (decNm L1.length (fun i => L1.getD i 0) gc gt gu gd) (decS L1.length (fun i => L1.getD i 0) gc gt gu gd) m = rowC fk fn fs m) := hr1
  have HR2 : Hid (rowC (decK L2.length (fun i => L2.getD i 0) gc gt gu gd) (decNm L2.length (fun i => L2.getD i 0) gc gt gu gd) (decS L2.length (fun i => L2.getD i 0) gc gt gu gd) m = rowC fk' fn' fs' m) := hr2
  have HP : Hid (planOk m gc gt = true) := hpk
  have HF : Hid (fitsAllI m m gt gu fk fn fs = true) := by show _ = _; rw [fitsAllI_ok hpk]; exact hfa
  have hq1 : (lk == lk) = true := by cases lk <;> rfl
  have hq2 : (s == s) = true := by cases s <;> rfl
  clear hD hok hpk hfa hfa' hL1 hL2 e1 e2 hb1 hb2 hr1 hr2 hTK hs hlk hv0
  go_wp2_with fail
  refine (implEncodeKey_any a m cp gc gt gu gd a1 m c1 fk fn fs _ hp hv (by omega) (by omega)).mono ?_
  rw [H1.out]
  rintro e w3 ⟨gx, cx, rfl, hE⟩
  have hx := hE.row
  have chx := hE.le
  have hb := hE.below
  clear hE
  replace hp := hp.below hb
  replace hv := hv.below hb
  replace hv' := hv'.below hb
  replace hB := hB.trans (hb.mono hB.size)
  clear hb
  go_wp2_with fail
  refine (implEncodeKey_any a m cp gc gt gu gd a2 m c2 fk' fn' fs' _ hp hv' (by omega) (by omega)).mono ?_
  rw [H2.out]
  rintro e w4 ⟨gy, cy, rfl, hE⟩
  have hy := hE.row
  have chy := hE.le
  have hb := hE.below
  clear hE
  replace hp := hp.below hb
  replace hv := hv.below hb
  replace hv' := hv'.below hb
  replace hx := hx.belowAll hb
  replace hB := hB.trans (hb.mono hB.size)
  clear hb
  have hV := hx.view chx hby1
  go_wp2_with fail
  refine (implDecodeKey_any a m cp gc gt gu gd gx 0 L1.length cx (fun i => L1.getD i 0) _ hp hV (by omega) (by omega)).mono ?_
  rintro e w5 ⟨v1, M0, he, hne, hM0, hO, hb⟩
  clear hV
  rw [HB1.out] at he hM0
  have hM1 : M0 = m := hM0
  rw [hM1] at hO
  clear hM0 hM1
  rw [HR1.out] at hO
  obtain ⟨au1, cu1, rfl, hu, -⟩ := vview_of_own hO
  subst he
  clear hO hne
  replace hp := hp.below hb
  replace hv := hv.below hb
  replace hv' := hv'.below hb
  replace hx := hx.belowAll hb
  replace hy := hy.belowAll hb
  replace hB := hB.trans (hb.mono hB.size)
  clear hb
  have hV := hy.view chy hby2
  go_wp2_with fail
  refine (implDecodeKey_any a m cp gc gt gu gd gy 0 L2.length cy (fun i => L2.getD i 0) _ hp hV (by omega) (by omega)).mono ?_
  rintro e w6 ⟨v2, M0, he, hne, hM0, hO, hb⟩
  clear hV
  rw [HB2.out] at he hM0
  have hM1 : M0 = m := hM0
  rw [hM1] at hO
  clear hM0 hM1
  rw [HR2.out] at hO
  obtain ⟨au2, cu2, rfl, hu', -⟩ := vview_of_own hO
  subst he
  clear hO hne
  replace hp := hp.below hb
  replace hv := hv.below hb
  replace hv' := hv'.below hb
  replace hx := hx.belowAll hb
  replace hy := hy.belowAll hb
  replace hu := hu.below hb
  replace hB := hB.trans (hb.mono hB.size)
  clear hb
  go_wp2_with fail
  refine (sameRow_impl _ _ m m _ _ fk fn fs fk fn fs _ hu hv (by omega) (by omega)).mono ?_
  rw [rowEq_self]
  rintro e w7 ⟨rfl, hb⟩
  replace hp := hp.below hb
  replace hv := hv.below hb
  replace hv' := hv'.below hb
  replace hx := hx.belowAll hb
  replace hy := hy.belowAll hb
  replace hu := hu.below hb
  replace hu' := hu'.below hb
  replace hB := hB.trans (hb.mono hB.size)
  clear hb
  go_wp2_with fail
  refine (sameRow_impl _ _ m m _ _ fk' fn' fs' fk' fn' fs' _ hu' hv' (by omega) (by omega)).mono ?_
  rw [rowEq_self]
  rintro e w8 ⟨rfl, hb⟩
  replace hp := hp.below hb
  replace hv := hv.below hb
  replace hv' := hv'.below hb
  replace hx := hx.belowAll hb
  replace hy := hy.belowAll hb
  replace hu := hu.below hb
  replace hu' := hu'.below hb
  replace hB := hB.trans (hb.mono hB.size)
  clear hb
  clear hu hu'
  go_wp2_with fail
  refine (implPlanOk_any a m cp gc gt gu gd _ hp).mono ?_
  rw [HP.out]
  rintro e w9 ⟨rfl, hb⟩
  replace hp := hp.below hb
  replace hv := hv.below hb
  replace hv' := hv'.below hb
  replace hx := hx.belowAll hb
  replace hy := hy.belowAll hb
  replace hB := hB.trans (hb.mono hB.size)
  clear hb
  go_wp2_with fail
  refine (implFitsAll_any a m cp gc gt gu gd a1 m c1 fk fn fs _ hp hv (by omega) (by omega)).mono ?_
  rw [HF.out]
  rintro e w10 ⟨rfl, hb⟩
  replace hp := hp.below hb
  replace hv := hv.below hb
  replace hv' := hv'.below hb
  replace hx := hx.belowAll hb
  replace hy := hy.belowAll hb
  replace hB := hB.trans (hb.mono hB.size)
  clear hb
  go_wp2_with fail
  refine (sameRow_impl _ _ m m _ _ fk fn fs fk' fn' fs' _ hv hv' (by omega) (by omega)).mono ?_
  rw [HS.out]
  rintro e w11 ⟨rfl, hb⟩
  replace hp := hp.below hb
  replace hv := hv.below hb
  replace hv' := hv'.below hb
  replace hx := hx.belowAll hb
  replace hy := hy.belowAll hb
  replace hB := hB.trans (hb.mono hB.size)
  clear hb
  have hVx := hx.view chx hby1
  have hVy := hy.view chy hby2
  go_wp2_with fail
  refine (before_impl gx 0 L1.length cx _ gy 0 L2.length cy _ _ hVx hVy).mono ?_
  rw [HT.out.ah]
  rintro e _ ⟨rfl, rfl⟩
  clear hVx hVy
  go_wp2_with fail
  refine (implLessKey_any a m cp gc gt gu gd a1 m c1 fk fn fs a2 m c2 fk' fn' fs' _ hp hv hv' (by omega) (by omega) (by omega)).mono ?_
  rw [HLK.out]
  rintro e w12 ⟨rfl, hb⟩
  replace hp := hp.below hb
  replace hv := hv.below hb
  replace hv' := hv'.below hb
  replace hx := hx.belowAll hb
  replace hy := hy.belowAll hb
  replace hB := hB.trans (hb.mono hB.size)
  clear hb
  clear hp hv hv'
  have hVx := hx.view chx hby1
  have hVy := hy.view chy hby2
  go_wp2_with fail
  refine (sameBytes_any _ _ L1.length L2.length cx cy _ _ _ hVx hVy (by omega) (by omega)).mono ?_
  rw [HT.out.same]
  rintro e w13 ⟨rfl, hb⟩
  replace hx := hx.belowAll hb
  replace hy := hy.belowAll hb
  replace hB := hB.trans (hb.mono hB.size)
  clear hb
  clear hVx hVy
  cases s with
  | true =>
    go_wp2
    go_ret
    exact ⟨rfl, hB⟩
  | false =>
    have hVx := hx.view chx hby1
    have hVy := hy.view chy hby2
    go_wp2_with fail
    refine (begins_any gx 0 L1.length cx _ L2.length cy _ _ _ hVx hVy (by omega)).mono ?_
    rw [HT.out.no1 rfl]
    rintro e w14 ⟨rfl, hb⟩
    replace hx := hx.belowAll hb
    replace hy := hy.belowAll hb
    replace hB := hB.trans (hb.mono hB.size)
    clear hb
    clear hVx hVy
    have hVx := hx.view chx hby1
    have hVy := hy.view chy hby2
    go_wp2_with fail
    refine (begins_any gy 0 L2.length cy _ L1.length cx _ _ _ hVy hVx (by omega)).mono ?_
    rw [HT.out.no2 rfl]
    rintro e w15 ⟨rfl, hb⟩
    replace hx := hx.belowAll hb
    replace hy := hy.belowAll hb
    replace hB := hB.trans (hb.mono hB.size)
    clear hb
    clear hVx hVy
    go_wp2
    go_ret
    exact ⟨rfl, hB⟩
end Go.Proofs.Ytclegljalndaeac

