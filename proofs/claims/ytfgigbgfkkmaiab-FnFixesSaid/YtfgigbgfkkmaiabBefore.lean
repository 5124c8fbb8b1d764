/-
  Before, the program's: whether bytes are ahead of others, as texts are.
-/
import Derived.Test.YtfgigbgfkkmaiabConv
import Derived.Lib.BytesEntry
namespace Go.Proofs.Ytfgigbgfkkmaiab
open Go.RowKit

theorem cmp_lt : ∀ a b : List UInt8, decide (Lib.compareBytes a b < 0) = Op.bytesLess a b
  | [], [] => by simp [Lib.compareBytes, Op.bytesLess]
  | [], _ :: _ => by simp [Lib.compareBytes, Op.bytesLess]
  | _ :: _, [] => by simp [Lib.compareBytes, Op.bytesLess]
  | x :: xs, y :: ys => by
    have ih := cmp_lt xs ys
    simp only [Lib.compareBytes, Op.bytesLess]
    by_cases h1 : x < y
    · simp [h1]
    · by_cases h2 : y < x
      · have hne : (x == y) = false := by
          simp only [beq_eq_false_iff_ne, ne_eq]
          intro e; subst e; exact h1 h2
        simp [h1, h2, hne]
      · have he : x = y := by
          apply UInt8.toNat_inj.1
          simp only [UInt8.lt_iff_toNat_lt] at h1 h2
          omega
        subst he
        simp [h1, ih]

theorem bytes_view {w : World} {b off n cap : Nat} {f : Nat → Int} (hv : View w (some ⟨b, off, none⟩) n cap f) :
    (Extern.Bytes.bytesOf (.slice (some ⟨b, off, none⟩) n cap)).run Try.prog w = .ok (strOfNums (lof n f)) w := by
  have hl := Lib.run_loadBytesX (P := Try.prog) w (lof n f) ⟨b, off, none⟩ .empty (fun j x hj => by
    have hjl : j < (lof n f).length := (List.getElem?_eq_some_iff.1 hj).1
    rw [lof_len] at hjl
    obtain ⟨b', off', e', _, hc⟩ := hv.cells (by omega)
    simp only [Option.some.injEq, Addr.mk.injEq, and_true] at e'
    obtain ⟨rfl, rfl⟩ := e'
    have e : (⟨b, off, none⟩ : Addr).add j = ⟨b, off + j, none⟩ := by unfold Addr.add; split <;> simp_all
    rw [e, hc j hjl]
    have hg : (lof n f).getD j 0 = x := by rw [List.getD_eq_getElem?_getD, hj]; rfl
    rw [← hg, lof_get n f j hjl])
  rw [lof_len] at hl
  have he : (⟨ByteArray.empty.data ++ (Lib.bytesOf (lof n f)).toArray⟩ : ByteArray) = strOfNums (lof n f) := by
    apply ByteArray.ext
    show (#[] : Array UInt8) ++ (Lib.bytesOf (lof n f)).toArray = (strOfNums (lof n f)).data
    simp [strOfNums, Lib.bytesOf]
  rw [he] at hl
  exact hl

theorem run_compareS {w : World} {b1 o1 n c1 : Nat} {f : Nat → Int} {b2 o2 m c2 : Nat} {g : Nat → Int} (h1 : View w (some ⟨b1, o1, none⟩) n c1 f) (h2 : View w (some ⟨b2, o2, none⟩) m c2 g) :
    (Extern.BytealgCompare.compare #[.slice (some ⟨b1, o1, none⟩) n c1, .slice (some ⟨b2, o2, none⟩) m c2]).run Try.prog w = .ok (.int .i64 (Lib.compareBytes (strOfNums (lof n f)).data.toList (strOfNums (lof m g)).data.toList)) w := by
  change Sem.run Try.prog (do pure (goInt (Extern.BytealgCompare.cmp (← Extern.Bytes.bytesOf (.slice (some ⟨b1, o1, none⟩) n c1)) (← Extern.Bytes.bytesOf (.slice (some ⟨b2, o2, none⟩) m c2))))) w = _
  simp only [Sem.run_bind, Sem.run_pure, bytes_view h1, bytes_view h2, Result.andThen]
  rw [Lib.cmp_eq]
  rfl

theorem cmpBytes_any (b1 o1 n c1 : Nat) (f : Nat → Int) (b2 o2 m c2 : Nat) (g : Nat → Int) (w : World) (h1 : View w (some ⟨b1, o1, none⟩) n c1 f) (h2 : View w (some ⟨b2, o2, none⟩) m c2 g) :
    Calls Try.prog 37 #[.slice (some ⟨b1, o1, none⟩) n c1, .slice (some ⟨b2, o2, none⟩) m c2] w fun e w' => e = .returned (.int .i64 (Lib.compareBytes (strOfNums (lof n f)).data.toList (strOfNums (lof m g)).data.toList)) ∧ w = w' := by
  have q := run_compareS h1 h2
  have q2 : (callFunc 54 #[.slice (some ⟨b1, o1, none⟩) n c1, .slice (some ⟨b2, o2, none⟩) m c2]).run Try.prog w = .ok (.value (.int .i64 (Lib.compareBytes (strOfNums (lof n f)).data.toList (strOfNums (lof m g)).data.toList))) w := by
    rw [run_callFunc_extern (e := Extern.BytealgCompare.compare) Try.func54 (by kernel_rfl) (by kernel_rfl) (by kernel_rfl) (by kernel_rfl), q]
    rfl
  go_enter Try.func37, Try.ntmps37
  go_wp2
  go_ret
  exact ⟨rfl, rfl⟩

/-- Whether the bytes of the one are ahead of the other's. -/
def ahead (l k : List Int) : Bool := Op.bytesLess (strOfNums l).toList (strOfNums k).toList

theorem toList_data (s : ByteArray) : s.toList = s.data.toList := ByteArray.toList_eq s

theorem before_impl (b1 o1 n c1 : Nat) (f : Nat → Int) (b2 o2 m c2 : Nat) (g : Nat → Int) (w : World) (h1 : View w (some ⟨b1, o1, none⟩) n c1 f) (h2 : View w (some ⟨b2, o2, none⟩) m c2 g) :
    Calls Try.prog 13 #[.slice (some ⟨b1, o1, none⟩) n c1, .slice (some ⟨b2, o2, none⟩) m c2] w fun e w' => e = .returned (.bool (ahead (lof n f) (lof m g))) ∧ w = w' := by
  have he : ahead (lof n f) (lof m g) = decide (Lib.compareBytes (strOfNums (lof n f)).data.toList (strOfNums (lof m g)).data.toList < 0) := by
    unfold ahead
    rw [cmp_lt, toList_data, toList_data]
  rw [he]
  go_enter Try.func13, Try.ntmps13
  go_wp2_with fail
  refine (cmpBytes_any b1 o1 n c1 f b2 o2 m c2 g w h1 h2).mono ?_
  rintro e _ ⟨rfl, rfl⟩
  go_wp2
  go_ret
  exact ⟨rfl, rfl⟩
end Go.Proofs.Ytfgigbgfkkmaiab
