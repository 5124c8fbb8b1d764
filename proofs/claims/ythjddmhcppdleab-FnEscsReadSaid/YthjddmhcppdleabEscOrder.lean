/-
  Texts in order, plainly: they come back of their bytes; the order of the bytes is theirs; none is the beginning of another one.
-/
import Derived.Test.YthjddmhcppdleabBefore
import Derived.Test.YthjddmhcppdleabEscPlain
namespace Go.Proofs.Ythjddmhcppdleab
open Go.RowKit

theorem byteBack (b : UInt8) : UInt8.ofNat ((b.toNat : Int)).toNat = b := by simp
theorem strOfNums_sl (s : ByteArray) : strOfNums (sl s) = s := by
  apply ByteArray.ext
  apply Array.toList_inj.1
  rw [strOfNums_data]
  unfold sl
  rw [List.map_map]
  conv => rhs; rw [← List.map_id s.data.toList]
  apply List.map_congr_left
  intro b _
  exact byteBack b
theorem sl_inj {s t : ByteArray} (h : sl s = sl t) : s = t := by rw [← strOfNums_sl s, ← strOfNums_sl t, h]

def escU : List UInt8 → List UInt8
  | [] => []
  | x :: xs => (if x = 0 then [0, 255] else [x]) ++ escU xs

theorem less_esc : ∀ a b : List UInt8, Op.bytesLess (escU a ++ [0, 1]) (escU b ++ [0, 1]) = Op.bytesLess a b
  | [], [] => by decide
  | [], y :: ys => by
    by_cases h : y = 0
    · subst h; simp [escU, Op.bytesLess]
    · have h0 : (0 : UInt8) < y := by
        rw [UInt8.lt_iff_toNat_lt]
        have : y.toNat ≠ 0 := fun e => h (UInt8.toNat_inj.1 e)
        show 0 < y.toNat
        omega
      simp [escU, Op.bytesLess, h, h0]
  | x :: xs, [] => by
    by_cases h : x = 0
    · subst h; simp [escU, Op.bytesLess]
    · simp [escU, Op.bytesLess, h]
  | x :: xs, y :: ys => by
    have ih := less_esc xs ys
    by_cases hx : x = 0
    · by_cases hy : y = 0
      · subst hx hy
        simp [escU, Op.bytesLess, ih]
      · subst hx
        have h0 : (0 : UInt8) < y := by
          rw [UInt8.lt_iff_toNat_lt]
          have : y.toNat ≠ 0 := fun e => hy (UInt8.toNat_inj.1 e)
          show 0 < y.toNat
          omega
        simp [escU, Op.bytesLess, hy, h0]
    · by_cases hy : y = 0
      · subst hy
        have hb : (x == 0) = false := by simpa using hx
        simp [escU, Op.bytesLess, hx, hb]
      · simp [escU, Op.bytesLess, hx, hy, ih]

theorem escL_U : ∀ l : List UInt8, (escL (l.map (fun b => (b.toNat : Int)))).map (fun n => UInt8.ofNat n.toNat) = escU l
  | [] => rfl
  | x :: xs => by
    have ih := escL_U xs
    simp only [List.map_cons, escL, List.map_append, ih, escU]
    congr 1
    by_cases h : x = 0
    · subst h; simp [esc1]
    · have : ((x.toNat : Int)) ≠ 0 := by
        intro e
        apply h
        apply UInt8.toNat_inj.1
        show x.toNat = 0
        omega
      unfold esc1
      rw [if_neg this, if_neg h]
      simp

theorem esc_ahead (s t : ByteArray) : ahead (escL (sl s) ++ [0, 1]) (escL (sl t) ++ [0, 1]) = Op.bytesLess s.toList t.toList := by
  unfold ahead
  rw [toList_data, toList_data, toList_data, toList_data, strOfNums_data, strOfNums_data, List.map_append, List.map_append]
  unfold sl
  rw [escL_U, escL_U]
  exact less_esc _ _

theorem esc_prefix {a b rest : List Int} (h : escL a ++ [0, 1] = (escL b ++ [0, 1]) ++ rest) : a = b := by
  have h1 := readE_put a []
  have h2 := readE_put b rest
  rw [h, List.append_assoc] at h1
  rw [show [0, 1] ++ rest = 0 :: 1 :: rest from rfl, h2] at h1
  cases h1
  rfl

theorem fromL_drop (l : List Int) (k : Nat) : fromL l.length (fun i => l.getD i 0) k = l.drop k := by
  unfold fromL lof
  apply List.ext_getElem
  · simp
  · intro i h1 h2
    simp at h1
    have : k + i < l.length := by omega
    simp [this]

theorem getE_putE (m : Nat) (f : Nat → Int) (s : ByteArray) : getE (m + escN s) (fun i => (escT m f s).getD i 0) (m : Int) = (s, ((m + escN s : Nat) : Int), true) := by
  have h := fromL_drop (escT m f s) m
  rw [escT_len] at h
  have h2 : readE (fromL (m + escN s) (fun i => (escT m f s).getD i 0) m) = some (sl s, escN s) := by
    rw [h]
    unfold escT
    rw [List.drop_left' (lof_len m f)]
    exact readE_put (sl s) []
  rw [getE_some h2, strOfNums_sl]
  simp

end Go.Proofs.Ythjddmhcppdleab
