/-
  The model's GetEsc: what is read of the bytes as a text in order, at every slice of bytes that reads and at every place.
-/
import Derived.Test.YthjddmhcppdleabGetEscImpl
namespace Go.Proofs.Ythjddmhcppdleab
open Go.RowKit

set_option maxHeartbeats 2000000 in
theorem getEsc_spec (ao : Option Addr) (n cap : Nat) (f : Nat → Int) (p : Int) (w : World) (s : ByteArray) (q : Int) (ok : Bool) (hg : Hid (getE n f p = (s, q, ok))) (hv : View w ao n cap f) (hn : n ≤ 17592186044416) (hp1 : p ≤ 9223372036854775807) :
    Calls Try.prog 13 #[.slice ao n cap, .int .i64 p] w fun e w' => e = .returned (.tuple #[.string s, .int .i64 q, .bool ok]) ∧ Below w.heap.size w w' := by
  by_cases hp : p < 0
  · have := hg.out
    rw [getE_neg n f p hp] at this
    cases this
    go_enter Try.func13, Try.ntmps13
    go_wp2
    go_ret3
    exact ⟨rfl, (Below.refl _ _).alloc (Nat.le_refl _) _⟩
  obtain ⟨p, rfl⟩ := Int.eq_ofNat_of_zero_le (Int.not_lt.1 hp)
  obtain ⟨i0, hi, hz0, hz1, hz2⟩ := info_parts Try.info5
  have hown0 := World.ownsRow_lit (base := w.heap.size) (e := 5) (size := 1) w #[] 0 (Nat.le_refl _) (Nat.zero_le _) rfl
  have hb0 : Below w.heap.size w (w.alloc (.cells #[] 5)) := (Below.refl _ _).alloc (Nat.le_refl _) _
  go_enter Try.func13, Try.ntmps13
  go_wp2
  go_loopg [1, 7] (n - p) (fun g i v wr => ∃ (k : Nat) (acc : List Int), g = n - k ∧ i = .int .i64 k ∧ (k : Int) ≤ 9223372036854775807 ∧ acc.length + p ≤ k ∧ Seen n f p k acc ∧ (∀ y ∈ acc, 0 ≤ y ∧ y ≤ 255) ∧ wr.ownsRow w.heap.size 5 1 v acc.length (bl acc) ∧ Below w.heap.size w wr)
  case atStart => exact ⟨p, [], rfl, rfl, hp1, by simp, Seen.start n f p, (fun y hy => by cases hy), hown0, hb0⟩
  case round =>
    obtain ⟨k, acc, rfl, rfl, hk63, hak, hsn, hyb, hown, hB⟩ := hrel
    clear hown0 hb0
    have HS : Hid (Seen n f p k acc) := hsn
    have HY : Hid (∀ y ∈ acc, 0 ≤ y ∧ y ≤ 255) := hyb
    clear hsn hyb
    by_cases hend : k < n
    · obtain ⟨b, off, rfl, hb, hc⟩ := hv.cells (by omega)
      have hkz : (k : Int) < (n : Int) := by omega
      have hc0 : wr.cell? ⟨b, off + k, none⟩ = some (.int .u8 (f k)) := by rw [hB.cell (p := ⟨b, off + k, none⟩) hb]; exact hc k (by omega)
      obtain ⟨hb00, hb01⟩ := hv.byte k hend
      by_cases h0 : f k = 0
      · have H0 : Hid (f k = 0) := h0
        rw [h0] at hc0
        clear h0 hb00 hb01
        by_cases hlt : k + 1 < n
        · have hkz1 : (k : Int) + 1 < (n : Int) := by omega
          have hne : ((k : Int) + 1 == (n : Int)) = false := by simp; omega
          have hc1 : wr.cell? ⟨b, off + (k + 1), none⟩ = some (.int .u8 (f (k + 1))) := by rw [hB.cell (p := ⟨b, off + (k + 1), none⟩) hb]; exact hc (k + 1) hlt
          have hcv : (convert 22 9 u7).run Try.prog wr = .ok (.string (strOfNums acc)) wr := conv_own hown rfl HY.out
          clear hc
          by_cases h1 : f (k + 1) = 1
          · have HG := hg.out
            rw [getE_some (HS.out.ends hlt H0.out h1)] at HG
            cases HG
            rw [h1] at hc1
            go_wp2
            go_ret3
            have := HS.out.1
            exact ⟨retE rfl (by omega) rfl, hB⟩
          · by_cases h2 : f (k + 1) = 255
            · have HS2 : Hid (Seen n f p (k + 2) (acc ++ [0])) := HS.out.goes hlt H0.out h2
              rw [h2] at hc1
              clear hcv
              go_wp2_with (at_builtin; go_must (refine wpList_append_own _ rfl (.tmp 59) (.tmp 60) 22 rfl w.heap.size 5 i0 (.int .u8 0) 1 1 Try.underlying22 hi hz0 hz1 hz2 rfl (by decide) u7 _ _ rfl (hown.alloc _) ⟨wr.heap.size, 0, none⟩ 1 1 [.int .u8 0] rfl rfl (cellNew _ _ _) (bl_one [0]) (by unfold maxLen; omega) (by omega) (by have := hB.size; simp; omega) ?_); intro v2 w2 hown2 hgr2 _)
              have hB2 : Below w.heap.size w w2 := (hB.alloc hB.size _).grown hgr2 (by have := hB.size; simp; omega) (fun k hk => (hown.lt k hk).1)
              have hO2 : w2.ownsRow w.heap.size 5 1 v2 (acc ++ [0]).length (bl (acc ++ [0])) := by
                rw [List.length_append, bl_append]
                exact hown2
              clear hgr2 hown hown2 hB
              go_wp2
              go_roundg (n - (k + 2))
              case measure => omega
              case rel => exact ⟨k + 2, acc ++ [0], rfl, by go_num, by omega, by simp; omega, HS2.out, snoc_byte HY.out 0 (by omega) (by omega), hO2, hB2⟩
            · have HG := hg.out
              rw [getE_none (HS.out.wrong hlt H0.out h1 h2)] at HG
              cases HG
              have q1 : (f (k + 1) != 1) = true := by simpa using h1
              have q2 : (f (k + 1) != 255) = true := by simpa using h2
              clear h1 h2 hcv
              go_wp2
              go_ret3
              exact ⟨rfl, hB⟩
        · have HG := hg.out
          rw [getE_none (HS.out.past (by omega))] at HG
          cases HG
          have hne : ((k : Int) + 1 == (n : Int)) = true := by simp; omega
          clear hc
          go_wp2
          go_ret3
          exact ⟨rfl, hB⟩
      · have q0 : (f k != 0) = true := by simpa using h0
        have HS2 : Hid (Seen n f p (k + 1) (acc ++ [f k])) := by
          by_cases hlt : k + 1 < n
          · exact HS.out.plain hlt h0
          · exact HS.out.last (by omega) _
        clear h0 hc
        go_wp2_with (at_builtin; go_must (refine wpList_append_own _ rfl (.tmp 22) (.tmp 24) 22 rfl w.heap.size 5 i0 (.int .u8 0) 1 1 Try.underlying22 hi hz0 hz1 hz2 rfl (by decide) u7 _ _ rfl (hown.alloc _) ⟨wr.heap.size, 0, none⟩ 1 1 [.int .u8 (f k)] rfl rfl (cellNew _ _ _) (bl_one [f k]) (by unfold maxLen; omega) (by omega) (by have := hB.size; simp; omega) ?_); intro v2 w2 hown2 hgr2 _)
        have hB2 : Below w.heap.size w w2 := (hB.alloc hB.size _).grown hgr2 (by have := hB.size; simp; omega) (fun k hk => (hown.lt k hk).1)
        have hO2 : w2.ownsRow w.heap.size 5 1 v2 (acc ++ [f k]).length (bl (acc ++ [f k])) := by
          rw [List.length_append, bl_append]
          exact hown2
        clear hgr2 hown hown2 hB
        go_wp2
        go_roundg (n - (k + 1))
        case measure => omega
        case rel => exact ⟨k + 1, acc ++ [f k], rfl, by go_num, by omega, by simp; omega, HS2.out, snoc_byte HY.out (f k) hb00 hb01, hO2, hB2⟩
    · have hkz : (n : Int) ≤ (k : Int) := by omega
      have HG := hg.out
      rw [getE_none (HS.out.past (by omega))] at HG
      cases HG
      go_wp2
      go_ret3
      exact ⟨rfl, hB⟩
end Go.Proofs.Ythjddmhcppdleab
