/-
  The program's GetEsc: what is read of the bytes as a text in order, at every slice of bytes that reads and at every place.
-/
import Derived.Test.YthjddmhcppdleabEscOwn
import Derived.WalkSpells
namespace Go.Proofs.Ythjddmhcppdleab
open Go.RowKit

theorem retE {s s' : ByteArray} {b b' : Int} {c c' : Bool} (h1 : s = s') (h2 : b = b') (h3 : c = c') :
    Ending.returned (.tuple #[.string s, .int .i64 b, .bool c]) = .returned (.tuple #[.string s', .int .i64 b', .bool c']) := by rw [h1, h2, h3]

theorem snoc_byte {l : List Int} (h : ∀ y ∈ l, 0 ≤ y ∧ y ≤ 255) (x : Int) (h0 : 0 ≤ x) (h1 : x ≤ 255) : ∀ y ∈ l ++ [x], 0 ≤ y ∧ y ≤ 255 := by
  intro y hy
  rcases List.mem_append.1 hy with hy | hy
  · exact h y hy
  · simp at hy; omega

set_option maxHeartbeats 2000000 in
theorem getEsc_impl (ao : Option Addr) (n cap : Nat) (f : Nat → Int) (p : Int) (w : World) (s : ByteArray) (q : Int) (ok : Bool) (hg : Hid (getE n f p = (s, q, ok))) (hv : View w ao n cap f) (hn : n ≤ 17592186044416) (hp1 : p ≤ 9223372036854775807) :
    Calls Try.prog 9 #[.slice ao n cap, .int .i64 p] w fun e w' => e = .returned (.tuple #[.string s, .int .i64 q, .bool ok]) ∧ Below w.heap.size w w' := by
  by_cases hp : p < 0
  · have := hg.out
    rw [getE_neg n f p hp] at this
    cases this
    go_enter Try.func9, Try.ntmps9
    go_wp2
    go_ret3
    exact ⟨rfl, Below.refl _ _⟩
  obtain ⟨p, rfl⟩ := Int.eq_ofNat_of_zero_le (Int.not_lt.1 hp)
  obtain ⟨i0, hi, hz0, hz1, hz2⟩ := info_parts Try.info5
  have hown0 : w.ownsRow w.heap.size 5 1 (.slice none 0 0) 0 (bl []) := ⟨rfl, .inl ⟨rfl, rfl⟩⟩
  go_enter Try.func9, Try.ntmps9
  go_wp2
  go_loopg [7, 8] (n - p) (fun g v i wr => ∃ (k : Nat) (acc : List Int), g = n - k ∧ i = .int .i64 k ∧ (k : Int) ≤ 9223372036854775807 ∧ acc.length + p ≤ k ∧ Seen n f p k acc ∧ (∀ y ∈ acc, 0 ≤ y ∧ y ≤ 255) ∧ wr.ownsRow w.heap.size 5 1 v acc.length (bl acc) ∧ Below w.heap.size w wr)
  case atStart => exact ⟨p, [], rfl, rfl, hp1, by simp, Seen.start n f p, (fun y hy => by cases hy), hown0, Below.refl _ _⟩
  case round =>
    obtain ⟨k, acc, rfl, rfl, hk63, hak, hsn, hyb, hown, hB⟩ := hrel
    clear hown0
    have HS : Hid (Seen n f p k acc) := hsn
    have HY : Hid (∀ y ∈ acc, 0 ≤ y ∧ y ≤ 255) := hyb
    clear hsn hyb
    by_cases hlt : k + 1 < n
    · obtain ⟨b, off, rfl, hb, hc⟩ := hv.cells (by omega)
      have hkz : (k : Int) < (n : Int) - 1 := by omega
      have hkz1 : (k : Int) + 1 < (n : Int) := by omega
      have hc0 : wr.cell? ⟨b, off + k, none⟩ = some (.int .u8 (f k)) := by rw [hB.cell (p := ⟨b, off + k, none⟩) hb]; exact hc k (by omega)
      have hc1 : wr.cell? ⟨b, off + (k + 1), none⟩ = some (.int .u8 (f (k + 1))) := by rw [hB.cell (p := ⟨b, off + (k + 1), none⟩) hb]; exact hc (k + 1) hlt
      have hb0 := hv.byte k (by omega)
      obtain ⟨hb00, hb01⟩ := hb0
      have hcv : (convert 22 9 u7).run Try.prog wr = .ok (.string (strOfNums acc)) wr := conv_own hown rfl HY.out
      clear hc
      by_cases h0 : f k = 0
      · have H0 : Hid (f k = 0) := h0
        rw [h0] at hc0
        clear h0 hb00 hb01
        by_cases h1 : f (k + 1) = 1
        · have HG := hg.out
          rw [getE_some (HS.out.ends hlt H0.out h1)] at HG
          cases HG
          rw [h1] at hc1
          go_wp2
          go_ret3
          have := HS.out.1
          exact ⟨retE rfl (by omega) rfl, hB⟩
        · by_cases h2 : f (k + 1) = 255
          · have HS2 : Hid (Seen n f p (k + 2) (acc ++ [0])) := HS.out.goes hlt H0.out h2
            rw [h2] at hc1
            clear hcv
            go_wp2_with (at_builtin; go_must (refine wpList_append_own _ rfl (.tmp 50) (.tmp 51) 22 rfl w.heap.size 5 i0 (.int .u8 0) 1 1 Try.underlying22 hi hz0 hz1 hz2 rfl (by decide) u7 _ _ rfl (hown.alloc _) ⟨wr.heap.size, 0, none⟩ 1 1 [.int .u8 0] rfl rfl (cellNew _ _ _) (bl_one [0]) (by unfold maxLen; omega) (by omega) (by have := hB.size; simp; omega) ?_); intro v2 w2 hown2 hgr2 _)
            have hB2 : Below w.heap.size w w2 := (hB.alloc hB.size _).grown hgr2 (by have := hB.size; simp; omega) (fun k hk => (hown.lt k hk).1)
            have hO2 : w2.ownsRow w.heap.size 5 1 v2 (acc ++ [0]).length (bl (acc ++ [0])) := by
              rw [List.length_append, bl_append]
              exact hown2
            clear hgr2 hown hown2 hB
            go_wp2
            go_roundg (n - (k + 2))
            case measure => omega
            case rel => exact ⟨k + 2, acc ++ [0], rfl, by go_num, by omega, by simp; omega, HS2.out, snoc_byte HY.out 0 (by omega) (by omega), hO2, hB2⟩
          · have HG := hg.out
            rw [getE_none (HS.out.wrong hlt H0.out h1 h2)] at HG
            cases HG
            have q1 : (f (k + 1) == 1) = false := by simpa using h1
            have q2 : (f (k + 1) == 255) = false := by simpa using h2
            clear h1 h2 hcv
            go_wp2
            go_ret3
            exact ⟨rfl, hB⟩
      · have q0 : (f k != 0) = true := by simpa using h0
        have HS2 : Hid (Seen n f p (k + 1) (acc ++ [f k])) := HS.out.plain hlt h0
        clear h0 hcv hc1
        go_wp2_with (at_builtin; go_must (refine wpList_append_own _ rfl (.tmp 25) (.tmp 30) 22 rfl w.heap.size 5 i0 (.int .u8 0) 1 1 Try.underlying22 hi hz0 hz1 hz2 rfl (by decide) u7 _ _ rfl (hown.alloc _) ⟨wr.heap.size, 0, none⟩ 1 1 [.int .u8 (f k)] rfl rfl (cellNew _ _ _) (bl_one [f k]) (by unfold maxLen; omega) (by omega) (by have := hB.size; simp; omega) ?_); intro v2 w2 hown2 hgr2 _)
        have hB2 : Below w.heap.size w w2 := (hB.alloc hB.size _).grown hgr2 (by have := hB.size; simp; omega) (fun k hk => (hown.lt k hk).1)
        have hO2 : w2.ownsRow w.heap.size 5 1 v2 (acc ++ [f k]).length (bl (acc ++ [f k])) := by
          rw [List.length_append, bl_append]
          exact hown2
        clear hgr2 hown hown2 hB
        go_wp2
        go_roundg (n - (k + 1))
        case measure => omega
        case rel => exact ⟨k + 1, acc ++ [f k], rfl, by go_num, by omega, by simp; omega, HS2.out, snoc_byte HY.out (f k) hb00 hb01, hO2, hB2⟩
    · have hkz : (n : Int) - 1 ≤ (k : Int) := by omega
      have HG := hg.out
      rw [getE_none (HS.out.past (by omega))] at HG
      cases HG
      go_wp2
      go_ret3
      exact ⟨rfl, hB⟩
end Go.Proofs.Ythjddmhcppdleab
