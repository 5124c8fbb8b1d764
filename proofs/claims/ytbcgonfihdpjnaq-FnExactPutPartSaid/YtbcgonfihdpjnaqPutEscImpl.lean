/-
  The program's PutEsc: what was there, and behind it the text as it is put, in memory of its own.
-/
import Derived.Test.YtbcgonfihdpjnaqRunePlain
import Derived.Test.YtbcgonfihdpjnaqPutBytes
namespace Go.Proofs.Ytbcgonfihdpjnaq
open Go.RowKit
set_option maxRecDepth 4000

/-- Bytes that the call owns stay while a text's iterator is moved on. -/
theorem own_moved {w : World} {B e size n : Nat} {v : Value} {xs : List Value} {k : Nat} {s : ByteArray} {pos : Nat} (h : w.ownsRow B e size v n xs) (hk : w.heap[k]? = some (.stringIter s pos)) (pos' : Nat) : (w.iterAt k s pos').ownsRow B e size v n xs := by
  refine ⟨h.1, ?_⟩
  rcases h.2 with h0 | ⟨g, cap, cur, hv, hb, hg, rest⟩
  · exact .inl h0
  · refine .inr ⟨g, cap, cur, hv, hb, ?_, rest⟩
    rw [Lib.iterAt_other _ _ _ _ _ (fun e => by subst e; rw [hk] at hg; cases hg)]
    exact hg
theorem own_apart {w : World} {B e size n : Nat} {v : Value} {xs : List Value} {k : Nat} {s : ByteArray} {pos : Nat} (h : w.ownsRow B e size v n xs) (hk : w.heap[k]? = some (.stringIter s pos)) : some k ≠ v.ownBlock := by
  rcases h.2 with ⟨rfl, _⟩ | ⟨g, cap, cur, rfl, hb, hg, rest⟩
  · simp [Value.ownBlock]
  · intro e
    simp only [Value.ownBlock, Option.some.injEq] at e
    subst e
    rw [hk] at hg
    cases hg

set_option maxHeartbeats 4000000 in
theorem putEsc_impl (b off n cap : Nat) (f : Nat → Int) (s : ByteArray) (w : World) (hv : View w (some ⟨b, off, none⟩) n cap f) (hn : n ≤ 8796093022208) (hs : s.size ≤ 8796093022208) :
    Calls Try.prog 65 #[.slice (some ⟨b, off, none⟩) n cap, .string s] w fun e w' => ∃ g c, e = .returned (.slice (some ⟨g, 0, none⟩) (n + escN s) c) ∧ w.heap.size ≤ g ∧ n + escN s ≤ c ∧ Row 5 w' g (n + escN s) (fun i => (escT n f s).getD i 0) ∧ Below w.heap.size w w' := by
  obtain ⟨i0, hi, hz0, hz1, hz2⟩ := info_parts Try.info5
  have hown0 : (w.iter s 0).ownsRow w.heap.size 5 1 (.slice none 0 0) 0 (bl []) := ⟨rfl, .inl ⟨rfl, rfl⟩⟩
  have hb0 : Below w.heap.size w (w.iter s 0) := (Below.refl _ _).alloc (Nat.le_refl _) _
  have hit0 : (w.iter s 0).heap[w.heap.size]? = some (.stringIter s 0) := World.iter_heap w s 0
  go_enter Try.func65, Try.ntmps65
  go_wp2
  go_loopg [5, 6] s.size (fun g v fr wr => ∃ (a pos : Nat) (acc : List Int), g = s.size - pos ∧ fr = .int .i64 a ∧ Ranged s a pos acc ∧ wr.ownsRow w.heap.size 5 1 v acc.length (bl acc) ∧ wr.heap[w.heap.size]? = some (.stringIter s pos) ∧ Below w.heap.size w wr)
  case atStart => exact ⟨0, 0, [], rfl, rfl, Ranged.start s, hown0, hit0, hb0⟩
  case round =>
    obtain ⟨a, pos, acc, rfl, rfl, hR, hown, hit, hB⟩ := hrel
    clear hown0 hb0 hit0
    have HR : Hid (Ranged s a pos acc) := hR
    have hle := hR.le
    have hsz := hR.sz
    have hlen := hR.len
    clear hR
    have hsl : (seg s a pos).length = pos - a := seg_len s a pos hsz
    by_cases hlt : pos < s.size
    · have hnx : ∀ ty, (Instr.next (.pointer (some ⟨w.heap.size, 0, none⟩)) true ty).run Try.prog wr = _ := fun ty => Lib.run_next_any_at wr w.heap.size s pos ty hit hlt
      by_cases h0 : (s[pos].toNat : Int) = 0
      · have HR2 : Hid (Ranged s (pos + 1) (pos + 1) ((acc ++ seg s a pos) ++ [0, 255])) := HR.out.zero hlt h0
        rw [rune_z s pos hlt h0] at hnx
        clear h0
        have hit2 := Lib.iterAt_heap wr w.heap.size s pos (pos + 1) hit
        have hB2 := Lib.below_iterAt hB (k := w.heap.size) (Nat.le_refl _) s (pos + 1)
        have hown2 := own_moved hown hit (pos + 1)
        obtain ⟨W, hWd⟩ : ∃ W, wr.iterAt w.heap.size s (pos + 1) = W := ⟨_, rfl⟩
        simp only [hWd] at hnx hit2 hB2 hown2
        clear hown hit hB hWd
        have haz : (a : Int) ≤ (pos : Int) := by omega
        have hpz : (pos : Int) ≤ (s.size : Int) := by omega
        have hxs : (s.extract a pos).size = pos - a := by simp; omega
        go_wp2_with (first | (at_builtin; refine Lib.wpList_append_own_string _ rfl (.tmp 17) (.tmp 21) 22 9 rfl w.heap.size 5 i0 Try.underlying22 Try.underlying9 hi hz0 hz1 hz2 u5 _ _ rfl hown2 (s.extract a pos) rfl (by unfold maxLen; omega) (by omega) hB2.size ?_; intro v3 w3 hown3 hgr3 _) | (at_builtin; refine wpList_append_own _ rfl (.tmp 23) (.tmp 24) 22 rfl w.heap.size 5 i0 (.int .u8 0) 1 1 Try.underlying22 hi hz0 hz1 hz2 rfl (by decide) v3 _ _ rfl (hown3.alloc _) ⟨w3.heap.size, 0, none⟩ 2 2 [.int .u8 0, .int .u8 255] rfl rfl (cellsTwo _ _ _ _) (bl_one [0, 255]) (by unfold maxLen; omega) (by omega) (by have := hB2.size; have := hgr3.size; simp at *; omega) ?_; intro v4 w4 hown4 hgr4 _))
        have hB3 : Below w.heap.size w w3 := hB2.grown hgr3 hB2.size (fun k hk => (hown2.lt k hk).1)
        have hB4 : Below w.heap.size w w4 := (hB3.alloc hB3.size _).grown hgr4 (by have := hB3.size; simp; omega) (fun k hk => (hown3.lt k hk).1)
        have hlk : w.heap.size < W.heap.size := (Array.getElem?_eq_some_iff.1 hit2).1
        have hit3 : w3.heap[w.heap.size]? = some (.stringIter s (pos + 1)) := (hgr3.block w.heap.size hlk (own_apart hown2 hit2)).trans hit2
        have hlk3 : w.heap.size < w3.heap.size := (Array.getElem?_eq_some_iff.1 hit3).1
        have hit4 : w4.heap[w.heap.size]? = some (.stringIter s (pos + 1)) := (hgr4.block w.heap.size (by simp; omega) (own_apart hown3 hit3)).trans ((Below.heap_alloc _ _ _ hlk3).trans hit3)
        have hO4 : w4.ownsRow w.heap.size 5 1 v4 ((acc ++ seg s a pos) ++ [0, 255]).length (bl ((acc ++ seg s a pos) ++ [0, 255])) := by
          rw [List.length_append, List.length_append, bl_append, bl_append, ← seg_sl, ← sl_cells, sl_len]
          exact hown4
        clear hgr3 hgr4 hown2 hown3 hown4 hB2 hit2 hit3 hnx
        go_wp2
        go_roundg (s.size - (pos + 1))
        case measure => omega
        case rel => exact ⟨pos + 1, pos + 1, _, rfl, by go_num, HR2.out, hO4, hit4, hB4⟩
      · obtain ⟨d0, d1, d2, d3⟩ := rune_nz s pos hlt h0
        obtain ⟨R, hRd⟩ : ∃ R, (Utf8.decode s pos).1 = R := ⟨_, rfl⟩
        obtain ⟨K, hKd⟩ : ∃ K, (Utf8.decode s pos).2 = K := ⟨_, rfl⟩
        simp only [hRd, hKd] at hnx d0 d1 d2 d3
        have HR2 : Hid (Ranged s a (pos + K) acc) := HR.out.plain K d2 d3
        have hit2 := Lib.iterAt_heap wr w.heap.size s pos (pos + K) hit
        have hB2 := Lib.below_iterAt hB (k := w.heap.size) (Nat.le_refl _) s (pos + K)
        have hown2 := own_moved hown hit (pos + K)
        have q0 : ((R : Int) == 0) = false := by simp; omega
        obtain ⟨W, hWd⟩ : ∃ W, wr.iterAt w.heap.size s (pos + K) = W := ⟨_, rfl⟩
        simp only [hWd] at hnx hit2 hB2 hown2
        clear hown hit hB hWd h0 d0 d3 hRd hKd
        go_wp2
        go_roundg (s.size - (pos + K))
        case measure => omega
        case rel => exact ⟨a, pos + K, acc, rfl, rfl, HR2.out, hown2, hit2, hB2⟩
    · obtain rfl : pos = s.size := by omega
      have hnx : ∀ ty, (Instr.next (.pointer (some ⟨w.heap.size, 0, none⟩)) true ty).run Try.prog wr = _ := fun ty => Lib.run_next_end_at wr w.heap.size s s.size ty hit hlt
      have HE : Hid (escL (sl s) = acc ++ seg s a s.size) := HR.out.done rfl
      have haz : (a : Int) ≤ (s.size : Int) := by omega
      have hxs : (s.extract a s.size).size = s.size - a := by simp
      have hsb := hB.size
      clear hit
      go_wp2_with (first | (at_builtin; refine Lib.wpList_append_own_string _ rfl (.tmp 28) (.tmp 31) 22 9 rfl w.heap.size 5 i0 Try.underlying22 Try.underlying9 hi hz0 hz1 hz2 u5 _ _ rfl hown (s.extract a s.size) rfl (by unfold maxLen; omega) (by omega) hB.size ?_; intro v3 w3 hown3 hgr3 _) | (at_builtin; refine wpList_append_own _ rfl (.tmp 34) (.tmp 35) 22 rfl w.heap.size 5 i0 (.int .u8 0) 1 1 Try.underlying22 hi hz0 hz1 hz2 rfl (by decide) v3 _ _ rfl (hown3.alloc _) ⟨w3.heap.size, 0, none⟩ 2 2 [.int .u8 0, .int .u8 1] rfl rfl (cellsTwo _ _ _ _) (bl_one [0, 1]) (by unfold maxLen; omega) (by omega) (by have := hB.size; have := hgr3.size; simp at *; omega) ?_; intro v4 w4 hown4 hgr4 _))
      have hB3 : Below w.heap.size w w3 := hB.grown hgr3 hB.size (fun k hk => (hown.lt k hk).1)
      have hB4 : Below w.heap.size w w4 := (hB3.alloc hB3.size _).grown hgr4 (by have := hB3.size; simp; omega) (fun k hk => (hown3.lt k hk).1)
      have hO4 : w4.ownsRow w.heap.size 5 1 v4 (escN s) (bl (escL (sl s) ++ [0, 1])) := by
        unfold escN
        rw [HE.out, List.length_append, bl_append, bl_append, ← seg_sl, ← sl_cells, sl_len]
        exact hown4
      have hE := escN_le s
      obtain ⟨g, c, rfl, hg, hgc, hrow⟩ := row_of_own hO4 (by unfold escN; omega)
      have hyb : ∀ i, i < escN s → 0 ≤ (escL (sl s) ++ [0, 1]).getD i 0 ∧ (escL (sl s) ++ [0, 1]).getD i 0 ≤ 255 := by
        have := escT_at 0 (fun _ => 0) s (fun i hi => absurd hi (Nat.not_lt_zero _))
        simpa [escT, lof] using this
      refine (putBytes_any b off n cap f (some ⟨g, 0, none⟩) (escN s) c (fun i => (escL (sl s) ++ [0, 1]).getD i 0) w4 (hv.below hB4) (hrow.view hgc hyb) (by intro h; cases h) (by omega)).mono ?_
      rintro e w5 ⟨rfl, hown5, hb5⟩
      have el : lof (escN s) (fun i => (escL (sl s) ++ [0, 1]).getD i 0) = escL (sl s) ++ [0, 1] := by
        have := lof_self (escL (sl s) ++ [0, 1])
        rw [List.length_append] at this
        exact this
      rw [el] at hown5
      have hr5 : Hid (Row 5 w5 w4.heap.size (n + escN s) (fun i => (escT n f s).getD i 0)) := row_of_owned hown5
      replace hb5 := hB4.trans (hb5.mono hB4.size)
      have hs4 := hB4.size
      clear hown5 hrow hyb hO4 hown4 hown3 hown hB hB3 hB4 hgr3 hgr4 hnx HR HE el
      go_wp2
      go_ret
      exact ⟨_, _, rfl, hs4, Nat.le_refl _, hr5.out, hb5⟩
end Go.Proofs.Ytbcgonfihdpjnaq
