/-
  Together: RunePlain, PutEscImpl, FormPut, PartTwo
-/
import Derived.Test.YtjoimkfpenbkmabGreatDoorPackK16
import Derived.Lib.DecodeN
import Derived.Lib.OthersKept
import Derived.Test.YtjoimkfpenbkmabGreatDoorPackK15
import Derived.Test.YtjoimkfpenbkmabGreatDoorPackK11
import Derived.Test.YtjoimkfpenbkmabGreatDoorPackK23
import Derived.Test.YtjoimkfpenbkmabGreatDoorPackK12
/-
  What a range over a text steps over: a 0 by itself, or bytes of which none is 0.
-/
namespace Go.Proofs.YtjoimkfpenbkmabGreatDoor
open Go.RowKit
set_option maxRecDepth 4000

theorem decN (n b0 b1 b2 b3 : Nat) (h : b0 ≠ 0) (hn : 1 ≤ n) : (Lib.decodeN n b0 b1 b2 b3).1 ≠ 0 ∧ 1 ≤ (Lib.decodeN n b0 b1 b2 b3).2 ∧ (Lib.decodeN n b0 b1 b2 b3).2 ≤ n ∧ (Lib.decodeN n b0 b1 b2 b3).2 ≤ 4 ∧
    (1 < (Lib.decodeN n b0 b1 b2 b3).2 → b1 ≠ 0) ∧ (2 < (Lib.decodeN n b0 b1 b2 b3).2 → b2 ≠ 0) ∧ (3 < (Lib.decodeN n b0 b1 b2 b3).2 → b3 ≠ 0) := by
  unfold Lib.decodeN
  repeat' split
  all_goals (refine ⟨?_, ?_, ?_, ?_, ?_, ?_, ?_⟩ <;> simp only <;> omega)

theorem get_sl (s : ByteArray) (j : Nat) (h : j < s.size) : (s.get! j).toNat = s[j].toNat := by
  simp [ByteArray.get!, getElem!_pos, h]
  rfl

theorem sl_at (s : ByteArray) (j : Nat) (h : j < s.size) : (sl s)[j]'(by rw [sl_len]; exact h) = (s[j].toNat : Int) := by
  simp [sl]
  rfl

/-- The bytes from a up to b. -/
def seg (s : ByteArray) (a b : Nat) : List Int := ((sl s).take b).drop a
theorem seg_len (s : ByteArray) (a b : Nat) (h : b ≤ s.size) : (seg s a b).length = b - a := by
  unfold seg; rw [List.length_drop, List.length_take, sl_len]; omega
theorem seg_cut (s : ByteArray) (a b c : Nat) (h1 : a ≤ b) (h2 : b ≤ c) (h3 : c ≤ s.size) : seg s a c = seg s a b ++ seg s b c := by
  unfold seg
  have e : (sl s).take c = (sl s).take b ++ ((sl s).take c).drop b := by
    have := List.take_append_drop b ((sl s).take c)
    rw [List.take_take, Nat.min_eq_left h2] at this
    exact this.symm
  have hl : ((sl s).take b).length = b := by rw [List.length_take, sl_len]; omega
  conv => lhs; rw [e]
  rw [List.drop_append_of_le_length (by omega)]
theorem seg_head (s : ByteArray) (b : Nat) : seg s 0 b = (sl s).take b := rfl
theorem seg_none (s : ByteArray) (a : Nat) : seg s a a = [] := by
  unfold seg
  apply List.drop_eq_nil_of_le
  rw [List.length_take]; omega
theorem seg_sl (s : ByteArray) (a b : Nat) : sl (s.extract a b) = seg s a b := by
  unfold seg sl
  rw [ByteArray.data_extract, Array.toList_extract, List.extract_eq_take_drop, ← List.map_take, ← List.map_drop, List.drop_take]
theorem seg_mem (s : ByteArray) (a b : Nat) (h : b ≤ s.size) (y : Int) (hy : y ∈ seg s a b) : ∃ j, ∃ hj : j < s.size, a ≤ j ∧ j < b ∧ y = (s[j].toNat : Int) := by
  unfold seg at hy
  obtain ⟨i, hi, rfl⟩ := List.getElem_of_mem hy
  have hi' := hi
  rw [List.length_drop, List.length_take, sl_len] at hi'
  refine ⟨a + i, by omega, by omega, by omega, ?_⟩
  rw [List.getElem_drop, List.getElem_take, sl_at]

/-- A rune that is not 0: none of its bytes is. -/
theorem rune_nz (s : ByteArray) (pos : Nat) (h : pos < s.size) (h0 : (s[pos].toNat : Int) ≠ 0) :
    (Utf8.decode s pos).1 ≠ 0 ∧ 1 ≤ (Utf8.decode s pos).2 ∧ pos + (Utf8.decode s pos).2 ≤ s.size ∧ ∀ y ∈ seg s pos (pos + (Utf8.decode s pos).2), y ≠ 0 := by
  have hb0 : (s.get! pos).toNat ≠ 0 := by rw [get_sl s pos h]; omega
  have hd := decN (s.size - pos) (s.get! pos).toNat (s.get! (pos + 1)).toNat (s.get! (pos + 2)).toNat (s.get! (pos + 3)).toNat hb0 (by omega)
  rw [← Lib.decode_at] at hd
  obtain ⟨d0, d1, d2, d3, d4, d5, d6⟩ := hd
  refine ⟨d0, d1, by omega, ?_⟩
  intro y hy
  obtain ⟨j, hj, hj0, hj1, rfl⟩ := seg_mem s _ _ (by omega) y hy
  rcases (show j = pos ∨ j = pos + 1 ∨ j = pos + 2 ∨ j = pos + 3 by omega) with rfl | rfl | rfl | rfl
  · exact h0
  · have := d4 (by omega); rw [get_sl s _ hj] at this; omega
  · have := d5 (by omega); rw [get_sl s _ hj] at this; omega
  · have := d6 (by omega); rw [get_sl s _ hj] at this; omega

theorem rune_z (s : ByteArray) (pos : Nat) (h : pos < s.size) (h0 : (s[pos].toNat : Int) = 0) : Utf8.decode s pos = (0, 1) := by
  rw [decode_ascii s pos h (by omega)]
  simp only [Prod.mk.injEq, and_true]
  omega

/-- Of the bytes up to pos: acc is put, those from 'a' on are still to be. -/
structure Ranged (s : ByteArray) (a pos : Nat) (acc : List Int) : Prop where
  le : a ≤ pos
  sz : pos ≤ s.size
  put : escL (seg s 0 pos) = acc ++ seg s a pos
theorem Ranged.start (s : ByteArray) : Ranged s 0 0 [] := ⟨Nat.le_refl _, Nat.zero_le _, by rw [seg_none]; rfl⟩
theorem Ranged.zero {s : ByteArray} {a pos : Nat} {acc : List Int} (h : Ranged s a pos acc) (hp : pos < s.size) (h0 : (s[pos].toNat : Int) = 0) : Ranged s (pos + 1) (pos + 1) ((acc ++ seg s a pos) ++ [0, 255]) := by
  have := h.le
  refine ⟨Nat.le_refl _, hp, ?_⟩
  rw [seg_head, sl_take s pos hp, escL_append, escL_one, ← seg_head, h.put, seg_none, List.append_nil, h0]
  rfl
theorem Ranged.plain {s : ByteArray} {a pos : Nat} {acc : List Int} (h : Ranged s a pos acc) (K : Nat) (hK : pos + K ≤ s.size) (hz : ∀ y ∈ seg s pos (pos + K), y ≠ 0) : Ranged s a (pos + K) acc := by
  have := h.le
  refine ⟨by omega, hK, ?_⟩
  rw [seg_cut s 0 pos (pos + K) (Nat.zero_le _) (by omega) hK, escL_append, h.put, escL_plain _ hz, List.append_assoc, ← seg_cut s a pos (pos + K) h.le (by omega) hK]
theorem Ranged.done {s : ByteArray} {a pos : Nat} {acc : List Int} (h : Ranged s a pos acc) (hp : pos = s.size) : escL (sl s) = acc ++ seg s a s.size := by
  subst hp
  rw [← h.put, seg_head, sl_all]
theorem Ranged.len {s : ByteArray} {a pos : Nat} {acc : List Int} (h : Ranged s a pos acc) : acc.length ≤ 2 * pos := by
  have h1 := escK_len s pos h.sz
  rw [← seg_head, h.put, List.length_append] at h1
  omega

end Go.Proofs.YtjoimkfpenbkmabGreatDoor

/-
  The program's PutEsc: what was there, and behind it the text as it is put, in memory of its own.
-/
namespace Go.Proofs.YtjoimkfpenbkmabGreatDoor
open Go.RowKit
set_option maxRecDepth 4000

/-- Bytes that the call owns stay while a text's iterator is moved on. -/
theorem own_moved {w : World} {B e size n : Nat} {v : Value} {xs : List Value} {k : Nat} {s : ByteArray} {pos : Nat} (h : w.ownsRow B e size v n xs) (hk : w.heap[k]? = some (.stringIter s pos)) (pos' : Nat) : (w.iterAt k s pos').ownsRow B e size v n xs := by
  refine ⟨h.1, ?_⟩
  rcases h.2 with h0 | ⟨g, cap, cur, hv, hb, hg, rest⟩
  · exact .inl h0
  · refine .inr ⟨g, cap, cur, hv, hb, ?_, rest⟩
    rw [Lib.iterAt_other _ _ _ _ _ (fun e => by subst e; rw [hk] at hg; cases hg)]
    exact hg
theorem own_apart {w : World} {B e size n : Nat} {v : Value} {xs : List Value} {k : Nat} {s : ByteArray} {pos : Nat} (h : w.ownsRow B e size v n xs) (hk : w.heap[k]? = some (.stringIter s pos)) : some k ≠ v.ownBlock := by
  rcases h.2 with ⟨rfl, _⟩ | ⟨g, cap, cur, rfl, hb, hg, rest⟩
  · simp [Value.ownBlock]
  · intro e
    simp only [Value.ownBlock, Option.some.injEq] at e
    subst e
    rw [hk] at hg
    cases hg

set_option maxHeartbeats 4000000 in
theorem putEsc_impl (b off n cap : Nat) (f : Nat → Int) (s : ByteArray) (w : World) (hv : View w (some ⟨b, off, none⟩) n cap f) (hn : n ≤ 8796093022208) (hs : s.size ≤ 8796093022208) :
    Calls Tryz.prog 178 #[.slice (some ⟨b, off, none⟩) n cap, .string s] w fun e w' => ∃ g c, e = .returned (.slice (some ⟨g, 0, none⟩) (n + escN s) c) ∧ w.heap.size ≤ g ∧ n + escN s ≤ c ∧ Row 5 w' g (n + escN s) (fun i => (escT n f s).getD i 0) ∧ Below w.heap.size w w' := by
  obtain ⟨i0, hi, hz0, hz1, hz2⟩ := info_parts Tryz.info5
  have hown0 : (w.iter s 0).ownsRow w.heap.size 5 1 (.slice none 0 0) 0 (bl []) := ⟨rfl, .inl ⟨rfl, rfl⟩⟩
  have hb0 : Below w.heap.size w (w.iter s 0) := (Below.refl _ _).alloc (Nat.le_refl _) _
  have hit0 : (w.iter s 0).heap[w.heap.size]? = some (.stringIter s 0) := World.iter_heap w s 0
  go_enter Tryz.func178, Tryz.ntmps178
  go_wp2
  go_loopg [5, 6] s.size (fun g v fr wr => ∃ (a pos : Nat) (acc : List Int), g = s.size - pos ∧ fr = .int .i64 a ∧ Ranged s a pos acc ∧ wr.ownsRow w.heap.size 5 1 v acc.length (bl acc) ∧ wr.heap[w.heap.size]? = some (.stringIter s pos) ∧ Below w.heap.size w wr)
  case atStart => exact ⟨0, 0, [], rfl, rfl, Ranged.start s, hown0, hit0, hb0⟩
  case round =>
    obtain ⟨a, pos, acc, rfl, rfl, hR, hown, hit, hB⟩ := hrel
    clear hown0 hb0 hit0
    have HR : Hid (Ranged s a pos acc) := hR
    have hle := hR.le
    have hsz := hR.sz
    have hlen := hR.len
    clear hR
    have hsl : (seg s a pos).length = pos - a := seg_len s a pos hsz
    by_cases hlt : pos < s.size
    · have hnx : ∀ ty, (Instr.next (.pointer (some ⟨w.heap.size, 0, none⟩)) true ty).run Tryz.prog wr = _ := fun ty => Lib.run_next_any_at wr w.heap.size s pos ty hit hlt
      by_cases h0 : (s[pos].toNat : Int) = 0
      · have HR2 : Hid (Ranged s (pos + 1) (pos + 1) ((acc ++ seg s a pos) ++ [0, 255])) := HR.out.zero hlt h0
        rw [rune_z s pos hlt h0] at hnx
        clear h0
        have hit2 := Lib.iterAt_heap wr w.heap.size s pos (pos + 1) hit
        have hB2 := Lib.below_iterAt hB (k := w.heap.size) (Nat.le_refl _) s (pos + 1)
        have hown2 := own_moved hown hit (pos + 1)
        obtain ⟨W, hWd⟩ : ∃ W, wr.iterAt w.heap.size s (pos + 1) = W := ⟨_, rfl⟩
        simp only [hWd] at hnx hit2 hB2 hown2
        clear hown hit hB hWd
        have haz : (a : Int) ≤ (pos : Int) := by omega
        have hpz : (pos : Int) ≤ (s.size : Int) := by omega
        have hxs : (s.extract a pos).size = pos - a := by simp; omega
        go_wp2_with (first | (at_builtin; refine Lib.wpList_append_own_string _ rfl (.tmp 17) (.tmp 21) 26 9 rfl w.heap.size 5 i0 Tryz.underlying26 Tryz.underlying9 hi hz0 hz1 hz2 u5 _ _ rfl hown2 (s.extract a pos) rfl (by unfold maxLen; omega) (by omega) hB2.size ?_; intro v3 w3 hown3 hgr3 _) | (at_builtin; refine wpList_append_own _ rfl (.tmp 23) (.tmp 24) 26 rfl w.heap.size 5 i0 (.int .u8 0) 1 1 Tryz.underlying26 hi hz0 hz1 hz2 rfl (by decide) v3 _ _ rfl (hown3.alloc _) ⟨w3.heap.size, 0, none⟩ 2 2 [.int .u8 0, .int .u8 255] rfl rfl (cellsTwo _ _ _ _) (bl_one [0, 255]) (by unfold maxLen; omega) (by omega) (by have := hB2.size; have := hgr3.size; simp at *; omega) ?_; intro v4 w4 hown4 hgr4 _))
        have hB3 : Below w.heap.size w w3 := hB2.grown hgr3 hB2.size (fun k hk => (hown2.lt k hk).1)
        have hB4 : Below w.heap.size w w4 := (hB3.alloc hB3.size _).grown hgr4 (by have := hB3.size; simp; omega) (fun k hk => (hown3.lt k hk).1)
        have hlk : w.heap.size < W.heap.size := (Array.getElem?_eq_some_iff.1 hit2).1
        have hit3 : w3.heap[w.heap.size]? = some (.stringIter s (pos + 1)) := (hgr3.block w.heap.size hlk (own_apart hown2 hit2)).trans hit2
        have hlk3 : w.heap.size < w3.heap.size := (Array.getElem?_eq_some_iff.1 hit3).1
        have hit4 : w4.heap[w.heap.size]? = some (.stringIter s (pos + 1)) := (hgr4.block w.heap.size (by simp; omega) (own_apart hown3 hit3)).trans ((Below.heap_alloc _ _ _ hlk3).trans hit3)
        have hO4 : w4.ownsRow w.heap.size 5 1 v4 ((acc ++ seg s a pos) ++ [0, 255]).length (bl ((acc ++ seg s a pos) ++ [0, 255])) := by
          rw [List.length_append, List.length_append, bl_append, bl_append, ← seg_sl, ← sl_cells, sl_len]
          exact hown4
        clear hgr3 hgr4 hown2 hown3 hown4 hB2 hit2 hit3 hnx
        go_wp2
        go_roundg (s.size - (pos + 1))
        case measure => omega
        case rel => exact ⟨pos + 1, pos + 1, _, rfl, by go_num, HR2.out, hO4, hit4, hB4⟩
      · obtain ⟨d0, d1, d2, d3⟩ := rune_nz s pos hlt h0
        obtain ⟨R, hRd⟩ : ∃ R, (Utf8.decode s pos).1 = R := ⟨_, rfl⟩
        obtain ⟨K, hKd⟩ : ∃ K, (Utf8.decode s pos).2 = K := ⟨_, rfl⟩
        simp only [hRd, hKd] at hnx d0 d1 d2 d3
        have HR2 : Hid (Ranged s a (pos + K) acc) := HR.out.plain K d2 d3
        have hit2 := Lib.iterAt_heap wr w.heap.size s pos (pos + K) hit
        have hB2 := Lib.below_iterAt hB (k := w.heap.size) (Nat.le_refl _) s (pos + K)
        have hown2 := own_moved hown hit (pos + K)
        have q0 : ((R : Int) == 0) = false := by simp; omega
        obtain ⟨W, hWd⟩ : ∃ W, wr.iterAt w.heap.size s (pos + K) = W := ⟨_, rfl⟩
        simp only [hWd] at hnx hit2 hB2 hown2
        clear hown hit hB hWd h0 d0 d3 hRd hKd
        go_wp2
        go_roundg (s.size - (pos + K))
        case measure => omega
        case rel => exact ⟨a, pos + K, acc, rfl, rfl, HR2.out, hown2, hit2, hB2⟩
    · obtain rfl : pos = s.size := by omega
      have hnx : ∀ ty, (Instr.next (.pointer (some ⟨w.heap.size, 0, none⟩)) true ty).run Tryz.prog wr = _ := fun ty => Lib.run_next_end_at wr w.heap.size s s.size ty hit hlt
      have HE : Hid (escL (sl s) = acc ++ seg s a s.size) := HR.out.done rfl
      have haz : (a : Int) ≤ (s.size : Int) := by omega
      have hxs : (s.extract a s.size).size = s.size - a := by simp
      have hsb := hB.size
      clear hit
      go_wp2_with (first | (at_builtin; refine Lib.wpList_append_own_string _ rfl (.tmp 28) (.tmp 31) 26 9 rfl w.heap.size 5 i0 Tryz.underlying26 Tryz.underlying9 hi hz0 hz1 hz2 u5 _ _ rfl hown (s.extract a s.size) rfl (by unfold maxLen; omega) (by omega) hB.size ?_; intro v3 w3 hown3 hgr3 _) | (at_builtin; refine wpList_append_own _ rfl (.tmp 34) (.tmp 35) 26 rfl w.heap.size 5 i0 (.int .u8 0) 1 1 Tryz.underlying26 hi hz0 hz1 hz2 rfl (by decide) v3 _ _ rfl (hown3.alloc _) ⟨w3.heap.size, 0, none⟩ 2 2 [.int .u8 0, .int .u8 1] rfl rfl (cellsTwo _ _ _ _) (bl_one [0, 1]) (by unfold maxLen; omega) (by omega) (by have := hB.size; have := hgr3.size; simp at *; omega) ?_; intro v4 w4 hown4 hgr4 _))
      have hB3 : Below w.heap.size w w3 := hB.grown hgr3 hB.size (fun k hk => (hown.lt k hk).1)
      have hB4 : Below w.heap.size w w4 := (hB3.alloc hB3.size _).grown hgr4 (by have := hB3.size; simp; omega) (fun k hk => (hown3.lt k hk).1)
      have hO4 : w4.ownsRow w.heap.size 5 1 v4 (escN s) (bl (escL (sl s) ++ [0, 1])) := by
        unfold escN
        rw [HE.out, List.length_append, bl_append, bl_append, ← seg_sl, ← sl_cells, sl_len]
        exact hown4
      have hE := escN_le s
      obtain ⟨g, c, rfl, hg, hgc, hrow⟩ := row_of_own hO4 (by unfold escN; omega)
      have hyb : ∀ i, i < escN s → 0 ≤ (escL (sl s) ++ [0, 1]).getD i 0 ∧ (escL (sl s) ++ [0, 1]).getD i 0 ≤ 255 := by
        have := escT_at 0 (fun _ => 0) s (fun i hi => absurd hi (Nat.not_lt_zero _))
        simpa [escT, lof] using this
      refine (putBytes_any b off n cap f (some ⟨g, 0, none⟩) (escN s) c (fun i => (escL (sl s) ++ [0, 1]).getD i 0) w4 (hv.below hB4) (hrow.view hgc hyb) (by intro h; cases h) (by omega)).mono ?_
      rintro e w5 ⟨rfl, hown5, hb5⟩
      have el : lof (escN s) (fun i => (escL (sl s) ++ [0, 1]).getD i 0) = escL (sl s) ++ [0, 1] := by
        have := lof_self (escL (sl s) ++ [0, 1])
        rw [List.length_append] at this
        exact this
      rw [el] at hown5
      have hr5 : Hid (Row 5 w5 w4.heap.size (n + escN s) (fun i => (escT n f s).getD i 0)) := row_of_owned hown5
      replace hb5 := hB4.trans (hb5.mono hB4.size)
      have hs4 := hB4.size
      clear hown5 hrow hyb hO4 hown4 hown3 hown hB hB3 hB4 hgr3 hgr4 hnx HR HE el
      go_wp2
      go_ret
      exact ⟨_, _, rfl, hs4, Nat.le_refl _, hr5.out, hb5⟩
end Go.Proofs.YtjoimkfpenbkmabGreatDoor

/-
  The program's writers of a value of each type: the value's bytes behind what is there, in a row of the call's own.
-/
namespace Go.Proofs.YtjoimkfpenbkmabGreatDoor
open Go.RowKit
set_option maxRecDepth 4000

/-- What a writer of values comes to: the list's bytes behind those that are there. -/
def Writes (fn : Nat) (n : Nat) (f : Nat → Int) (k x : Int) (s : ByteArray) (l : List Int) : Prop :=
  ∀ (b off cap : Nat) (w : World), View w (some ⟨b, off, none⟩) n cap f → Calls Tryz.prog fn #[.slice (some ⟨b, off, none⟩) n cap, .agg #[.int .i64 k, .int .i64 x, .string s]] w fun e w' =>
    ∃ g c, e = .returned (.slice (some ⟨g, 0, none⟩) (n + l.length) c) ∧ w.heap.size ≤ g ∧ n + l.length ≤ c ∧ Row 5 w' g (n + l.length) (fun i => (lof n f ++ l).getD i 0) ∧ Below w.heap.size w w'

set_option maxHeartbeats 1000000 in
theorem putInt_any (n : Nat) (f : Nat → Int) (k x : Int) (s : ByteArray) (hn : n ≤ 70368744170000) (hx : -9223372036854775808 ≤ x ∧ x ≤ 9223372036854775807) : Writes 148 n f k x s (fixL x) := by
  intro b off cap w hv
  have hb0 : Below w.heap.size w (w.alloc (.cells #[.int .i64 k, .int .i64 x, .string s] 62)) := (Below.refl _ _).alloc (Nat.le_refl _) _
  have hv0 := hv.below hb0
  go_enter Tryz.func148, Tryz.ntmps148
  go_wp2_with fail
  refine (putFix_impl b off n cap f x _ hv0 hn hx.1 hx.2).mono ?_
  rintro e w1 ⟨g, c, rfl, hg, hc, hr, hb1⟩
  have hB := hb0.trans (hb1.mono hb0.size)
  have hg1 := Nat.le_trans hb0.size hg
  clear hb0 hb1 hv0 hv
  go_wp2
  go_ret
  rw [fixL_len]
  exact ⟨g, c, rfl, hg1, hc, hr, hB⟩

set_option maxHeartbeats 1000000 in
theorem putNum_any (n : Nat) (f : Nat → Int) (k x : Int) (s : ByteArray) (hn : n ≤ 70368744170000) (hx : -9223372036854775808 ≤ x ∧ x ≤ 9223372036854775807) : Writes 150 n f k x s (varL x) := by
  intro b off cap w hv
  have hb0 : Below w.heap.size w (w.alloc (.cells #[.int .i64 k, .int .i64 x, .string s] 62)) := (Below.refl _ _).alloc (Nat.le_refl _) _
  have hv0 := hv.below hb0
  go_enter Tryz.func150, Tryz.ntmps150
  go_wp2_with fail
  refine (putVar_impl b off n cap f x _ hv0 hn hx.1 hx.2).mono ?_
  rintro e w1 ⟨g, c, rfl, hg, hc, hr, hb1⟩
  have hB := hb0.trans (hb1.mono hb0.size)
  have hg1 := Nat.le_trans hb0.size hg
  clear hb0 hb1 hv0 hv
  go_wp2
  go_ret
  exact ⟨g, c, rfl, hg1, hc, hr, hB⟩

set_option maxHeartbeats 1000000 in
theorem putText_any (n : Nat) (f : Nat → Int) (k x : Int) (s : ByteArray) (hn : n ≤ 8796093022208) (hs : s.size ≤ 8796093022208) : Writes 152 n f k x s (escL (sl s) ++ [0, 1]) := by
  intro b off cap w hv
  have hb0 : Below w.heap.size w (w.alloc (.cells #[.int .i64 k, .int .i64 x, .string s] 62)) := (Below.refl _ _).alloc (Nat.le_refl _) _
  have hv0 := hv.below hb0
  go_enter Tryz.func152, Tryz.ntmps152
  go_wp2_with fail
  refine (putEsc_impl b off n cap f s _ hv0 hn hs).mono ?_
  rintro e w1 ⟨g, c, rfl, hg, hc, hr, hb1⟩
  have hB := hb0.trans (hb1.mono hb0.size)
  have hg1 := Nat.le_trans hb0.size hg
  clear hb0 hb1 hv0 hv
  go_wp2
  go_ret
  have el : escN s = (escL (sl s) ++ [0, 1]).length := by unfold escN; simp
  have et : escT n f s = lof n f ++ (escL (sl s) ++ [0, 1]) := by unfold escT; simp
  rw [el, et] at hr
  rw [el] at hc
  rw [el]
  exact ⟨g, c, rfl, hg1, hc, hr, hB⟩

theorem lof_one (g : Nat → Int) : lof 1 g = [g 0] := by simp [lof]

theorem Row.lit1 (w : World) (t : TypeId) (h : Int) : Row t (w.alloc (.cells #[.int .u8 h] t)) w.heap.size 1 (fun _ => h) :=
  Row.ofIs (World.rowIs_alloc w #[.int .u8 h] t (fun _ => .int .u8 h) (fun j hj => by match j, hj with | 0, _ => rfl))

set_option maxHeartbeats 1000000 in
theorem putBool_any (n : Nat) (f : Nat → Int) (k x : Int) (s : ByteArray) (hn : n ≤ 70368744170000) (hx : 0 ≤ x ∧ x ≤ 255) : Writes 154 n f k x s [x % 256] := by
  intro b off cap w hv
  have hx6 : x % 256 = x := by omega
  have hx8 : IntKind.u8.wrap x = x := by rw [u8_wrap, hx6]
  rw [hx6]
  have hb0 : Below w.heap.size w ((w.alloc (.cells #[.int .i64 k, .int .i64 x, .string s] 62)).alloc (.cells #[.int .u8 x] 5)) := ((Below.refl _ _).alloc (Nat.le_refl _) _).alloc (by simp) _
  have hv0 := hv.below hb0
  have hr0 := Row.lit1 (w.alloc (.cells #[.int .i64 k, .int .i64 x, .string s] 62)) 5 x
  rw [show (w.alloc (.cells #[.int .i64 k, .int .i64 x, .string s] 62)).heap.size = w.heap.size + 1 by simp] at hr0
  have hg0 := hr0.view (cap := 1) (Nat.le_refl _) (fun _ _ => hx)
  go_enter Tryz.func154, Tryz.ntmps154
  go_wp2_with fail
  refine (putBytes_any b off n cap f (some ⟨w.heap.size + 1, 0, none⟩) 1 1 (fun _ => x) _ hv0 hg0 (fun h => by cases h) (by omega)).mono ?_
  rintro e w1 ⟨rfl, hown, hb1⟩
  have hB := hb0.trans (hb1.mono hb0.size)
  have hg1 := hb0.size
  rw [lof_one] at hown
  clear hb0 hb1 hv0 hv hg0 hr0
  go_wp2
  go_ret
  obtain ⟨g, c, e, -, hc, hr⟩ := row_of_own hown (by omega)
  cases e
  have hz : ((w.alloc (.cells #[.int .i64 k, .int .i64 x, .string s] 62)).alloc (.cells #[.int .u8 x] 5)).heap.size = w.heap.size + 1 + 1 := by simp
  rw [hz] at hr hg1
  exact ⟨_, _, rfl, hg1, hc, hr, hB⟩
end Go.Proofs.YtjoimkfpenbkmabGreatDoor

/-
  A part and a value that were put into variables of the call's own, in later worlds.
-/
namespace Go.Proofs.YtjoimkfpenbkmabGreatDoor
open Go.RowKit
set_option maxRecDepth 4000

/-- A part and a value stand in variables of the call's own. -/
structure PV (w : World) (T U : TypeId) (c t : Int) (nul d : Bool) (k n : Int) (s : ByteArray) (W : World) : Prop where
  below : Below (w.heap.size + 2) ((w.alloc (.cells #[.int .i64 c, .int .i64 t, .bool nul, .bool d] T)).alloc (.cells #[.int .i64 k, .int .i64 n, .string s] U)) W
  size : w.heap.size + 2 ≤ W.heap.size
section
variable {w : World} {T U : TypeId} {c t : Int} {nul d : Bool} {k n : Int} {s : ByteArray} {W W' : World}
theorem PV.start (w : World) (T U : TypeId) (c t : Int) (nul d : Bool) (k n : Int) (s : ByteArray) : PV w T U c t nul d k n s ((w.alloc (.cells #[.int .i64 c, .int .i64 t, .bool nul, .bool d] T)).alloc (.cells #[.int .i64 k, .int .i64 n, .string s] U)) := ⟨Below.refl _ _, by simp⟩
theorem PV.drew (h : PV w T U c t nul d k n s W) : PV w T U c t nul d k n s W.drew := ⟨h.below.drew, h.size⟩
theorem PV.step (h : PV w T U c t nul d k n s W) (hB : Below W.heap.size W W') : PV w T U c t nul d k n s W' := ⟨h.below.trans (hB.mono h.size), Nat.le_trans h.size hB.size⟩
theorem PV.upto {B : Nat} (h : PV w T U c t nul d k n s W) (hB : Below B W W') (hle : w.heap.size + 2 ≤ B) : PV w T U c t nul d k n s W' := ⟨h.below.trans (hB.mono hle), Nat.le_trans h.size hB.size⟩
theorem PV.part (h : PV w T U c t nul d k n s W) : W.cell? ⟨w.heap.size, 0, none⟩ = some (.int .i64 c) ∧ W.cell? ⟨w.heap.size, 1, none⟩ = some (.int .i64 t) ∧ W.cell? ⟨w.heap.size, 2, none⟩ = some (.bool nul) ∧ W.cell? ⟨w.heap.size, 3, none⟩ = some (.bool d) := by
  refine ⟨?_, ?_, ?_, ?_⟩
  all_goals (rw [h.below.cell (by show _ < _; simp)]; simp [go_sem])
theorem PV.val (h : PV w T U c t nul d k n s W) : W.cell? ⟨w.heap.size + 1, 0, none⟩ = some (.int .i64 k) ∧ W.cell? ⟨w.heap.size + 1, 1, none⟩ = some (.int .i64 n) ∧ W.cell? ⟨w.heap.size + 1, 2, none⟩ = some (.string s) := by
  refine ⟨?_, ?_, ?_⟩
  all_goals (rw [h.below.cell (by show _ < _; simp)]; simp [go_sem])
theorem PV.all (h : PV w T U c t nul d k n s W) : Below w.heap.size w W := (((Below.refl _ _).alloc (Nat.le_refl _) _).alloc (by simp) _).trans (h.below.mono (by omega))
end
end Go.Proofs.YtjoimkfpenbkmabGreatDoor

