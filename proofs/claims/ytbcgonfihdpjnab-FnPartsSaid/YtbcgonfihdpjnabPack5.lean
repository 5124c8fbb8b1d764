/-
  Together: DrawBytes, DrawCore, DrawPutPart, Ahead, NumOrder, NumBack, EscOrder, EscRead, PartBack, GotRet
-/
import Derived.Test.YtbcgonfihdpjnabPack1
import Derived.Test.YtbcgonfihdpjnabPack2
import Derived.Deep.RegionWith
import Derived.Test.YtbcgonfihdpjnabPack4
import Derived.Deep.RegionHeld3
import Derived.Test.YtbcgonfihdpjnabPack3
/-
  Drawn bytes: as many as asked, in memory of their own; nothing that was there turns but the cursor.
-/
namespace Go.Proofs.Ytbcgonfihdpjnab
open Go.RowKit
set_option maxRecDepth 4000

set_option maxHeartbeats 2000000 in
theorem l1Bytes_any (g : Nat) (ao : Option Addr) (n cap : Nat) (f : Nat → Int) (m : Nat) (w : World) (hn : n ≤ 1048576) (hm : m ≤ 1048576) (hC : Cur w g ao n cap f) :
    Calls Try.prog 67 #[.pointer (some ⟨g, 0, none⟩), .int .i64 (m : Int)] w fun e w' => ∃ (b c : Nat) (l : List Int), e = .returned (.slice (some ⟨b, 0, none⟩) m c) ∧ l.length = m ∧ (∀ y ∈ l, 0 ≤ y ∧ y ≤ 255) ∧ w.heap.size ≤ b ∧ m ≤ c ∧ Row 5 w' b m (fun i => l.getD i 0) ∧ Cur w' g ao n cap f ∧ But g w w' := by
  obtain ⟨i0, hi, hz0, hz1, hz2⟩ := info_parts Try.info5
  have hown0 := World.ownsRow_lit (base := w.heap.size) (e := 5) (size := 1) w #[] 0 (Nat.le_refl _) (Nat.zero_le _) rfl
  have hb0 : Below w.heap.size w (w.alloc (.cells #[] 5)) := (Below.refl _ _).alloc (Nat.le_refl _) _
  have hgl := hC.lt
  have HC : Hid (∀ a, ao = some a → 0 < n → a.block < w.heap.size) := hC.code
  go_enter Try.func67, Try.ntmps67
  go_wp2
  go_loopg [5, 6] m (fun q v i wr => ∃ (k : Nat) (l : List Int), k ≤ m ∧ q = m - k ∧ i = .int .i64 k ∧ l.length = k ∧ (∀ y ∈ l, 0 ≤ y ∧ y ≤ 255) ∧ wr.ownsRow w.heap.size 5 1 v k (bl l) ∧ v ≠ .slice none 0 0 ∧ Cur wr g ao n cap f ∧ But g w wr)
  case atStart => exact ⟨0, [], Nat.zero_le _, rfl, rfl, rfl, (by intro y hy; cases hy), hown0, (by intro h; cases h), hC.below hb0, But.ofBelow hb0⟩
  case round =>
    obtain ⟨k, l, hk, rfl, rfl, hl, hby, hown, hv, hCr, hB⟩ := hrel
    clear hown0 hb0
    have HV : Hid (u5 ≠ .slice none 0 0) := hv
    have HY : Hid (∀ y ∈ l, 0 ≤ y ∧ y ≤ 255) := hby
    have HL : Hid (l.length = k) := hl
    clear hv hby hl
    by_cases hlt : k < m
    · have hkz : (k : Int) < (m : Int) := by omega
      go_wp2_with fail
      refine (l1Byte_any g ao n cap f wr hn hCr).mono ?_
      rintro e w1 ⟨x, rfl, hx0, hx1, hC1, hO1⟩
      have hown1 := hown.kept hO1.grown (Or.inr (fun e => by have := (hown.lt g e).1; omega))
      have hs1 : w.heap.size ≤ w1.heap.size := by rw [hO1.size]; exact hB.size
      go_wp2_with (at_builtin; go_must (refine wpList_append_own _ rfl (.tmp 13) (.tmp 17) 22 rfl w.heap.size 5 i0 (.int .u8 0) 1 1 Try.underlying22 hi hz0 hz1 hz2 rfl (by decide) u5 _ _ rfl (hown1.alloc _) ⟨w1.heap.size, 0, none⟩ 1 1 [.int .u8 x] rfl rfl (cellNew _ _ _) (bl_one [x]) (by unfold maxLen; omega) (by omega) (by simp; omega) ?_); intro v2 w2 hown2 hgr2 hnil)
      have hb2 : Below w1.heap.size w1 (w1.alloc (.cells #[.int .u8 x] 5)) := (Below.refl _ _).alloc (Nat.le_refl _) _
      have hB1 : But g w w1 := hB.trans (But.ofOnly hO1)
      have hB2 : But g w w2 := by
        refine ⟨hgr2.os.trans hB1.os, hgr2.tape.trans hB1.tape, hgr2.output.trans hB1.output, Nat.le_trans hs1 (Nat.le_trans (by simp) hgr2.size), fun j hj hg => ?_⟩
        rw [hgr2.block j (by simp; omega) (fun e => by have := (hown.lt j e.symm).1; omega), Below.heap_alloc _ _ _ (by omega)]
        exact hB1.block j hj hg
      have hC2 : Cur w2 g ao n cap f := (hC1.below hb2).grown hgr2 (fun e => by have := (hown.lt g e).1; omega) (fun a ha h0 e => by have := (hown.lt _ e).1; have := HC.out a ha h0; omega)
      have hO2 : w2.ownsRow w.heap.size 5 1 v2 (k + 1) (bl (l ++ [x])) := by rw [bl_append]; exact hown2
      have HV2 : Hid (v2 ≠ .slice none 0 0) := fun e => HV.out (hnil.1 e).1
      have HY2 : Hid (∀ y ∈ l ++ [x], 0 ≤ y ∧ y ≤ 255) := by
        intro y hy
        rcases List.mem_append.1 hy with hy | hy
        · exact HY.out y hy
        · simp at hy; omega
      have HL2 : Hid ((l ++ [x]).length = k + 1) := by show (l ++ [x]).length = k + 1; rw [List.length_append, HL.out]; rfl
      clear hgr2 hnil hown hown1 hown2 hB hB1 hC1 hCr hO1 hb2
      go_wp2
      go_roundg (m - (k + 1))
      case measure => omega
      case rel => exact ⟨k + 1, l ++ [x], by omega, rfl, by go_num, HL2.out, HY2.out, hO2, HV2.out, hC2, hB2⟩
    · obtain rfl : k = m := by omega
      obtain ⟨b, c, hv5, hb, hc, hrow⟩ := row_of_own' hown HV.out
      clear hown HV
      rw [hv5]
      clear hv5
      go_wp2
      go_ret
      exact ⟨b, c, l, rfl, HL.out, HY.out, hb, hc, hrow, hCr, hB⟩
end Go.Proofs.Ytbcgonfihdpjnab

/-
  The draws of layer 1, as far as a law leans on them.
-/
namespace Go.Proofs.Ytbcgonfihdpjnab
open Go.RowKit
set_option maxRecDepth 4000

/-- Drawn bytes in memory of their own. -/
structure Drawn (w w' : World) (g : Nat) (e : Ending) (m b c : Nat) (l : List Int) : Prop where
  ret : e = .returned (.slice (some ⟨b, 0, none⟩) m c)
  len : l.length = m
  byte : ∀ y ∈ l, 0 ≤ y ∧ y ≤ 255
  new : w.heap.size ≤ b
  le : m ≤ c
  row : Row 5 w' b m (fun i => l.getD i 0)
  few : m ≤ 9

set_option maxHeartbeats 2000000 in
theorem l1Some_any (g : Nat) (ao : Option Addr) (n cap : Nat) (f : Nat → Int) (w : World) (hn : n ≤ 1048576) (hC : Cur w g ao n cap f) :
    Calls Try.prog 42 #[.pointer (some ⟨g, 0, none⟩)] w fun e w' => (∃ (b c m : Nat) (l : List Int), Drawn w w' g e m b c l) ∧ Cur w' g ao n cap f ∧ But g w w' := by
  have hb0 : Below w.heap.size w (w.alloc (.cells #[.int .i64 0, .int .i64 1, .int .i64 2, .int .i64 5, .int .i64 9] 3)) := (Below.refl _ _).alloc (Nat.le_refl _) _
  have hgl := hC.lt
  have hz := newInts w [0, 1, 2, 5, 9] 3
  go_enter Try.func42, Try.ntmps42
  go_wp2_with fail
  refine (l1Int_any g ao n cap f w.heap.size 5 (fun i => [0, 1, 2, 5, 9].getD i 0) _ hn (by omega) (by omega) hz (by omega) (hC.below hb0)).mono ?_
  rintro e w1 ⟨j, hj, rfl, hC1, hO1⟩
  have hmem : [(0 : Int), 1, 2, 5, 9].getD j 0 ∈ [(0 : Int), 1, 2, 5, 9] := getD_mem hj
  obtain ⟨m, hm, hm9⟩ : ∃ m : Nat, [(0 : Int), 1, 2, 5, 9].getD j 0 = (m : Int) ∧ m ≤ 9 := by
    simp only [List.mem_cons, List.not_mem_nil, or_false] at hmem
    exact ⟨([(0 : Int), 1, 2, 5, 9].getD j 0).toNat, by omega, by omega⟩
  clear hmem hz
  rw [hm]
  clear hm
  have hB1 : But g w w1 := (But.ofBelow hb0).trans (But.ofOnly hO1)
  clear hO1
  go_wp2_with fail
  refine (l1Bytes_any g ao n cap f m w1 hn (by omega) hC1).mono ?_
  rintro e w2 ⟨b, c, l, rfl, hl, hy, hb, hc, hrow, hC2, hB2⟩
  go_wp2
  go_ret
  exact ⟨⟨b, c, m, l, rfl, hl, hy, Nat.le_trans hB1.size hb, hc, hrow, hm9⟩, hC2, hB1.trans hB2⟩

theorem conv_drawn {w : World} {m b c : Nat} {l : List Int} (h1 : l.length = m) (h2 : ∀ y ∈ l, 0 ≤ y ∧ y ≤ 255) (h4 : m ≤ c) (h5 : Row 5 w b m (fun i => l.getD i 0)) :
    (convert 22 9 (.slice (some ⟨b, 0, none⟩) m c)).run Try.prog w = .ok (.string (strOfNums l)) w := by
  subst h1
  have := conv_view (h5.view h4 (fun i hi => h2 _ (getD_mem hi)))
  rw [lof_self] at this
  exact this
theorem Drawn.mono {w0 w w' : World} {g : Nat} {e : Ending} {m b c : Nat} {l : List Int} (h : Drawn w w' g e m b c l) (hs : w0.heap.size ≤ w.heap.size) : Drawn w0 w' g e m b c l :=
  ⟨h.ret, h.len, h.byte, Nat.le_trans hs h.new, h.le, h.row, h.few⟩

/-- Drawn bytes as a result among others: all that is known of them. -/
structure Own9 (w w' : World) (m b c : Nat) (l : List Int) : Prop where
  len : l.length = m
  byte : ∀ y ∈ l, 0 ≤ y ∧ y ≤ 255
  new : w.heap.size ≤ b
  le : m ≤ c
  row : Row 5 w' b m (fun i => l.getD i 0)
  few : m ≤ 9
theorem Own9.bytes {w w' : World} {m b c : Nat} {l : List Int} (h : Own9 w w' m b c l) : ∀ i, i < m → 0 ≤ l.getD i 0 ∧ l.getD i 0 ≤ 255 := by
  intro i hi
  exact h.byte _ (getD_mem (by rw [h.len]; exact hi))
theorem Own9.view {w w' : World} {m b c : Nat} {l : List Int} (h : Own9 w w' m b c l) : View w' (some ⟨b, 0, none⟩) m c (fun i => l.getD i 0) := h.row.view h.le h.bytes

end Go.Proofs.Ytbcgonfihdpjnab

/-
  The draw of bytes, a part and a value, as far as a law leans on it.
-/
namespace Go.Proofs.Ytbcgonfihdpjnab
open Go.RowKit
set_option maxRecDepth 4000

/-- A part is put into its variable; another variable stays. -/
theorem PBox.others {W : World} {B D : Nat} {c t : Int} {nul d : Bool} (h : PBox W B c t nul d) (hne : B ≠ D) (c' t' : Int) (nul' d' : Bool) : PBox ((((W.setCell ⟨D, 0, none⟩ (.int .i64 c')).setCell ⟨D, 1, none⟩ (.int .i64 t')).setCell ⟨D, 2, none⟩ (.bool nul')).setCell ⟨D, 3, none⟩ (.bool d')) B c t nul d :=
  (((h.other hne _).other hne _).other hne _).other hne _
theorem Box.others {W : World} {B D : Nat} {k x : Int} {s : ByteArray} (h : Box W B k x s) (hne : B ≠ D) (c' t' : Int) (nul' d' : Bool) : Box ((((W.setCell ⟨D, 0, none⟩ (.int .i64 c')).setCell ⟨D, 1, none⟩ (.int .i64 t')).setCell ⟨D, 2, none⟩ (.bool nul')).setCell ⟨D, 3, none⟩ (.bool d')) B k x s :=
  (((h.other hne _).other hne _).other hne _).other hne _
theorem PBox.others3 {W : World} {B D : Nat} {c t : Int} {nul d : Bool} (h : PBox W B c t nul d) (hne : B ≠ D) (k x : Int) (s : ByteArray) : PBox (((W.setCell ⟨D, 0, none⟩ (.int .i64 k)).setCell ⟨D, 1, none⟩ (.int .i64 x)).setCell ⟨D, 2, none⟩ (.string s)) B c t nul d :=
  ((h.other hne _).other hne _).other hne _
theorem Box.others3 {W : World} {B D : Nat} {k x : Int} {s : ByteArray} (h : Box W B k x s) (hne : B ≠ D) (k' x' : Int) (s' : ByteArray) : Box (((W.setCell ⟨D, 0, none⟩ (.int .i64 k')).setCell ⟨D, 1, none⟩ (.int .i64 x')).setCell ⟨D, 2, none⟩ (.string s')) B k x s :=
  ((h.other hne _).other hne _).other hne _
theorem row_past {ty : TypeId} {W : World} {b m B : Nat} {g : Nat → Int} (h : Row ty W b m g) (h1 : b ≠ B) (h2 : b ≠ B + 1) (c t : Int) (nul d : Bool) (k x : Int) (s : ByteArray) :
    Row ty (((((((W.setCell ⟨B, 0, none⟩ (.int .i64 c)).setCell ⟨B, 1, none⟩ (.int .i64 t)).setCell ⟨B, 2, none⟩ (.bool nul)).setCell ⟨B, 3, none⟩ (.bool d)).setCell ⟨B + 1, 0, none⟩ (.int .i64 k)).setCell ⟨B + 1, 1, none⟩ (.int .i64 x)).setCell ⟨B + 1, 2, none⟩ (.string s)) b m g := by
  refine h.of_block ?_
  rw [Below.heap_setCell _ _ _ _ h2, Below.heap_setCell _ _ _ _ h2, Below.heap_setCell _ _ _ _ h2, Below.heap_setCell _ _ _ _ h1, Below.heap_setCell _ _ _ _ h1, Below.heap_setCell _ _ _ _ h1, Below.heap_setCell _ _ _ _ h1]
theorem below_past {w W : World} (h : Below w.heap.size w W) (c t : Int) (nul d : Bool) (k x : Int) (s : ByteArray) :
    Below w.heap.size w (((((((W.setCell ⟨w.heap.size, 0, none⟩ (.int .i64 c)).setCell ⟨w.heap.size, 1, none⟩ (.int .i64 t)).setCell ⟨w.heap.size, 2, none⟩ (.bool nul)).setCell ⟨w.heap.size, 3, none⟩ (.bool d)).setCell ⟨w.heap.size + 1, 0, none⟩ (.int .i64 k)).setCell ⟨w.heap.size + 1, 1, none⟩ (.int .i64 x)).setCell ⟨w.heap.size + 1, 2, none⟩ (.string s)) :=
  ((((((h.setCell (Nat.le_refl _) _).setCell (Nat.le_refl _) _).setCell (Nat.le_refl _) _).setCell (Nat.le_refl _) _).setCell (Nat.le_succ _) _).setCell (Nat.le_succ _) _).setCell (Nat.le_succ _) _

set_option linter.unusedSimpArgs false in
set_option maxHeartbeats 4000000 in
theorem drawPutPart_any (ao : Option Addr) (n cap : Nat) (f : Nat → Int) (w : World) (hn : n ≤ 1048576) (hv : View w ao n cap f) :
    Calls Try.prog 34 #[.slice ao n cap] w fun e w' => (∃ (b cc m : Nat) (l : List Int) (c t : Int) (nul d : Bool) (k x : Int) (s : ByteArray), e = .returned (.tuple #[.slice (some ⟨b, 0, none⟩) m cc, .agg #[.int .i64 c, .int .i64 t, .bool nul, .bool d], .agg #[.int .i64 k, .int .i64 x, .string s]]) ∧ I64 x ∧ s.size ≤ 40 ∧ Own9 w w' m b cc l) ∧ Below w.heap.size w w' := by
  have hb0 : Below w.heap.size w ((w.alloc (.cells #[.int .i64 0, .int .i64 0, .bool false, .bool false] 37)).alloc (.cells #[.int .i64 0, .int .i64 0, .string ⟨#[]⟩] 39)) := ((Below.refl _ _).alloc (Nat.le_refl _) _).alloc (by simp) _
  have hP0 := (PBox.new w 0 0 false false).below ((Below.refl _ _).alloc (Nat.le_refl _) (.cells #[.int .i64 0, .int .i64 0, .string ⟨#[]⟩] 39))
  have hQ0 := Box.new (w.alloc (.cells #[.int .i64 0, .int .i64 0, .bool false, .bool false] 37)) 0 0 ⟨#[]⟩
  have hv0 := hv.below hb0
  obtain ⟨A, hA⟩ : ∃ A, A = ((w.alloc (.cells #[.int .i64 0, .int .i64 0, .bool false, .bool false] 37)).alloc (.cells #[.int .i64 0, .int .i64 0, .string ⟨#[]⟩] 39)).heap.size := ⟨_, rfl⟩
  have hA2 : A = w.heap.size + 2 := by rw [hA]; simp
  rw [show (w.alloc (.cells #[.int .i64 0, .int .i64 0, .bool false, .bool false] 37)).heap.size = w.heap.size + 1 by simp] at hQ0
  have hPA : w.heap.size < A := by omega
  have hQA : w.heap.size + 1 < A := by omega
  clear hA2
  go_enter Try.func34, Try.ntmps34
  go_wp2_with fail
  refine (l1New_at A ao n cap f _ hA hn hv0).mono ?_
  rintro e w1 ⟨rfl, hC1, hb1⟩
  have hP1 := hP0.below hb1
  have hQ1 := hQ0.below hb1
  have hB1 : Below w.heap.size w w1 := hb0.trans (hb1.mono hb0.size)
  clear hb0 hb1 hP0 hQ0 hv0 hA
  go_wp2_with fail
  refine (l5Any_any A ao n cap f w1 hn hC1).mono ?_
  rintro e w2 ⟨c, t, nul, d, rfl, hD⟩
  have hP2 := hP1.but hD.but (by omega)
  have hQ2 := hQ1.but hD.but (by omega)
  have hB2 : Below w.heap.size w w2 := hB1.trans (hD.but.below (by omega) hB1.size)
  have hC2 := hD.cur
  clear hD hP1 hQ1 hB1 hC1
  have hA2 := hC2.lt
  have hb3 : Below w2.heap.size w2 (w2.alloc (.cells #[.int .i64 c, .int .i64 t, .bool nul, .bool d] 37)) := (Below.refl _ _).alloc (Nat.le_refl _) _
  have hV3 := PBox.new w2 c t nul d
  have hP3 := hP2.below hb3
  have hQ3 := hQ2.below hb3
  have hC3 := hC2.below hb3
  have hB3 := hB2.trans (hb3.mono hB2.size)
  clear hP2 hQ2 hB2 hC2 hb3
  have hG := fun W h => l5Val_any A ao n cap f c t nul d W hn h
  go_wp2_with fail
  refine wp_region_held_drew (S := fun W => PBox W w2.heap.size c t nul d) (by kernel_rfl) (hV3.drew) (fun hHeld => ?_)
  refine' wpAnyH_take (i := 0) (v := _) rfl (by kernel_rfl) (by kernel_rfl) (by kernel_rfl) (fun _ _ _ h => h) (Or.inl ⟨by kernel_rfl, ?ha0⟩) (by assumption) ?ra0
  case ha0 => intro W hW; go_simp; all_goals with_reducible rfl
  change wpAnyH _ _ _ _ _ _ _ (Act.put _ (some 11) _) _
  simp only [Act.put, List.setIfInBounds_toArray, List.set_cons_zero, List.set_cons_succ]
  refine' wpAnyH_take (i := 2) (v := _) rfl (by kernel_rfl) (by kernel_rfl) (by kernel_rfl) (fun _ _ _ h => h) (Or.inl ⟨by kernel_rfl, ?ha2⟩) (by assumption) ?ra2
  case ha2 => intro W hW; obtain ⟨c0, c1, c2, c3⟩ := PBox.cells hW; go_simp; all_goals with_reducible rfl
  change wpAnyH _ _ _ _ _ _ _ (Act.put _ (some 13) _) _
  simp only [Act.put, List.setIfInBounds_toArray, List.set_cons_zero, List.set_cons_succ]
  refine' wpAnyH_take (i := 3) (v := _) rfl (by kernel_rfl) (by kernel_rfl) (by kernel_rfl) (fun _ _ _ h => h) (Or.inl ⟨by kernel_rfl, ?ha3⟩) (by assumption) ?ra3
  case ha3 => intro W hW; go_simp; all_goals with_reducible rfl
  change wpAnyH _ _ _ _ _ _ _ (Act.put _ (some 14) _) _
  simp only [Act.put, List.setIfInBounds_toArray, List.set_cons_zero, List.set_cons_succ]
  refine' wpAnyH_take (i := 4) (v := _) rfl (by kernel_rfl) (by kernel_rfl) (by kernel_rfl) (fun _ _ _ h => h) (Or.inl ⟨by kernel_rfl, ?ha4⟩) (by assumption) ?ra4
  case ha4 => intro W hW; obtain ⟨c0, c1, c2, c3⟩ := PBox.cells hW; go_simp; all_goals with_reducible rfl
  change wpAnyH _ _ _ _ _ _ _ (Act.put _ (some 15) _) _
  simp only [Act.put, List.setIfInBounds_toArray, List.set_cons_zero, List.set_cons_succ]
  refine wpAnyH_ready (rs := [1]) (by kernel_rfl) (by simp) ?_
  refine AllReadyH.cons rfl (fun KK hK => ?_) AllReadyH.nil
  go_simp
  refine (l1Some_any A ao n cap f _ hn hC3.drew).mono ?_
  rintro e w5 ⟨⟨b, cc, m, l, hD⟩, hC5, hK5⟩
  obtain ⟨rfl, h1, h2, h3, h4, h5, h6⟩ := hD
  have hV5 := hV3.drew.but hK5 (by omega)
  have hP5 := hP3.drew.but hK5 (by omega)
  have hQ5 := hQ3.drew.but hK5 (by omega)
  have hB5 : Below w.heap.size w w5 := hB3.drew.trans (hK5.below (by omega) hB3.drew.size)
  have hs5 := hK5.size
  have h3 : w2.heap.size + 1 ≤ b := by simpa using h3
  have hbl := h5.lt
  clear hV3 hP3 hQ3 hB3 hC3 hK5
  go_wp2_with fail
  refine hK.out _ _ hV5 (fun hHeld => ?_)
  clear hK KK
  try simp only [Act.put, List.setIfInBounds_toArray, List.set_cons_zero, List.set_cons_succ]
  refine wpAnyH_ready (rs := [5]) (by kernel_rfl) (by simp) ?_
  refine AllReadyH.cons rfl (fun KK hK => ?_) AllReadyH.nil
  go_simp
  refine (hG _ hC5).mono ?_
  rintro e w6 ⟨k, x, s, rfl, hD⟩
  have hV6 := hV5.but hD.but (by omega)
  have hP6 := hP5.but hD.but (by omega)
  have hQ6 := hQ5.but hD.but (by omega)
  have h7 : Row 5 w6 b m (fun i => l.getD i 0) := h5.of_block (hD.but.block b hbl (by omega))
  have hB6 : Below w.heap.size w w6 := hB5.trans (hD.but.below (by omega) hB5.size)
  have HX : Hid (I64 x ∧ s.size ≤ 40) := ⟨hD.m64, hD.few⟩
  clear hD hV5 hP5 hQ5 hB5 hC5 h5 hG
  go_wp2_with fail
  refine hK.out _ _ hV6 (fun hHeld => ?_)
  clear hK KK
  try simp only [Act.put, List.setIfInBounds_toArray, List.set_cons_zero, List.set_cons_succ]
  refine' wpAnyH_take (i := 6) (v := _) rfl (by kernel_rfl) (by kernel_rfl) (by kernel_rfl) (fun _ _ _ h => h) (Or.inl ⟨by kernel_rfl, ?ha6⟩) (by assumption) ?ra6
  case ha6 => intro W hW; go_simp; all_goals with_reducible rfl
  change wpAnyH _ _ _ _ _ _ _ (Act.put _ (some 2) _) _
  simp only [Act.put, List.setIfInBounds_toArray, List.set_cons_zero, List.set_cons_succ]
  obtain ⟨f0, f1, f2, f3⟩ := hP6.frozen
  obtain ⟨r0, r1, r2⟩ := hQ6.frozen
  obtain ⟨d0, d1, d2, d3⟩ := hP6.cells
  obtain ⟨p0, p1, p2⟩ := hQ6.cells
  have hPs := hP6.put c t nul d
  have hVs := hV6.others (D := w.heap.size) (by omega) c t nul d
  have hQs := hQ6.others (D := w.heap.size) (by omega) c t nul d
  have hVt := hVs.others3 (D := w.heap.size + 1) (by omega) k x s
  have hPt := hPs.others3 (D := w.heap.size + 1) (by omega) k x s
  have hQt := hQs.put k x s
  obtain ⟨g0, g1, g2, g3⟩ := hPt.cells
  obtain ⟨m0, m1, m2⟩ := hQt.cells
  obtain ⟨n0, n1, n2⟩ := hQs.cells
  obtain ⟨o0, o1, o2⟩ := hQs.frozen
  have HR : Hid (Row 5 _ b m (fun i => l.getD i 0)) := row_past (B := w.heap.size) h7 (by omega) (by omega) c t nul d k x s
  have HB : Hid (Below w.heap.size w _) := below_past hB6 c t nul d k x s
  clear hV6 hP6 hQ6 hB6 hPs hQs hPt hQt h7
  refine wpAnyH_ready (rs := [7]) (by kernel_rfl) (by simp) ?_
  refine AllReadyH.cons rfl (fun KK hK => ?_) AllReadyH.nil
  go_simp
  refine hK.out _ _ hVs (fun hHeld => ?_)
  clear hK KK
  try simp only [Act.put, List.setIfInBounds_toArray, List.set_cons_zero, List.set_cons_succ]
  refine wpAnyH_ready (rs := [8]) (by kernel_rfl) (by simp) ?_
  refine AllReadyH.cons rfl (fun KK hK => ?_) AllReadyH.nil
  go_simp
  refine hK.out _ _ hVt (fun hHeld => ?_)
  clear hK KK
  try simp only [Act.put, List.setIfInBounds_toArray, List.set_cons_zero, List.set_cons_succ]
  refine wpAnyH_done (by kernel_rfl) ?_ _
  go_wp2
  exact bodyPost_ret (v := .tuple #[.slice (some ⟨b, 0, none⟩) m cc, .agg #[.int .i64 c, .int .i64 t, .bool nul, .bool d], .agg #[.int .i64 k, .int .i64 x, .string s]]) (by simp [results, Try.results34, go_sem, g0, g1, g2, g3, m0, m1, m2]) rfl ⟨⟨b, cc, m, l, c, t, nul, d, k, x, s, rfl, HX.out.1, HX.out.2, h1, h2, by omega, h4, HR.out, h6⟩, HB.out⟩
end Go.Proofs.Ytbcgonfihdpjnab

/-
  Whether bytes are ahead of others, as texts are.
-/
namespace Go.Proofs.Ytbcgonfihdpjnab
open Go.RowKit
set_option maxRecDepth 4000

/-- Whether the bytes of the one are ahead of the other's. -/
def ahead (l k : List Int) : Bool := Op.bytesLess (strOfNums l).toList (strOfNums k).toList
theorem toList_data (s : ByteArray) : s.toList = s.data.toList := ByteArray.toList_eq s
end Go.Proofs.Ytbcgonfihdpjnab

/-
  Numbers in order, plainly: the order of their bytes is theirs, none is the beginning of another one, and they come back.
-/
namespace Go.Proofs.Ytbcgonfihdpjnab
open Go.RowKit
set_option maxRecDepth 4000

def u8 (z : Int) : UInt8 := UInt8.ofNat z.toNat
theorem u8_lt {a b : Int} (ha : 0 ≤ a ∧ a ≤ 255) (hb : 0 ≤ b ∧ b ≤ 255) : u8 a < u8 b ↔ a < b := by
  unfold u8
  rw [UInt8.lt_iff_toNat_lt, UInt8.toNat_ofNat', UInt8.toNat_ofNat']
  omega
theorem u8_inj {a b : Int} (ha : 0 ≤ a ∧ a ≤ 255) (hb : 0 ≤ b ∧ b ≤ 255) : u8 a = u8 b ↔ a = b := by
  constructor
  · intro h
    have := congrArg UInt8.toNat h
    unfold u8 at this
    rw [UInt8.toNat_ofNat', UInt8.toNat_ofNat'] at this
    omega
  · intro h; rw [h]

theorem less_snoc (x y : UInt8) : ∀ a b : List UInt8, a.length = b.length → Op.bytesLess (a ++ [x]) (b ++ [y]) = (Op.bytesLess a b || (decide (a = b) && decide (x < y)))
  | [], [], _ => by
    by_cases h : x < y
    · simp [Op.bytesLess, h]
    · simp [Op.bytesLess, h]
  | p :: ps, q :: qs, h => by
    have ih := less_snoc x y ps qs (by simpa using h)
    simp only [List.cons_append, Op.bytesLess]
    by_cases h1 : p < q
    · simp [h1]
    · by_cases h2 : p = q
      · subst h2
        simp [h1, ih]
      · have hb : (p == q) = false := by simpa using h2
        simp [h1, h2, hb]

theorem ahead_eq (l k : List Int) : ahead l k = Op.bytesLess (l.map u8) (k.map u8) := by
  unfold ahead
  rw [toList_data, toList_data, strOfNums_data, strOfNums_data]
  rfl
theorem lof_snoc (k : Nat) (f : Nat → Int) : lof (k + 1) f = lof k f ++ [f k] := by simp [lof, List.range_succ]

theorem map_u8_inj : ∀ (l k : List Int), (∀ y ∈ l, 0 ≤ y ∧ y ≤ 255) → (∀ y ∈ k, 0 ≤ y ∧ y ≤ 255) → (l.map u8 = k.map u8 ↔ l = k)
  | [], [], _, _ => by simp
  | [], _ :: _, _, _ => by simp
  | _ :: _, [], _, _ => by simp
  | x :: xs, y :: ys, h1, h2 => by
    have ih := map_u8_inj xs ys (fun z hz => h1 z (by simp [hz])) (fun z hz => h2 z (by simp [hz]))
    simp only [List.map_cons, List.cons.injEq, ih, u8_inj (h1 x (by simp)) (h2 y (by simp))]

section
variable {f g : Nat → Int}
theorem valF_inj (k : Nat) (hf : ∀ i, i < k → 0 ≤ f i ∧ f i ≤ 255) (hg : ∀ i, i < k → 0 ≤ g i ∧ g i ≤ 255) : lof k f = lof k g ↔ valF k f = valF k g := by
  constructor
  · intro h
    apply valF_congr
    intro i hi
    rw [← lof_get k f i hi, ← lof_get k g i hi, h]
  · intro h
    unfold lof
    apply List.map_congr_left
    intro i hi
    have hi := List.mem_range.1 hi
    rw [← be_valF k f hf i hi, ← be_valF k g hg i hi, h]

/-- Of as many bytes the order is that of the numbers. -/
theorem ahead_valF : ∀ (k : Nat), (∀ i, i < k → 0 ≤ f i ∧ f i ≤ 255) → (∀ i, i < k → 0 ≤ g i ∧ g i ≤ 255) → ahead (lof k f) (lof k g) = decide (valF k f < valF k g)
  | 0, _, _ => by rw [ahead_eq]; rfl
  | k + 1, hf, hg => by
    have ih := ahead_valF k (fun i hi => hf i (by omega)) (fun i hi => hg i (by omega))
    have hj := valF_inj k (fun i hi => hf i (by omega)) (fun i hi => hg i (by omega))
    have hfk := hf k (by omega)
    have hgk := hg k (by omega)
    rw [ahead_eq] at ih ⊢
    rw [lof_snoc, lof_snoc, List.map_append, List.map_append]
    show Op.bytesLess ((lof k f).map u8 ++ [u8 (f k)]) ((lof k g).map u8 ++ [u8 (g k)]) = _
    rw [less_snoc _ _ _ _ (by simp [lof_len]), ih]
    have e1 : ((lof k f).map u8 = (lof k g).map u8) = (valF k f = valF k g) := propext ((map_u8_inj _ _ (lof_byte (fun i hi => hf i (by omega))) (lof_byte (fun i hi => hg i (by omega)))).trans hj)
    have e2 : (u8 (f k) < u8 (g k)) = (f k < g k) := propext (u8_lt hfk hgk)
    simp only [e1, e2, valF]
    rw [← Bool.decide_and, ← Bool.decide_or]
    apply decide_eq_decide.2
    omega
end

theorem ahead_cons (x y : Int) (l k : List Int) (hx : 0 ≤ x ∧ x ≤ 255) (hy : 0 ≤ y ∧ y ≤ 255) : ahead (x :: l) (y :: k) = if x < y then true else if x = y then ahead l k else false := by
  rw [ahead_eq, ahead_eq]
  simp only [List.map_cons, Op.bytesLess]
  by_cases h1 : x < y
  · simp [h1, (u8_lt hx hy).2 h1]
  · have n1 : ¬ u8 x < u8 y := fun h => h1 ((u8_lt hx hy).1 h)
    by_cases h2 : x = y
    · subst h2; simp
    · have n2 : u8 x ≠ u8 y := fun h => h2 ((u8_inj hx hy).1 h)
      simp [h1, h2, n1, n2]

theorem clampF_self (x : Int) (h : -2147483648 ≤ x ∧ x ≤ 2147483647) : clampF x = x := by unfold clampF; rw [if_neg (by omega), if_neg (by omega)]
theorem clampV_self (x : Int) (h : -1000000000000000 ≤ x ∧ x ≤ 1000000000000000) : clampV x = x := by unfold clampV; rw [if_neg (by omega), if_neg (by omega)]
theorem valF_fix (x : Int) : valF 4 (be 4 (clampF x + 2147483648)) = clampF x + 2147483648 := by
  have := clampF_bd x
  have e : (256 : Int) ^ 4 = 4294967296 := by decide
  exact valF_be 4 _ (by omega) (by omega)
theorem fix_ahead (x y : Int) : ahead (fixL x) (fixL y) = decide (clampF x < clampF y) := by
  unfold fixL
  rw [ahead_valF 4 (fun i _ => be_bd _ _ i) (fun i _ => be_bd _ _ i), valF_fix, valF_fix]
  apply decide_eq_decide.2
  omega
theorem fixL_clamp (x : Int) : fixL (clampF x) = fixL x := by unfold fixL; rw [clampF_self _ (clampF_bd x)]
theorem varL_clamp (x : Int) : varL (clampV x) = varL x := by unfold varL; rw [clampV_self _ (clampV_bd x)]

theorem behind (l k : List Int) (m i : Nat) (h : l.length = m) : (l ++ k).getD (m + i) 0 = k.getD i 0 := by
  rw [List.getD_eq_getElem?_getD, List.getD_eq_getElem?_getD, List.getElem?_append_right (by omega), show m + i - l.length = i by omega]

section
variable {x y : Int} (hx : -1000000000000000 ≤ x ∧ x ≤ 1000000000000000) (hy : -1000000000000000 ≤ y ∧ y ≤ 1000000000000000)
include hx
theorem size_lt : sizeV x < 256 ^ cnt (sizeV x) := cnt_lt _ (by have := sizeV_bd x hx; omega)
theorem size_back : valF (cnt (sizeV x)) (be (cnt (sizeV x)) (sizeV x)) = sizeV x := valF_be _ _ (sizeV_bd x hx).1 (size_lt hx)
/-- The digits, turned or not, as a number. -/
theorem tail_val : valF (cnt (sizeV x)) (tailV x) = if x < 0 then 256 ^ cnt (sizeV x) + x else x := by
  have hb := size_back hx
  by_cases h : x < 0
  · rw [if_pos h]
    have e : sizeV x = -1 - x := by unfold sizeV; rw [if_pos h]
    have key : ∀ k, valF k (tailV x) = 256 ^ k - 1 - valF k (be (cnt (sizeV x)) (sizeV x)) := by
      intro k
      induction k with
      | zero => rfl
      | succ k ih =>
        rw [valF, valF, ih, Int.pow_succ]
        unfold tailV
        rw [if_pos h]
        omega
    rw [key, hb, e]
    omega
  · rw [if_neg h]
    have e : sizeV x = x := by unfold sizeV; rw [if_neg h]
    have : valF (cnt (sizeV x)) (tailV x) = valF (cnt (sizeV x)) (be (cnt (sizeV x)) (sizeV x)) := by
      apply valF_congr
      intro i _
      unfold tailV
      rw [if_neg h]
    rw [this, hb, e]

include hy
theorem head_lt (h : headV x < headV y) : x < y := by
  have lx := size_lt hx
  have ly := size_lt hy
  unfold headV at h
  by_cases h1 : x < 0
  · by_cases h2 : y < 0
    · rw [if_pos h1, if_pos h2] at h
      have e1 : sizeV x = -1 - x := by unfold sizeV; rw [if_pos h1]
      have e2 : sizeV y = -1 - y := by unfold sizeV; rw [if_pos h2]
      have hg := cnt_ge (sizeV x) (by omega)
      have hm : (256 : Int) ^ cnt (sizeV y) ≤ 256 ^ (cnt (sizeV x) - 1) := pow_mono (by omega)
      omega
    · omega
  · by_cases h2 : y < 0
    · rw [if_neg h1, if_pos h2] at h
      omega
    · rw [if_neg h1, if_neg h2] at h
      have e1 : sizeV x = x := by unfold sizeV; rw [if_neg h1]
      have e2 : sizeV y = y := by unfold sizeV; rw [if_neg h2]
      have hg := cnt_ge (sizeV y) (by omega)
      have hm : (256 : Int) ^ cnt (sizeV x) ≤ 256 ^ (cnt (sizeV y) - 1) := pow_mono (by omega)
      omega
omit hx hy in
theorem head_same (h : headV x = headV y) : cnt (sizeV x) = cnt (sizeV y) ∧ (x < 0 ↔ y < 0) := by
  unfold headV at h
  (repeat' split at h) <;> omega
theorem kept_ahead : ahead (keptL x) (keptL y) = decide (x < y) := by
  unfold keptL
  rw [ahead_cons _ _ _ _ (headV_bd x) (headV_bd y)]
  by_cases h1 : headV x < headV y
  · rw [if_pos h1, decide_eq_true (head_lt hx hy h1)]
  · rw [if_neg h1]
    by_cases h2 : headV x = headV y
    · rw [if_pos h2]
      obtain ⟨hc, hs⟩ := head_same h2
      have tx := tail_val hx
      have ty := tail_val hy
      rw [← hc] at ty ⊢
      rw [ahead_valF _ (fun i _ => tailV_bd x i) (fun i _ => tailV_bd y i), tx, ty]
      apply decide_eq_decide.2
      by_cases h : x < 0
      · rw [if_pos h, if_pos (hs.1 h)]; omega
      · rw [if_neg h, if_neg (fun h' => h (hs.2 h'))]
    · rw [if_neg h2, decide_eq_false]
      intro h
      rcases Int.lt_trichotomy (headV x) (headV y) with h3 | h3 | h3
      · exact h1 h3
      · exact h2 h3
      · have := head_lt hy hx h3
        omega
theorem kept_same (h : headV x = headV y) (ht : lof (cnt (sizeV x)) (tailV x) = lof (cnt (sizeV y)) (tailV y)) : x = y := by
  obtain ⟨hc, hs⟩ := head_same h
  have tx := tail_val hx
  have ty := tail_val hy
  rw [← hc] at ty ht
  have e := (valF_inj _ (fun i _ => tailV_bd x i) (fun i _ => tailV_bd y i)).1 ht
  rw [tx, ty] at e
  by_cases h : x < 0
  · rw [if_pos h, if_pos (hs.1 h)] at e; omega
  · rw [if_neg h, if_neg (fun h' => h (hs.2 h'))] at e; exact e
theorem kept_prefix {r : List Int} (h : keptL x = keptL y ++ r) : x = y := by
  have hh : headV x = headV y := by unfold keptL at h; simpa using (List.cons.inj h).1
  have hl := congrArg List.length h
  rw [List.length_append, keptL_len, keptL_len, (head_same hh).1] at hl
  have : r = [] := List.eq_nil_of_length_eq_zero (by omega)
  rw [this, List.append_nil] at h
  unfold keptL at h
  exact kept_same hx hy hh (List.cons.inj h).2
end
end Go.Proofs.Ytbcgonfihdpjnab

/-
  Numbers in order, plainly: they come back of their bytes, and what is read of bytes has these.
-/
namespace Go.Proofs.Ytbcgonfihdpjnab
open Go.RowKit
set_option maxRecDepth 4000

theorem getF_put (l : List Int) (m : Nat) (x : Int) (hl : l.length = m) : getF (m + 4) (fun i => (l ++ fixL x).getD i 0) (m : Int) = (clampF x, (m : Int) + 4, true) := by
  rw [getF_is _ _ _ (Nat.le_refl _)]
  have e : valF 4 (fun i => (l ++ fixL x).getD (m + i) 0) = clampF x + 2147483648 := by
    rw [← valF_fix x]
    apply valF_congr
    intro i hi
    rw [behind _ _ _ _ hl]
    unfold fixL
    rw [lof_get 4 _ i hi]
  rw [e]
  simp only [Prod.mk.injEq, and_true]
  omega

theorem fix_read {n : Nat} {F : Nat → Int} {p a q : Int} (hb : ∀ i, i < n → 0 ≤ F i ∧ F i ≤ 255) (h : getF n F p = (a, q, true)) :
    ∃ i : Nat, p = (i : Int) ∧ q = (i : Int) + 4 ∧ i + 4 ≤ n ∧ -2147483648 ≤ a ∧ a ≤ 2147483647 ∧ fixL a = lof 4 (fun j => F (i + j)) := by
  unfold getF at h
  split at h
  · simp at h
  · obtain ⟨i, rfl⟩ := Int.eq_ofNat_of_zero_le (a := p) (by omega)
    simp only [Prod.mk.injEq, and_true, Int.toNat_natCast] at h
    obtain ⟨rfl, rfl⟩ := h
    have hbi : ∀ j, j < 4 → 0 ≤ F (i + j) ∧ F (i + j) ≤ 255 := fun j hj => hb _ (by omega)
    have hv := valF4_bd (fun j => F (i + j)) hbi
    refine ⟨i, rfl, rfl, by omega, by omega, by omega, ?_⟩
    unfold fixL
    rw [clampF_self _ (by omega), Int.sub_add_cancel]
    unfold lof
    apply List.map_congr_left
    intro j hj
    exact be_valF 4 _ hbi j (List.mem_range.1 hj)

theorem hcnt_head (x : Int) : hcnt (headV x) = cnt (sizeV x) ∧ (headV x < 128 ↔ x < 0) := by
  unfold headV hcnt
  (repeat' split) <;> omega

theorem getV_put (l : List Int) (m : Nat) (x : Int) (hl : l.length = m) : getV (m + (varL x).length) (fun i => (l ++ varL x).getD i 0) (m : Int) = (clampV x, (m : Int) + ((varL x).length : Int), true) := by
  have hy := clampV_bd x
  unfold varL
  generalize clampV x = y at *
  have hlen := keptL_len y
  obtain ⟨hh, hs⟩ := hcnt_head y
  have hF0 : (l ++ keptL y).getD m 0 = headV y := by
    have := behind l (keptL y) m 0 hl
    rw [Nat.add_zero] at this
    rw [this]
    rfl
  have hFt : ∀ j, j < cnt (sizeV y) → (l ++ keptL y).getD (m + 1 + j) 0 = tailV y j := by
    intro j hj
    rw [Nat.add_assoc, behind _ _ _ _ hl, Nat.add_comm 1 j]
    show (lof (cnt (sizeV y)) (tailV y)).getD j 0 = _
    exact lof_get _ _ j hj
  have hD : ∀ j, j < cnt (sizeV y) → digF (fun i => (l ++ keptL y).getD i 0) m j = be (cnt (sizeV y)) (sizeV y) j := by
    intro j hj
    unfold digF turnF
    simp only [hF0, hFt j hj]
    unfold tailV
    by_cases h : y < 0
    · rw [if_pos (by simpa using hs.2 h), if_pos h]; omega
    · rw [if_neg (by simpa using fun h' => h (hs.1 h')), if_neg h]
  have hv : valF (cnt (sizeV y)) (digF (fun i => (l ++ keptL y).getD i 0) m) = sizeV y := by
    rw [valF_congr _ _ _ hD]
    exact size_back hy
  have hn : numV (fun i => (l ++ keptL y).getD i 0) m = y := by
    unfold numV
    simp only [hF0, hh, hv]
    unfold sizeV
    by_cases h : y < 0
    · rw [if_pos (hs.2 h), if_pos h]; omega
    · rw [if_neg (fun h' => h (hs.1 h')), if_neg h]
  rw [getV_is]
  · simp only [hF0, hh, hn, hlen, Prod.mk.injEq, and_true, true_and]
    omega
  · omega
  · simp only [hF0, hh, hlen]
    have := cnt_le (sizeV y)
    omega
  · unfold badV
    simp only [hF0, hh, hn]
    have hc := (cnt_valF (cnt (sizeV y)) (be (cnt (sizeV y)) (sizeV y)) (cnt_le _) (fun i _ => be_bd _ _ i)).1 (by rw [size_back hy])
    rintro (⟨h0, h1⟩ | h | h)
    · rw [hD 0 h0] at h1
      exact hc ⟨h0, h1⟩
    · omega
    · omega

theorem var_read {n : Nat} {F : Nat → Int} {p a q : Int} (hb : ∀ i, i < n → 0 ≤ F i ∧ F i ≤ 255) (h : getV n F p = (a, q, true)) :
    ∃ i : Nat, p = (i : Int) ∧ q = (i : Int) + ((varL a).length : Int) ∧ i + (varL a).length ≤ n ∧ -1000000000000000 ≤ a ∧ a ≤ 1000000000000000 ∧ varL a = lof (varL a).length (fun j => F (i + j)) := by
  by_cases h1 : p < 0 ∨ (n : Int) ≤ p
  · rw [getV_out n F p h1] at h; simp at h
  obtain ⟨i, rfl⟩ := Int.eq_ofNat_of_zero_le (a := p) (by omega)
  have hin : i < n := by omega
  by_cases h2 : 7 < hcnt (F i) ∨ n < i + 1 + hcnt (F i)
  · rw [getV_few n F i hin h2] at h; simp at h
  by_cases h3 : badV F i
  · rw [getV_bad n F i hin h2 h3] at h; simp at h
  rw [getV_is n F i hin h2 h3] at h
  simp only [Prod.mk.injEq, and_true] at h
  obtain ⟨rfl, rfl⟩ := h
  unfold badV at h3
  have hhi := hb i hin
  have hD : ∀ j, j < hcnt (F i) → 0 ≤ digF F i j ∧ digF F i j ≤ 255 := turnF_bd _ (fun j hj => hb _ (by omega))
  have hv := valF7 (hcnt (F i)) (digF F i) (by omega) hD
  have hcv := (cnt_valF (hcnt (F i)) (digF F i) (by omega) hD).2 (fun h => h3 (Or.inl h))
  have hbe := be_valF (hcnt (F i)) (digF F i) hD
  have hrange : -1000000000000000 ≤ numV F i ∧ numV F i ≤ 1000000000000000 := by omega
  have hneg : numV F i < 0 ↔ F i < 128 := by unfold numV; split <;> omega
  have hsz : sizeV (numV F i) = valF (hcnt (F i)) (digF F i) := by
    unfold sizeV
    by_cases h : F i < 128
    · rw [if_pos (hneg.2 h)]; unfold numV; rw [if_pos h]; omega
    · rw [if_neg (fun h' => h (hneg.1 h'))]; unfold numV; rw [if_neg h]
  have hlen : (varL (numV F i)).length = hcnt (F i) + 1 := by unfold varL; rw [clampV_self _ hrange, keptL_len, hsz, hcv]
  refine ⟨i, rfl, by rw [hlen]; omega, by rw [hlen]; omega, hrange.1, hrange.2, ?_⟩
  rw [hlen, Nat.add_comm (hcnt (F i)) 1, lof_cons]
  unfold varL keptL
  rw [clampV_self _ hrange, hsz, hcv]
  congr 1
  · unfold headV
    rw [hsz, hcv, Nat.add_zero]
    unfold hcnt
    by_cases h : F i < 128
    · rw [if_pos (hneg.2 h), if_pos h]; omega
    · rw [if_neg (fun h' => h (hneg.1 h')), if_neg h]; omega
  · unfold lof
    apply List.map_congr_left
    intro j hj
    have hj := List.mem_range.1 hj
    unfold tailV
    rw [hsz, hcv, hbe j hj, show i + (j + 1) = i + 1 + j by omega]
    unfold digF turnF
    by_cases h : F i < 128
    · rw [if_pos (hneg.2 h), if_pos (by simpa using h)]
      show 255 - (255 - F (i + 1 + j)) = F (i + 1 + j)
      omega
    · rw [if_neg (fun h' => h (hneg.1 h')), if_neg (by simpa using h)]
end Go.Proofs.Ytbcgonfihdpjnab

/-
  Texts in order, plainly: they come back of their bytes; the order of the bytes is theirs; none is the beginning of another one.
-/
namespace Go.Proofs.Ytbcgonfihdpjnab
open Go.RowKit
set_option maxRecDepth 4000

theorem byteBack (b : UInt8) : UInt8.ofNat ((b.toNat : Int)).toNat = b := by simp
theorem strOfNums_sl (s : ByteArray) : strOfNums (sl s) = s := by
  apply ByteArray.ext
  apply Array.toList_inj.1
  rw [strOfNums_data]
  unfold sl
  rw [List.map_map]
  conv => rhs; rw [← List.map_id s.data.toList]
  apply List.map_congr_left
  intro b _
  exact byteBack b
theorem sl_inj {s t : ByteArray} (h : sl s = sl t) : s = t := by rw [← strOfNums_sl s, ← strOfNums_sl t, h]

def escU : List UInt8 → List UInt8
  | [] => []
  | x :: xs => (if x = 0 then [0, 255] else [x]) ++ escU xs

theorem less_esc : ∀ a b : List UInt8, Op.bytesLess (escU a ++ [0, 1]) (escU b ++ [0, 1]) = Op.bytesLess a b
  | [], [] => by decide
  | [], y :: ys => by
    by_cases h : y = 0
    · subst h; simp [escU, Op.bytesLess]
    · have h0 : (0 : UInt8) < y := by
        rw [UInt8.lt_iff_toNat_lt]
        have : y.toNat ≠ 0 := fun e => h (UInt8.toNat_inj.1 e)
        show 0 < y.toNat
        omega
      simp [escU, Op.bytesLess, h, h0]
  | x :: xs, [] => by
    by_cases h : x = 0
    · subst h; simp [escU, Op.bytesLess]
    · simp [escU, Op.bytesLess, h]
  | x :: xs, y :: ys => by
    have ih := less_esc xs ys
    by_cases hx : x = 0
    · by_cases hy : y = 0
      · subst hx hy
        simp [escU, Op.bytesLess, ih]
      · subst hx
        have h0 : (0 : UInt8) < y := by
          rw [UInt8.lt_iff_toNat_lt]
          have : y.toNat ≠ 0 := fun e => hy (UInt8.toNat_inj.1 e)
          show 0 < y.toNat
          omega
        simp [escU, Op.bytesLess, hy, h0]
    · by_cases hy : y = 0
      · subst hy
        have hb : (x == 0) = false := by simpa using hx
        simp [escU, Op.bytesLess, hx, hb]
      · simp [escU, Op.bytesLess, hx, hy, ih]

theorem escL_U : ∀ l : List UInt8, (escL (l.map (fun b => (b.toNat : Int)))).map (fun n => UInt8.ofNat n.toNat) = escU l
  | [] => rfl
  | x :: xs => by
    have ih := escL_U xs
    simp only [List.map_cons, escL, List.map_append, ih, escU]
    congr 1
    by_cases h : x = 0
    · subst h; simp [esc1]
    · have : ((x.toNat : Int)) ≠ 0 := by
        intro e
        apply h
        apply UInt8.toNat_inj.1
        show x.toNat = 0
        omega
      unfold esc1
      rw [if_neg this, if_neg h]
      simp

theorem esc_ahead (s t : ByteArray) : ahead (escL (sl s) ++ [0, 1]) (escL (sl t) ++ [0, 1]) = Op.bytesLess s.toList t.toList := by
  unfold ahead
  rw [toList_data, toList_data, toList_data, toList_data, strOfNums_data, strOfNums_data, List.map_append, List.map_append]
  unfold sl
  rw [escL_U, escL_U]
  exact less_esc _ _

theorem esc_prefix {a b rest : List Int} (h : escL a ++ [0, 1] = (escL b ++ [0, 1]) ++ rest) : a = b := by
  have h1 := readE_put a []
  have h2 := readE_put b rest
  rw [h, List.append_assoc] at h1
  rw [show [0, 1] ++ rest = 0 :: 1 :: rest from rfl, h2] at h1
  cases h1
  rfl

theorem fromL_drop (l : List Int) (k : Nat) : fromL l.length (fun i => l.getD i 0) k = l.drop k := by
  unfold fromL lof
  apply List.ext_getElem
  · simp
  · intro i h1 h2
    simp at h1
    have : k + i < l.length := by omega
    simp [this]

theorem getE_putE (m : Nat) (f : Nat → Int) (s : ByteArray) : getE (m + escN s) (fun i => (escT m f s).getD i 0) (m : Int) = (s, ((m + escN s : Nat) : Int), true) := by
  have h := fromL_drop (escT m f s) m
  rw [escT_len] at h
  have h2 : readE (fromL (m + escN s) (fun i => (escT m f s).getD i 0) m) = some (sl s, escN s) := by
    rw [h]
    unfold escT
    rw [List.drop_left' (lof_len m f)]
    exact readE_put (sl s) []
  rw [getE_some h2, strOfNums_sl]
  simp

end Go.Proofs.Ytbcgonfihdpjnab

/-
  What is read as a text in order has these bytes.
-/
namespace Go.Proofs.Ytbcgonfihdpjnab
open Go.RowKit
set_option maxRecDepth 4000

theorem mem_escL {t : List Int} {y : Int} (h : y ∈ t) : y ∈ escL t := by
  induction t with
  | nil => cases h
  | cons x xs ih =>
    rcases List.mem_cons.1 h with rfl | h
    · refine List.mem_append_left _ ?_
      unfold esc1
      split
      · rename_i e; subst e; simp
      · simp
    · exact List.mem_append_right _ (ih h)

theorem sl_strOfNums {t : List Int} (h : ∀ y ∈ t, 0 ≤ y ∧ y ≤ 255) : sl (strOfNums t) = t :=
  strOfNums_inj (sl_byte _) h (strOfNums_sl _)

theorem fromL_len (n : Nat) (f : Nat → Int) (k : Nat) : (fromL n f k).length = n - k := by unfold fromL; rw [lof_len]

theorem getE_back {m : Nat} {F : Nat → Int} {x : Int} {s : ByteArray} {q : Int} (hF : ∀ i, i < m → 0 ≤ F i ∧ F i ≤ 255) (h : getE m F x = (s, q, true)) :
    ∃ p K : Nat, x = (p : Int) ∧ q = (p : Int) + (K : Int) ∧ p + K ≤ m ∧ 2 ≤ K ∧ s.size ≤ K ∧ lof K (fun i => F (p + i)) = escL (sl s) ++ [0, 1] := by
  unfold getE at h
  by_cases hx : x < 0
  · rw [if_pos hx] at h; cases h
  · rw [if_neg hx] at h
    cases hr : readE (fromL m F x.toNat) with
    | none => rw [hr] at h; cases h
    | some r =>
      obtain ⟨t, K⟩ := r
      rw [hr] at h
      cases h
      obtain ⟨h1, h2⟩ := readE_is _ _ _ hr
      rw [fromL_len] at h1
      have hK : K = (escL t).length + 2 := by
        have := congrArg List.length h2
        rw [List.length_take, fromL_len, List.length_append] at this
        simp at this
        omega
      have hle := escL_len t
      have e1 : (fromL m F x.toNat).take K = lof K (fun i => F (x.toNat + i)) := by
        unfold fromL lof
        rw [← List.map_take, List.take_range, Nat.min_eq_left h1]
      rw [e1] at h2
      have hby : ∀ y ∈ t, 0 ≤ y ∧ y ≤ 255 := by
        intro y hy
        have hm : y ∈ lof K (fun i => F (x.toNat + i)) := by rw [h2]; exact List.mem_append_left _ (mem_escL hy)
        simp only [lof, List.mem_map, List.mem_range] at hm
        obtain ⟨j, hj, rfl⟩ := hm
        exact hF _ (by omega)
      refine ⟨x.toNat, K, by omega, by omega, by omega, by omega, ?_, ?_⟩
      · show (strOfNums t).size ≤ K
        rw [strOfNums_size]; omega
      · rw [sl_strOfNums hby]; exact h2
end Go.Proofs.Ytbcgonfihdpjnab

/-
  One value in a key, plainly: it comes back of its bytes, and what is read of bytes fits and has these.
-/
namespace Go.Proofs.Ytbcgonfihdpjnab
open Go.RowKit
set_option maxRecDepth 4000

theorem turned_twice (d : Bool) (f : Nat → Int) : turned d (turned d f) = f := by
  unfold turned
  cases d
  · rfl
  · funext i
    show 255 - (255 - f i) = f i
    omega

/-- What a value is of its kind. -/
theorem okF_cases {k n : Int} {s : ByteArray} (h : okF k n s = true) :
    (k = 0 ∧ n = 0 ∧ s = noBytes) ∨ (k = 1 ∧ (-2147483648 ≤ n ∧ n ≤ 2147483647) ∧ s = noBytes) ∨ (k = 2 ∧ (-1000000000000000 ≤ n ∧ n ≤ 1000000000000000) ∧ s = noBytes) ∨ (k = 3 ∧ n = 0 ∧ s.size ≤ 30) ∨ (k = 4 ∧ (n = 0 ∨ n = 1) ∧ s = noBytes) := by
  obtain ⟨v, hr, rfl, rfl, rfl⟩ := okF_iff.1 h
  cases v with
  | null => left; exact ⟨rfl, rfl, rfl⟩
  | int n => right; left; exact ⟨rfl, by simpa [V.rng, V.n] using hr, rfl⟩
  | num n => right; right; left; exact ⟨rfl, by simpa [V.rng, V.n] using hr, rfl⟩
  | text s => right; right; right; left; exact ⟨rfl, rfl, by simpa [V.rng, V.s] using hr⟩
  | bool b => right; right; right; right; exact ⟨rfl, by cases b <;> simp [V.n], rfl⟩

theorem rawT_put (l : List Int) (m : Nat) (k n : Int) (s : ByteArray) (hl : l.length = m) (hok : okF k n s = true) (h0 : k ≠ 0) :
    rawT (m + (valL k n s).length) (fun i => (l ++ valL k n s).getD i 0) k (m : Int) = ⟨k, n, s, (m : Int) + ((valL k n s).length : Int), true⟩ := by
  unfold rawT
  rcases okF_cases hok with ⟨rfl, -⟩ | ⟨rfl, hn, rfl⟩ | ⟨rfl, hn, rfl⟩ | ⟨rfl, rfl, hs⟩ | ⟨rfl, hn, rfl⟩
  · exact absurd rfl h0
  · have hv : valL 1 n noBytes = fixL n := rfl
    rw [hv, if_pos rfl, fixL_len, getF_put l m n hl, clampF_self n hn]
    rfl
  · have hv : valL 2 n noBytes = varL n := rfl
    rw [hv, if_neg (by decide), if_pos rfl, getV_put l m n hl, clampV_self n hn]
  · have hv : valL 3 0 s = escL (sl s) ++ [0, 1] := rfl
    rw [hv, if_neg (by decide), if_neg (by decide), if_pos rfl]
    have e := getE_putE m (fun i => l.getD i 0) s
    have hlf : lof m (fun i => l.getD i 0) = l := by have := lof_self l; rw [hl] at this; exact this
    unfold escT escN at e
    rw [hlf] at e
    have hlen : (escL (sl s) ++ [0, 1]).length = (escL (sl s)).length + 2 := by simp
    rw [hlen, e]
    simp
  · have hv : valL 4 n noBytes = [n % 256] := rfl
    rw [hv, if_neg (by decide), if_neg (by decide), if_neg (by decide)]
    have e : (l ++ [n % 256]).getD m 0 = n := by
      have := behind l [n % 256] m 0 hl
      rw [Nat.add_zero] at this
      rw [this]
      show n % 256 = n
      omega
    have hlen : ([n % 256] : List Int).length = 1 := rfl
    rw [hlen, if_pos (by omega), Int.toNat_natCast]
    simp only [e]
    rfl

theorem chk_self (g : Got) (h1 : g.ok = true) (h2 : okF g.k g.n g.s = true) : g.chk = g := by unfold Got.chk; rw [h1, h2]; rfl

/-- What fits comes back. -/
theorem part_back (l : List Int) (m : Nat) (c t : Int) (nul d : Bool) (k n : Int) (s : ByteArray) (hl : l.length = m) (hp : partOk c t = true) (hf : fitsP t nul k n s = true) :
    getP (m + (partL nul k n s).length) (turned d (fun i => (l ++ partL nul k n s).getD i 0)) c t nul d (m : Int) = ⟨k, n, s, (m : Int) + ((partL nul k n s).length : Int), true⟩ := by
  unfold getP
  rw [if_neg (by rw [hp]; simp; omega), turned_twice]
  unfold fitsP at hf
  simp only [Bool.and_eq_true, Bool.or_eq_true, decide_eq_true_eq] at hf
  obtain ⟨hok, hk⟩ := hf
  unfold getN partL
  rcases hk with ⟨rfl, h0⟩ | ⟨rfl, rfl⟩
  · rw [if_neg h0]
    cases nul with
    | false =>
      simp only [Bool.false_eq_true, if_false]
      unfold getT
      rw [rawT_put l m k n s hl hok h0]
      exact chk_self _ rfl hok
    | true =>
      simp only [if_true]
      have e1 : (l ++ 1 :: valL k n s).getD m 0 = 1 := by
        have := behind l (1 :: valL k n s) m 0 hl
        rw [Nat.add_zero] at this
        rw [this]
        rfl
      have hlen : (1 :: valL k n s).length = (valL k n s).length + 1 := rfl
      rw [Int.toNat_natCast, e1, if_neg (by rw [hlen]; omega), if_neg (by decide)]
      unfold getT
      have e := rawT_put (l ++ [1]) (m + 1) k n s (by simp [hl]) hok h0
      rw [List.append_assoc] at e
      have e' : ([1] ++ valL k n s : List Int) = 1 :: valL k n s := rfl
      rw [e'] at e
      rw [show ((m + 1 : Nat) : Int) = (m : Int) + 1 by omega] at e
      rw [show m + (1 :: valL k n s).length = m + 1 + (valL k n s).length by rw [hlen]; omega, e]
      rw [show (m : Int) + 1 + ((valL k n s).length : Int) = (m : Int) + ((1 :: valL k n s).length : Int) by rw [hlen]; omega]
      exact chk_self _ rfl hok
  · rcases okF_cases hok with ⟨-, rfl, rfl⟩ | ⟨h, -⟩ | ⟨h, -⟩ | ⟨h, -⟩ | ⟨h, -⟩
    · simp only [if_true]
      have e1 : (l ++ [0]).getD m 0 = 0 := by
        have := behind l [0] m 0 hl
        rw [Nat.add_zero] at this
        rw [this]
        rfl
      rw [Int.toNat_natCast, e1, if_neg (by simp; omega), if_pos rfl]
      rfl
    all_goals exact absurd h (by decide)

theorem chk_ok {g h : Got} (e : g.chk = h) (ho : h.ok = true) : g = h ∧ okF g.k g.n g.s = true ∧ g.ok = true := by
  unfold Got.chk at e
  by_cases hc : g.ok = true ∧ okF g.k g.n g.s = true
  · rw [if_pos (by rw [hc.1, hc.2]; rfl)] at e
    exact ⟨e, hc.2, hc.1⟩
  · rw [if_neg (by rw [Bool.and_eq_true]; exact hc)] at e
    subst e
    cases ho

theorem rawT_read {N : Nat} {F : Nat → Int} {t p k n q : Int} {s : ByteArray} (hb : ∀ i, i < N → 0 ≤ F i ∧ F i ≤ 255) (ht : 1 ≤ t ∧ t ≤ 4) (h : rawT N F t p = ⟨k, n, s, q, true⟩) (hok : okF k n s = true) :
    k = t ∧ ∃ i : Nat, p = (i : Int) ∧ q = (i : Int) + ((valL k n s).length : Int) ∧ i + (valL k n s).length ≤ N ∧ valL k n s = lof (valL k n s).length (fun j => F (i + j)) := by
  unfold rawT at h
  obtain rfl | rfl | rfl | rfl : t = 1 ∨ t = 2 ∨ t = 3 ∨ t = 4 := by omega
  · rw [if_pos rfl] at h
    simp only [Got.mk.injEq] at h
    obtain ⟨rfl, h1, rfl, h2, h3⟩ := h
    obtain ⟨i, rfl, rfl, hi, -, -, hL⟩ := fix_read hb (p := p) (a := n) (q := q) (by rw [← h1, ← h2, ← h3])
    have hv : valL 1 n noBytes = fixL n := rfl
    rw [hv, fixL_len]
    exact ⟨rfl, i, rfl, rfl, hi, hL⟩
  · rw [if_neg (by decide), if_pos rfl] at h
    simp only [Got.mk.injEq] at h
    obtain ⟨rfl, h1, rfl, h2, h3⟩ := h
    obtain ⟨i, rfl, rfl, hi, -, -, hL⟩ := var_read hb (p := p) (a := n) (q := q) (by rw [← h1, ← h2, ← h3])
    have hv : valL 2 n noBytes = varL n := rfl
    rw [hv]
    exact ⟨rfl, i, rfl, rfl, hi, hL⟩
  · rw [if_neg (by decide), if_neg (by decide), if_pos rfl] at h
    simp only [Got.mk.injEq] at h
    obtain ⟨rfl, rfl, h1, h2, h3⟩ := h
    obtain ⟨i, K, rfl, rfl, hi, -, -, hL⟩ := getE_back hb (x := p) (s := s) (q := q) (by rw [← h1, ← h2, ← h3])
    have hv : valL 3 0 s = escL (sl s) ++ [0, 1] := rfl
    have hK : (valL 3 0 s).length = K := by rw [hv, ← hL, lof_len]
    rw [hK, hv]
    exact ⟨rfl, i, rfl, rfl, hi, hL.symm⟩
  · rw [if_neg (by decide), if_neg (by decide), if_neg (by decide)] at h
    by_cases hp : 0 ≤ p ∧ p < N
    · rw [if_pos hp] at h
      simp only [Got.mk.injEq] at h
      obtain ⟨rfl, rfl, rfl, rfl, -⟩ := h
      obtain ⟨i, rfl⟩ := Int.eq_ofNat_of_zero_le hp.1
      have hbi := hb i (by omega)
      have hv : valL 4 (F i) noBytes = [F i % 256] := rfl
      rw [Int.toNat_natCast, hv]
      refine ⟨rfl, i, rfl, rfl, by show i + 1 ≤ N; omega, ?_⟩
      show [F i % 256] = [F (i + 0)]
      rw [Nat.add_zero, Int.emod_eq_of_lt hbi.1 (by omega)]
    · rw [if_neg hp] at h
      simp at h

theorem turned_bd {d : Bool} {N : Nat} {F : Nat → Int} (hb : ∀ i, i < N → 0 ≤ F i ∧ F i ≤ 255) : ∀ i, i < N → 0 ≤ turned d F i ∧ turned d F i ≤ 255 := by
  intro i hi
  have := hb i hi
  unfold turned
  cases d
  · exact this
  · show 0 ≤ 255 - F i ∧ 255 - F i ≤ 255; omega
theorem turnL_lof (d : Bool) (k : Nat) (F : Nat → Int) (i : Nat) : turnL d (lof k (fun j => turned d F (i + j))) = lof k (fun j => F (i + j)) := by
  unfold turnL turned
  cases d
  · rfl
  · simp only [if_true]
    unfold lof
    rw [List.map_map]
    apply List.map_congr_left
    intro j _
    show 255 - (255 - F (i + j)) = F (i + j)
    omega

/-- What is read fits, and has these bytes. -/
theorem part_read {N : Nat} {F : Nat → Int} {c t : Int} {nul d : Bool} {p k n q : Int} {s : ByteArray} (hb : ∀ i, i < N → 0 ≤ F i ∧ F i ≤ 255) (h : getP N F c t nul d p = ⟨k, n, s, q, true⟩) :
    partOk c t = true ∧ fitsP t nul k n s = true ∧ ∃ i : Nat, p = (i : Int) ∧ q = (i : Int) + ((putPL c t nul d k n s).length : Int) ∧ i + (putPL c t nul d k n s).length ≤ N ∧ putPL c t nul d k n s = lof (putPL c t nul d k n s).length (fun j => F (i + j)) := by
  unfold getP at h
  by_cases h1 : partOk c t = false ∨ p < 0 ∨ (N : Int) < p
  · rw [if_pos h1] at h
    exact absurd (congrArg Got.ok h) (fun e => by cases e)
  rw [if_neg h1] at h
  have hp : partOk c t = true := by simpa using fun e => h1 (Or.inl e)
  obtain ⟨i, rfl⟩ := Int.eq_ofNat_of_zero_le (a := p) (by omega)
  have hbt := turned_bd (d := d) hb
  have ht : 1 ≤ t ∧ t ≤ 4 := by unfold partOk at hp; simp at hp; omega
  -- what is to be shown, of the bytes ahead of a turn
  have key : ∀ K : Nat, fitsP t nul k n s = true → q = (i : Int) + (K : Int) → i + K ≤ N → partL nul k n s = lof K (fun j => turned d F (i + j)) →
      partOk c t = true ∧ fitsP t nul k n s = true ∧ ∃ i' : Nat, (i : Int) = (i' : Int) ∧ q = (i' : Int) + ((putPL c t nul d k n s).length : Int) ∧ i' + (putPL c t nul d k n s).length ≤ N ∧ putPL c t nul d k n s = lof (putPL c t nul d k n s).length (fun j => F (i' + j)) := by
    intro K hf hq hi hL
    have e : putPL c t nul d k n s = lof K (fun j => F (i + j)) := by
      unfold putPL
      rw [hp, hf, hL]
      exact turnL_lof d K F i
    rw [e, lof_len]
    exact ⟨hp, hf, i, rfl, hq, hi, rfl⟩
  unfold getN at h
  cases nul with
  | false =>
    simp only [Bool.false_eq_true, if_false] at h
    obtain ⟨h2, hok, -⟩ := chk_ok h rfl
    rw [h2] at hok
    obtain ⟨rfl, i', hi', hq, hle, hL⟩ := rawT_read hbt ht h2 hok
    obtain rfl : i = i' := by omega
    have hf : fitsP k false k n s = true := by unfold fitsP; rw [hok]; simp; omega
    refine key _ hf hq hle ?_
    have : partL false k n s = valL k n s := by unfold partL; rw [if_neg (by omega)]; rfl
    rw [this]
    exact hL
  | true =>
    simp only [if_true, Int.toNat_natCast] at h
    by_cases h3 : (i : Int) = N ∨ 1 < turned d F i
    · rw [if_pos h3] at h
      exact absurd (congrArg Got.ok h) (fun e => by cases e)
    rw [if_neg h3] at h
    have hin : i < N := by omega
    have hbi := hbt i hin
    by_cases h4 : turned d F i = 0
    · rw [if_pos h4] at h
      simp only [Got.mk.injEq, and_true] at h
      obtain ⟨rfl, rfl, rfl, rfl⟩ := h
      have h0 : okF 0 0 noBytes = true := by simp [okF, ofFields, V.rng, V.k, V.n, V.s]
      refine key 1 (by unfold fitsP; rw [h0]; simp) rfl (by omega) ?_
      show [0] = [turned d F (i + 0)]
      rw [Nat.add_zero, h4]
    · rw [if_neg h4] at h
      have h5 : turned d F i = 1 := by omega
      obtain ⟨h2, hok, -⟩ := chk_ok h rfl
      rw [h2] at hok
      obtain ⟨rfl, i', hi', hq, hle, hL⟩ := rawT_read hbt ht h2 hok
      obtain rfl : i' = i + 1 := by omega
      have hf : fitsP k true k n s = true := by unfold fitsP; rw [hok]; simp
      refine key (1 + (valL k n s).length) hf (by omega) (by omega) ?_
      have : partL true k n s = 1 :: valL k n s := by unfold partL; rw [if_neg (by omega)]; rfl
      rw [this, lof_cons, Nat.add_zero, h5]
      congr 1
      rw [hL, lof_len]
      unfold lof
      apply List.map_congr_left
      intro j _
      rw [show i + (j + 1) = i + 1 + j by omega]
end Go.Proofs.Ytbcgonfihdpjnab

/-
  A value, a place and a word, as they are handed back.
-/
namespace Go.Proofs.Ytbcgonfihdpjnab
open Go.RowKit
set_option maxRecDepth 4000

def gotRet (g : Got) : Ending := .returned (.tuple #[.agg #[.int .i64 g.k, .int .i64 g.n, .string g.s], .int .i64 g.q, .bool g.ok])
end Go.Proofs.Ytbcgonfihdpjnab

