/-
  Together: LexBytes, LexImpl, JoinPlain, TokJoin, TokAll, BytesEq, TokOkImpl, StrRow, GrowStr, NamesImpl, ConcatImpl, WordImpl
-/
import Derived.Test.YtfjlmkphncigladGreatDoorPack1
import Derived.Test.YtfjlmkphncigladGreatDoorShelf
import Derived.Test.YtfjlmkphncigladGreatDoorPack3
import Derived.Deep.LoopGhost
import Derived.BigQuiet
import Derived.Deep.QuietTactic
import Derived.Test.YtfjlmkphncigladGreatDoorProg
import Derived.Lib.AppendZeros
/-
  What the program asks of one byte; a text cloned.
-/
namespace Go.Proofs.YtfjlmkphncigladGreatDoor
open Go.RowKit
set_option maxRecDepth 4000

set_option maxHeartbeats 1000000 in
theorem isBlank_any (c : Int) (w : World) : Calls Tryz.prog 86 #[.int .u8 c] w fun e w' => e = .returned (.bool (blank c)) ∧ w = w' := by
  have HB : Hid (blank c = (c == 32 || c == 9 || c == 10 || c == 13)) := by show _ = _; unfold blank; rw [Bool.eq_iff_iff]; simp [or_assoc]
  go_enter Tryz.func86, Tryz.ntmps86
  go_wp2
  all_goals
    go_ret
    exact ⟨by rw [HB.out]; simp [*], rfl⟩
set_option maxHeartbeats 1000000 in
theorem isMark_any (c : Int) (w : World) : Calls Tryz.prog 88 #[.int .u8 c] w fun e w' => e = .returned (.bool (markC c)) ∧ w = w' := by
  have HB : Hid (markC c = (c == 123 || c == 125 || c == 44 || c == 59)) := by show _ = _; unfold markC; rw [Bool.eq_iff_iff]; simp [or_assoc]
  go_enter Tryz.func88, Tryz.ntmps88
  go_wp2
  all_goals
    go_ret
    exact ⟨by rw [HB.out]; simp [*], rfl⟩
set_option maxHeartbeats 1000000 in
theorem isLetter_any (c : Int) (w : World) (h0 : 0 ≤ c) (h1 : c ≤ 255) : Calls Tryz.prog 87 #[.int .u8 c] w fun e w' => e = .returned (.bool (small c)) ∧ w = w' := by
  have HB : Hid (small c = (decide (97 ≤ c) && decide (c ≤ 122))) := by show _ = _; unfold small; simp
  by_cases h : 97 ≤ c
  · go_enter Tryz.func87, Tryz.ntmps87
    go_wp2
    go_ret
    exact ⟨by rw [HB.out]; simp [h], rfl⟩
  · go_enter Tryz.func87, Tryz.ntmps87
    go_wp2
    go_ret
    exact ⟨by rw [HB.out]; simp; omega, rfl⟩
set_option maxHeartbeats 1000000 in
theorem isDigit_any (c : Int) (w : World) (h0 : 0 ≤ c) (h1 : c ≤ 255) : Calls Tryz.prog 89 #[.int .u8 c] w fun e w' => e = .returned (.bool (digit c)) ∧ w = w' := by
  have HB : Hid (digit c = (decide (48 ≤ c) && decide (c ≤ 57))) := by show _ = _; unfold digit; simp
  by_cases h : 48 ≤ c
  · go_enter Tryz.func89, Tryz.ntmps89
    go_wp2
    go_ret
    exact ⟨by rw [HB.out]; simp [h], rfl⟩
  · go_enter Tryz.func89, Tryz.ntmps89
    go_wp2
    go_ret
    exact ⟨by rw [HB.out]; simp; omega, rfl⟩
theorem strClone_tok (s : ByteArray) (w : World) (hs : s.size ≤ 281474976710656) :
    Calls Tryz.prog 90 #[.string s] w fun e w' => e = .returned (.string s) ∧ Below w.heap.size w w' := by
  go_enter Tryz.func90, Tryz.ntmps90
  go_wp2_with (go_at_call 96; refine (Tryz.stringslite_Clone s _ hs).mono ?_; rintro e w2 ⟨rfl, hB⟩)
  go_ret
  exact ⟨rfl, hB⟩
end Go.Proofs.YtfjlmkphncigladGreatDoor

/-
  The program's Lex: from state to state.
-/
namespace Go.Proofs.YtfjlmkphncigladGreatDoor
open Go.RowKit
set_option maxRecDepth 4000

/-- What holds between two tokens. -/
structure Inv (s : ByteArray) (w : World) (r : List (Int × ByteArray) × Int) (i : Nat) (l : List (Int × ByteArray)) (v : Value) (W : World) : Prop where
  le : i ≤ s.size
  ne : v ≠ .slice none 0 0
  few : l.length ≤ 500
  lex : lexF s i l = r
  own : W.ownsRow w.heap.size 124 2 v l.length (rowL l)
  below : Below w.heap.size w W
def jLex (s : ByteArray) (w : World) (r : List (Int × ByteArray) × Int) : Nat → Act → World → Prop
  | 0, a, W => ∃ (i : Nat) (l : List (Int × ByteArray)) (v : Value), (∃ u5 u7 u8 u9 u10 u11 u12 u13 u14 u15 u16 u17 u18 u19 u20 u21 u22 u23 u24 u25 u26 u27 u28 u29 u30 u31 u32 u33 u34 u35 u36 u37 u38 u39 u40 u41 u42 u43 u44 u45 u46 u47 u48 u49 u50 u51 u52 u53 u54 u55 u56 u57 u58 u59 u60 u61 u62 u63 u64 u65 u66 u67 u68 u69 u70 u71 u72 u73 u74 u75 u76 : Value, a = { tmps := #[.string s, undef, .slice none 0 0, .int .i64 0, v, u5, .int .i64 i, u7, u8, u9, u10, u11, u12, u13, u14, u15, u16, u17, u18, u19, u20, u21, u22, u23, u24, u25, u26, u27, u28, u29, u30, u31, u32, u33, u34, u35, u36, u37, u38, u39, u40, u41, u42, u43, u44, u45, u46, u47, u48, u49, u50, u51, u52, u53, u54, u55, u56, u57, u58, u59, u60, u61, u62, u63, u64, u65, u66, u67, u68, u69, u70, u71, u72, u73, u74, u75, u76], defers := [] }) ∧ Inv s w r i l v W
  | 1, a, W => ∃ (i : Nat), (∃ u4 u6 u7 u8 u9 u10 u11 u12 u13 u14 u15 u16 u17 u18 u19 u20 u21 u22 u23 u24 u25 u26 u27 u28 u29 u30 u31 u32 u33 u34 u35 u36 u37 u38 u39 u40 u41 u42 u43 u44 u45 u46 u47 u48 u49 u50 u51 u52 u53 u54 u55 u56 u57 u58 u59 u60 u61 u62 u63 u64 u65 u66 u67 u68 u69 u70 u71 u72 u73 u74 u75 u76 : Value, a = { tmps := #[.string s, undef, .slice none 0 0, .int .i64 0, u4, .int .i64 i, u6, u7, u8, u9, u10, u11, u12, u13, u14, u15, u16, u17, u18, u19, u20, u21, u22, u23, u24, u25, u26, u27, u28, u29, u30, u31, u32, u33, u34, u35, u36, u37, u38, u39, u40, u41, u42, u43, u44, u45, u46, u47, u48, u49, u50, u51, u52, u53, u54, u55, u56, u57, u58, u59, u60, u61, u62, u63, u64, u65, u66, u67, u68, u69, u70, u71, u72, u73, u74, u75, u76], defers := [] }) ∧ r = ([], (i : Int)) ∧ Below w.heap.size w W
  | 2, a, W => ∃ (i j : Nat) (l : List (Int × ByteArray)) (v : Value), (∃ u7 u8 u9 u10 u11 u12 u13 u14 u15 u16 u17 u18 u19 u20 u21 u22 u23 u24 u25 u26 u27 u28 u29 u30 u31 u32 u33 u34 u35 u36 u37 u38 u39 u40 u41 u42 u43 u44 u45 u46 u47 u48 u49 u50 u51 u52 u53 u54 u55 u56 u57 u58 u59 u60 u61 u62 u63 u64 u65 u66 u67 u68 u69 u70 u71 u72 u73 u74 u75 u76 : Value, a = { tmps := #[.string s, undef, .slice none 0 0, .int .i64 0, v, .int .i64 i, .int .i64 j, u7, u8, u9, u10, u11, u12, u13, u14, u15, u16, u17, u18, u19, u20, u21, u22, u23, u24, u25, u26, u27, u28, u29, u30, u31, u32, u33, u34, u35, u36, u37, u38, u39, u40, u41, u42, u43, u44, u45, u46, u47, u48, u49, u50, u51, u52, u53, u54, u55, u56, u57, u58, u59, u60, u61, u62, u63, u64, u65, u66, u67, u68, u69, u70, u71, u72, u73, u74, u75, u76], defers := [] }) ∧ Inv s w r i l v W ∧ l.length ≠ 500 ∧ small (bt s i) = true ∧ i < j ∧ j ≤ s.size ∧ endN s j = endN s (i + 1)
  | 3, a, W => ∃ (i j : Nat) (l : List (Int × ByteArray)) (v : Value), (∃ u7 u8 u9 u10 u11 u12 u13 u14 u15 u16 u17 u18 u19 u20 u21 u22 u23 u24 u25 u26 u27 u28 u29 u30 u31 u32 u33 u34 u35 u36 u37 u38 u39 u40 u41 u42 u43 u44 u45 u46 u47 u48 u49 u50 u51 u52 u53 u54 u55 u56 u57 u58 u59 u60 u61 u62 u63 u64 u65 u66 u67 u68 u69 u70 u71 u72 u73 u74 u75 u76 : Value, a = { tmps := #[.string s, undef, .slice none 0 0, .int .i64 0, v, .int .i64 i, .int .i64 j, u7, u8, u9, u10, u11, u12, u13, u14, u15, u16, u17, u18, u19, u20, u21, u22, u23, u24, u25, u26, u27, u28, u29, u30, u31, u32, u33, u34, u35, u36, u37, u38, u39, u40, u41, u42, u43, u44, u45, u46, u47, u48, u49, u50, u51, u52, u53, u54, u55, u56, u57, u58, u59, u60, u61, u62, u63, u64, u65, u66, u67, u68, u69, u70, u71, u72, u73, u74, u75, u76], defers := [] }) ∧ Inv s w r i l v W ∧ l.length ≠ 500 ∧ markC (bt s i) = true ∧ j = i + 1 ∧ j ≤ s.size
  | _, _, _ => False
def muLex (s : ByteArray) (l : Nat) (a : Act) (_ : World) : Nat := if l = 1 then 0 else 4 * (s.size - (intOf (a.tmps.getD 6 undef)).toNat) + (if l = 0 then 1 else 2)

set_option maxRecDepth 100000 in
set_option maxHeartbeats 4000000 in
theorem implLex_any (s : ByteArray) (w : World) (hs : s.size ≤ 281474976710656) :
    Calls Tryz.prog 78 #[.string s] w (LexTo w (lexF s 0 [])) := by
  obtain ⟨i0, hi, hz0, hz1, hz2⟩ := infoTok2
  obtain ⟨r, hr⟩ : ∃ r, Hid (lexF s 0 [] = r) := ⟨_, rfl⟩
  rw [hr.out]
  have hO0 := World.ownsRow_lit (base := w.heap.size) (e := 124) (size := 2) w #[] 0 (Nat.le_refl _) (Nat.zero_le _) rfl
  have hB0 : Below w.heap.size w (w.alloc (.cells #[] 124)) := (Below.refl _ _).alloc (Nat.le_refl _) _
  have HI0 : Hid (Inv s w r 0 [] (.slice (some ⟨w.heap.size, 0, none⟩) 0 0) (w.alloc (.cells #[] 124))) := ⟨Nat.zero_le _, by simp, by simp, hr.out, hO0, hB0⟩
  clear hO0 hB0
  go_enter Tryz.func78, Tryz.ntmps78
  go_wp2
  refine wp_scope_goto (jLex s w r) (muLex s) ?lab ?pass ?first
  case lab =>
    rintro l a W h
    match l, h with
    | 0, _ => exact ⟨_, rfl⟩
    | 1, _ => exact ⟨_, rfl⟩
    | 2, _ => exact ⟨_, rfl⟩
    | 3, _ => exact ⟨_, rfl⟩
    | n + 4, h => exact h.elim
  case first =>
    intro F
    go_wp2
    refine wp_label ?_
    next K h => exact h _ _ (F 0 _ _ _ rfl ⟨0, [], _, ⟨_, _, _, _, _, _, _, _, _, _, _, _, _, _, _, _, _, _, _, _, _, _, _, _, _, _, _, _, _, _, _, _, _, _, _, _, _, _, _, _, _, _, _, _, _, _, _, _, _, _, _, _, _, _, _, _, _, _, _, _, _, _, _, _, _, _, _, _, _, _, _, rfl⟩, HI0.out⟩)
  case pass =>
    clear HI0
    rintro T l a W X hX hJ hT
    match l, hJ with
    | 0, hJ =>
      obtain ⟨i, l, v, ⟨u5, u7, u8, u9, u10, u11, u12, u13, u14, u15, u16, u17, u18, u19, u20, u21, u22, u23, u24, u25, u26, u27, u28, u29, u30, u31, u32, u33, u34, u35, u36, u37, u38, u39, u40, u41, u42, u43, u44, u45, u46, u47, u48, u49, u50, u51, u52, u53, u54, u55, u56, u57, u58, u59, u60, u61, u62, u63, u64, u65, u66, u67, u68, u69, u70, u71, u72, u73, u74, u75, u76, rfl⟩, hI⟩ := hJ
      obtain rfl := (Code.seq.inj (Option.some.inj hX)).2
      clear hX
      have HT : Hid (∀ l' a' w', jLex s w r l' a' w' → muLex s l' a' w' < muLex s 0 { tmps := #[.string s, undef, .slice none 0 0, .int .i64 0, v, u5, .int .i64 i, u7, u8, u9, u10, u11, u12, u13, u14, u15, u16, u17, u18, u19, u20, u21, u22, u23, u24, u25, u26, u27, u28, u29, u30, u31, u32, u33, u34, u35, u36, u37, u38, u39, u40, u41, u42, u43, u44, u45, u46, u47, u48, u49, u50, u51, u52, u53, u54, u55, u56, u57, u58, u59, u60, u61, u62, u63, u64, u65, u66, u67, u68, u69, u70, u71, u72, u73, u74, u75, u76], defers := [] } W → T l' a' w') := hT
      clear hT
      by_cases hlt : i < s.size
      · have hiz : ((i : Int) == (s.size : Int)) = false := by simp; omega
        have hiz2 : (i : Int) < (s.size : Int) := by omega
        have hc := bt_at hlt
        have hbd := bt_bd s i
        obtain ⟨c, hcc⟩ : ∃ c, Hid (bt s i = c) := ⟨_, rfl⟩
        rw [hcc.out] at hc hbd
        have hS1 := isBlank_any c W
        have hS2 := isLetter_any c W hbd.1 hbd.2
        have hS3 := isMark_any c W
        go_wp2_with (rw [hc])
        refine hS1.mono ?_
        rintro e _ ⟨rfl, rfl⟩
        clear hS1
        cases hb : blank c with
        | true =>
          have HN : Hid (Inv s w r (i + 1) l v W) := ⟨by have := hI.le; omega, hI.ne, hI.few, (lexF_blank hlt (by rw [hcc.out]; exact hb)).symm.trans hI.lex, hI.own, hI.below⟩
          clear hI hS2 hS3
          go_wp2
          go_step3
          refine HT.out 0 _ _ ⟨i + 1, l, v, ⟨_, _, _, _, _, _, _, _, _, _, _, _, _, _, _, _, _, _, _, _, _, _, _, _, _, _, _, _, _, _, _, _, _, _, _, _, _, _, _, _, _, _, _, _, _, _, _, _, _, _, _, _, _, _, _, _, _, _, _, _, _, _, _, _, _, _, _, _, _, _, _, rfl⟩, HN.out⟩ ?_
          simp [muLex, intOf]
          omega
        | false =>
          obtain ⟨a5, c5, rfl⟩ : ∃ a5 c5, v = .slice a5 l.length c5 := by
            rcases hI.own.2 with ⟨e, _⟩ | ⟨g, c', cur, e, _⟩
            · exact absurd e hI.ne
            · exact ⟨_, _, e⟩
          by_cases hl : l.length = 500
          · have hlz : ((l.length : Int) == 500) = true := by simp; omega
            have HR : Hid (r = ([], (i : Int)) ∧ Below w.heap.size w W) := by
              refine ⟨?_, hI.below⟩
              have e := hI.lex
              rw [lexF_no hlt (by rw [hcc.out]; exact hb) (fun h => h.2 hl)] at e
              exact e.symm
            clear hI hS2 hS3 hl
            go_wp2
            go_step3
            refine HT.out 1 _ _ ⟨i, ⟨_, _, _, _, _, _, _, _, _, _, _, _, _, _, _, _, _, _, _, _, _, _, _, _, _, _, _, _, _, _, _, _, _, _, _, _, _, _, _, _, _, _, _, _, _, _, _, _, _, _, _, _, _, _, _, _, _, _, _, _, _, _, _, _, _, _, _, _, _, _, _, _, rfl⟩, HR.out⟩ ?_
            simp [muLex, intOf]
          · have hlz : ((l.length : Int) == 500) = false := by simp; omega
            have HL : Hid (l.length ≠ 500) := hl
            clear hl
            go_wp2_with (rw [hc])
            refine hS2.mono ?_
            rintro e _ ⟨rfl, rfl⟩
            clear hS2
            cases hsm : small c with
            | true =>
              have HM : Hid (small (bt s i) = true) := by show _ = _; rw [hcc.out]; exact hsm
              have HI : Hid (Inv s w r i l (.slice a5 l.length c5) W) := hI
              clear hI hS3
              go_wp2
              go_step3
              refine HT.out 2 _ _ ⟨i, i + 1, l, .slice a5 l.length c5, ⟨_, _, _, _, _, _, _, _, _, _, _, _, _, _, _, _, _, _, _, _, _, _, _, _, _, _, _, _, _, _, _, _, _, _, _, _, _, _, _, _, _, _, _, _, _, _, _, _, _, _, _, _, _, _, _, _, _, _, _, _, _, _, _, _, _, _, _, _, _, _, rfl⟩, HI.out, HL.out, HM.out, by omega, by omega, rfl⟩ ?_
              simp [muLex, intOf]
              omega
            | false =>
              go_wp2_with (rw [hc])
              refine hS3.mono ?_
              rintro e _ ⟨rfl, rfl⟩
              clear hS3
              cases hm : markC c with
              | true =>
                have HM : Hid (markC (bt s i) = true) := by show _ = _; rw [hcc.out]; exact hm
                have HI : Hid (Inv s w r i l (.slice a5 l.length c5) W) := hI
                clear hI
                go_wp2
                go_step3
                refine HT.out 3 _ _ ⟨i, i + 1, l, .slice a5 l.length c5, ⟨_, _, _, _, _, _, _, _, _, _, _, _, _, _, _, _, _, _, _, _, _, _, _, _, _, _, _, _, _, _, _, _, _, _, _, _, _, _, _, _, _, _, _, _, _, _, _, _, _, _, _, _, _, _, _, _, _, _, _, _, _, _, _, _, _, _, _, _, _, _, rfl⟩, HI.out, HL.out, HM.out, rfl, by omega⟩ ?_
                simp [muLex, intOf]
                omega
              | false =>
                have HR : Hid (r = ([], (i : Int)) ∧ Below w.heap.size w W) := by
                  refine ⟨?_, hI.below⟩
                  have e := hI.lex
                  rw [lexF_no hlt (by rw [hcc.out]; exact hb) (fun h => by
                    have h1 := h.1
                    have hk := other_kind (s := s) (i := i) (by rw [hcc.out]; exact hsm)
                    rw [hk.1, hk.2] at h1
                    have h2 : markOk (s.extract i (i + 1)) = true := h1
                    rw [mark_ok hlt, hcc.out, hm] at h2
                    cases h2)] at e
                  exact e.symm
                clear hI
                go_wp2
                go_step3
                refine HT.out 1 _ _ ⟨i, ⟨_, _, _, _, _, _, _, _, _, _, _, _, _, _, _, _, _, _, _, _, _, _, _, _, _, _, _, _, _, _, _, _, _, _, _, _, _, _, _, _, _, _, _, _, _, _, _, _, _, _, _, _, _, _, _, _, _, _, _, _, _, _, _, _, _, _, _, _, _, _, _, _, rfl⟩, HR.out⟩ ?_
                simp [muLex, intOf]
      · have hiz : ((i : Int) == (s.size : Int)) = true := by have := hI.le; simp; omega
        have HR : Hid (LexTo w r (.returned (.tuple #[v, .int .i64 (-1)])) W) := by
          have e := hI.lex
          rw [lexF_end hlt] at e
          rw [← e]
          exact ⟨v, rfl, hI.ne, hI.own, hI.below⟩
        clear hI HT
        go_wp2
        rw [jumps_ret]
        exact bodyPost_ret (v := .tuple #[v, .int .i64 (-1)]) (by simp [results, Tryz.results78, go_sem]) rfl HR.out
    | 1, hJ =>
      obtain ⟨i, ⟨u4, u6, u7, u8, u9, u10, u11, u12, u13, u14, u15, u16, u17, u18, u19, u20, u21, u22, u23, u24, u25, u26, u27, u28, u29, u30, u31, u32, u33, u34, u35, u36, u37, u38, u39, u40, u41, u42, u43, u44, u45, u46, u47, u48, u49, u50, u51, u52, u53, u54, u55, u56, u57, u58, u59, u60, u61, u62, u63, u64, u65, u66, u67, u68, u69, u70, u71, u72, u73, u74, u75, u76, rfl⟩, hr1, hB⟩ := hJ
      obtain rfl := (Code.seq.inj (Option.some.inj hX)).2
      clear hX hT
      have HR : Hid (LexTo w r (.returned (.tuple #[.slice (some ⟨W.heap.size, 0, none⟩) 0 0, .int .i64 (i : Int)])) (W.alloc (.cells #[] 124))) := by
        rw [hr1]
        exact ⟨_, rfl, by simp, World.ownsRow_lit (base := w.heap.size) (e := 124) (size := 2) W #[] 0 hB.size (Nat.zero_le _) rfl, hB.alloc hB.size _⟩
      clear hr1 hB hr
      go_wp2
      rw [jumps_ret]
      exact bodyPost_ret (v := .tuple #[.slice (some ⟨W.heap.size, 0, none⟩) 0 0, .int .i64 (i : Int)]) (by simp [results, Tryz.results78, go_sem]) rfl HR.out
    | 2, hJ =>
      obtain ⟨i, j, l, v, ⟨u7, u8, u9, u10, u11, u12, u13, u14, u15, u16, u17, u18, u19, u20, u21, u22, u23, u24, u25, u26, u27, u28, u29, u30, u31, u32, u33, u34, u35, u36, u37, u38, u39, u40, u41, u42, u43, u44, u45, u46, u47, u48, u49, u50, u51, u52, u53, u54, u55, u56, u57, u58, u59, u60, u61, u62, u63, u64, u65, u66, u67, u68, u69, u70, u71, u72, u73, u74, u75, u76, rfl⟩, hI, hl, hsm, hij0, hjs, hend⟩ := hJ
      obtain rfl := (Code.seq.inj (Option.some.inj hX)).2
      clear hX
      have HT : Hid (∀ l' a' w', jLex s w r l' a' w' → muLex s l' a' w' < muLex s 2 { tmps := #[.string s, undef, .slice none 0 0, .int .i64 0, v, .int .i64 i, .int .i64 j, u7, u8, u9, u10, u11, u12, u13, u14, u15, u16, u17, u18, u19, u20, u21, u22, u23, u24, u25, u26, u27, u28, u29, u30, u31, u32, u33, u34, u35, u36, u37, u38, u39, u40, u41, u42, u43, u44, u45, u46, u47, u48, u49, u50, u51, u52, u53, u54, u55, u56, u57, u58, u59, u60, u61, u62, u63, u64, u65, u66, u67, u68, u69, u70, u71, u72, u73, u74, u75, u76], defers := [] } W → T l' a' w') := hT
      clear hT
      have hlt : i < s.size := by omega
      have HNB : Hid (blank (bt s i) = false) := small_not hsm
      have HSM : Hid (small (bt s i) = true) := hsm
      have HKS : Hid (kindAt s i = 1 ∧ stopAt s i = endN s (i + 1)) := small_kind hsm
      have HEN : Hid (endN s j = endN s (i + 1)) := hend
      clear hsm hend
      have FIN : Hid (endN s (i + 1) = j → tokOk 1 (s.extract i j) = decide (j - i ≤ 8)) := by
        intro e
        have := name_ok hlt HSM.out
        rw [e] at this
        exact this
      by_cases hjl : j < s.size
      · have hjl2 : (j : Int) < (s.size : Int) := by omega
        have hd := bt_at hjl
        have hdb := bt_bd s j
        obtain ⟨d, hdd⟩ : ∃ d, Hid (bt s j = d) := ⟨_, rfl⟩
        rw [hdd.out] at hd hdb
        have hS := isLetter_any d W hdb.1 hdb.2
        have hD := isDigit_any d W hdb.1 hdb.2
        go_wp2_with (rw [hd])
        refine hS.mono ?_
        rintro e _ ⟨rfl, rfl⟩
        clear hS
        cases hs2 : small d with
        | true =>
          have HN : Hid (endN s (j + 1) = endN s (i + 1)) := by show _ = _; rw [← HEN.out]; exact (endN_step hjl (by rw [hdd.out]; unfold inName; rw [hs2]; rfl)).symm
          have HI : Hid (Inv s w r i l v W) := hI
          have HL : Hid (l.length ≠ 500) := hl
          clear hI hD hl FIN
          go_wp2
          go_step3
          refine HT.out 2 _ _ ⟨i, j + 1, l, v, ⟨_, _, _, _, _, _, _, _, _, _, _, _, _, _, _, _, _, _, _, _, _, _, _, _, _, _, _, _, _, _, _, _, _, _, _, _, _, _, _, _, _, _, _, _, _, _, _, _, _, _, _, _, _, _, _, _, _, _, _, _, _, _, _, _, _, _, _, _, _, _, rfl⟩, HI.out, HL.out, HSM.out, by omega, by omega, HN.out⟩ ?_
          simp [muLex, intOf]
          omega
        | false =>
          go_wp2_with (rw [hd])
          refine hD.mono ?_
          rintro e _ ⟨rfl, rfl⟩
          clear hD
          cases hd2 : digit d with
          | true =>
            have HN : Hid (endN s (j + 1) = endN s (i + 1)) := by show _ = _; rw [← HEN.out]; exact (endN_step hjl (by rw [hdd.out]; unfold inName; rw [hd2]; simp)).symm
            have HI : Hid (Inv s w r i l v W) := hI
            have HL : Hid (l.length ≠ 500) := hl
            clear hI hl FIN
            go_wp2
            go_step3
            refine HT.out 2 _ _ ⟨i, j + 1, l, v, ⟨_, _, _, _, _, _, _, _, _, _, _, _, _, _, _, _, _, _, _, _, _, _, _, _, _, _, _, _, _, _, _, _, _, _, _, _, _, _, _, _, _, _, _, _, _, _, _, _, _, _, _, _, _, _, _, _, _, _, _, _, _, _, _, _, _, _, _, _, _, _, rfl⟩, HI.out, HL.out, HSM.out, by omega, by omega, HN.out⟩ ?_
            simp [muLex, intOf]
            omega
          | false =>
            have HE : Hid (endN s (i + 1) = j) := by show _ = _; rw [← HEN.out]; exact endN_stop (fun h => by have := h.2; rw [hdd.out] at this; unfold inName at this; rw [hs2, hd2] at this; cases this)
            clear hs2 hd2
            have HOK0 : Hid (tokOk 1 (s.extract i j) = decide (j - i ≤ 8)) := FIN.out HE.out
            rw [HE.out] at HKS
            clear FIN HEN
            by_cases h8 : j - i ≤ 8
            · have h8z : ¬ (8 : Int) < (j : Int) - (i : Int) := by omega
              have HOK : Hid (tokOk 1 (s.extract i j) = true) := by show _ = _; rw [HOK0.out]; exact decide_eq_true h8
              clear HOK0
              have HNX : Hid (lexF s j (l ++ [(1, s.extract i j)]) = r) := by
                show _ = _
                rw [← hI.lex, lexF_tok hlt HNB.out (by rw [HKS.out.1, HKS.out.2]; exact HOK.out) hl, HKS.out.1, HKS.out.2]
              have hij : (i : Int) ≤ (j : Int) := by omega
              have hjz : (j : Int) ≤ (s.size : Int) := by omega
              have hsub : (s.extract i j).size ≤ 281474976710656 := by rw [ByteArray.size_extract]; omega
              obtain ⟨sub, hsb⟩ : ∃ sub, Hid (s.extract i j = sub) := ⟨_, rfl⟩
              rw [hsb.out] at hsub HOK HNX
              have hC := strClone_tok sub W hsub
              have hown := hI.own
              have hB := hI.below
              have HNE : Hid (v ≠ .slice none 0 0) := hI.ne
              have HL5 : Hid (l.length < 500) := by show _ < _; have := hI.few; omega
              obtain ⟨a5, c5, rfl⟩ : ∃ a5 c5, v = .slice a5 l.length c5 := by
                rcases hown.2 with ⟨e, _⟩ | ⟨g, c', cur, e, _⟩
                · exact absurd e HNE.out
                · exact ⟨_, _, e⟩
              clear hI HOK
              go_wp2_with (rw [hsb.out])
              refine hC.mono ?_
              rintro e w4 ⟨rfl, hb4⟩
              have hown4 := own_below2 hown hb4
              have hB4 := hB.trans (hb4.mono hB.size)
              have hcl := cells_tok w4 1 sub
              have hs4 := hB4.size
              have hl5 := HL5.out
              clear hC hown hB hb4 hl
              go_wp2_with (at_builtin; refine wpList_append_own _ rfl (.tmp 57) (.tmp 64) 136 rfl w.heap.size 124 i0 (.agg #[.int .i64 0, .string ⟨#[]⟩]) 2 24 Tryz.underlying136 hi hz0 hz1 hz2 rfl (by decide) (.slice a5 l.length c5) _ _ rfl (own_below2 hown4 ((Below.refl _ _).alloc (Nat.le_refl _) _)) ⟨w4.heap.size, 0, none⟩ 1 1 [.int .i64 1, .string sub] rfl rfl hcl (one_tok _ _) (by unfold maxLen; omega) (by omega) (by simp; omega) ?_; intro v5 w5 hown5 hgr5 hnil5)
              have hb5 : Below w4.heap.size w4 (w4.alloc (.cells #[.int .i64 1, .string sub] 124)) := (Below.refl _ _).alloc (Nat.le_refl _) _
              have HI5 : Hid (Inv s w r j (l ++ [((1 : Int), sub)]) v5 w5) := by
                refine ⟨by omega, fun e => HNE.out (hnil5.1 e).1, by rw [List.length_append]; simp; omega, HNX.out, by rw [rowL_snoc, List.length_append]; exact hown5, ?_⟩
                exact (hB4.trans (hb5.mono hs4)).grown hgr5 (by have := (hB4.trans (hb5.mono hs4)).size; exact this) (fun j e => ((own_below2 hown4 hb5).lt j e).1)
              clear hown4 hown5 hgr5 hnil5 hcl hB4 hb5
              go_wp2
              go_step3
              refine HT.out 0 _ _ ⟨j, l ++ [(1, sub)], v5, ⟨_, _, _, _, _, _, _, _, _, _, _, _, _, _, _, _, _, _, _, _, _, _, _, _, _, _, _, _, _, _, _, _, _, _, _, _, _, _, _, _, _, _, _, _, _, _, _, _, _, _, _, _, _, _, _, _, _, _, _, _, _, _, _, _, _, _, _, _, _, _, _, rfl⟩, HI5.out⟩ ?_
              simp [muLex, intOf]
            · have h8z : (8 : Int) < (j : Int) - (i : Int) := by omega
              have HR : Hid (r = ([], (i : Int)) ∧ Below w.heap.size w W) := by
                refine ⟨?_, hI.below⟩
                have e := hI.lex
                rw [lexF_no hlt HNB.out (fun h => by have h1 := h.1; rw [HKS.out.1, HKS.out.2, HOK0.out] at h1; exact h8 (of_decide_eq_true h1))] at e
                exact e.symm
              clear hI HOK0 hl
              go_wp2
              go_step3
              refine HT.out 1 _ _ ⟨i, ⟨_, _, _, _, _, _, _, _, _, _, _, _, _, _, _, _, _, _, _, _, _, _, _, _, _, _, _, _, _, _, _, _, _, _, _, _, _, _, _, _, _, _, _, _, _, _, _, _, _, _, _, _, _, _, _, _, _, _, _, _, _, _, _, _, _, _, _, _, _, _, _, _, rfl⟩, HR.out⟩ ?_
              simp [muLex, intOf]
      · have hjl2 : ¬ (j : Int) < (s.size : Int) := by omega
        have HE : Hid (endN s (i + 1) = j) := by show _ = _; rw [← HEN.out]; exact endN_stop (fun h => hjl h.1)
        have HOK0 : Hid (tokOk 1 (s.extract i j) = decide (j - i ≤ 8)) := FIN.out HE.out
        rw [HE.out] at HKS
        clear FIN HEN
        by_cases h8 : j - i ≤ 8
        · have h8z : ¬ (8 : Int) < (j : Int) - (i : Int) := by omega
          have HOK : Hid (tokOk 1 (s.extract i j) = true) := by show _ = _; rw [HOK0.out]; exact decide_eq_true h8
          clear HOK0
          have HNX : Hid (lexF s j (l ++ [(1, s.extract i j)]) = r) := by
            show _ = _
            rw [← hI.lex, lexF_tok hlt HNB.out (by rw [HKS.out.1, HKS.out.2]; exact HOK.out) hl, HKS.out.1, HKS.out.2]
          have hij : (i : Int) ≤ (j : Int) := by omega
          have hjz : (j : Int) ≤ (s.size : Int) := by omega
          have hsub : (s.extract i j).size ≤ 281474976710656 := by rw [ByteArray.size_extract]; omega
          obtain ⟨sub, hsb⟩ : ∃ sub, Hid (s.extract i j = sub) := ⟨_, rfl⟩
          rw [hsb.out] at hsub HOK HNX
          have hC := strClone_tok sub W hsub
          have hown := hI.own
          have hB := hI.below
          have HNE : Hid (v ≠ .slice none 0 0) := hI.ne
          have HL5 : Hid (l.length < 500) := by show _ < _; have := hI.few; omega
          obtain ⟨a5, c5, rfl⟩ : ∃ a5 c5, v = .slice a5 l.length c5 := by
            rcases hown.2 with ⟨e, _⟩ | ⟨g, c', cur, e, _⟩
            · exact absurd e HNE.out
            · exact ⟨_, _, e⟩
          clear hI HOK
          go_wp2_with (rw [hsb.out])
          refine hC.mono ?_
          rintro e w4 ⟨rfl, hb4⟩
          have hown4 := own_below2 hown hb4
          have hB4 := hB.trans (hb4.mono hB.size)
          have hcl := cells_tok w4 1 sub
          have hs4 := hB4.size
          have hl5 := HL5.out
          clear hC hown hB hb4 hl
          go_wp2_with (at_builtin; refine wpList_append_own _ rfl (.tmp 57) (.tmp 64) 136 rfl w.heap.size 124 i0 (.agg #[.int .i64 0, .string ⟨#[]⟩]) 2 24 Tryz.underlying136 hi hz0 hz1 hz2 rfl (by decide) (.slice a5 l.length c5) _ _ rfl (own_below2 hown4 ((Below.refl _ _).alloc (Nat.le_refl _) _)) ⟨w4.heap.size, 0, none⟩ 1 1 [.int .i64 1, .string sub] rfl rfl hcl (one_tok _ _) (by unfold maxLen; omega) (by omega) (by simp; omega) ?_; intro v5 w5 hown5 hgr5 hnil5)
          have hb5 : Below w4.heap.size w4 (w4.alloc (.cells #[.int .i64 1, .string sub] 124)) := (Below.refl _ _).alloc (Nat.le_refl _) _
          have HI5 : Hid (Inv s w r j (l ++ [((1 : Int), sub)]) v5 w5) := by
            refine ⟨by omega, fun e => HNE.out (hnil5.1 e).1, by rw [List.length_append]; simp; omega, HNX.out, by rw [rowL_snoc, List.length_append]; exact hown5, ?_⟩
            exact (hB4.trans (hb5.mono hs4)).grown hgr5 (by have := (hB4.trans (hb5.mono hs4)).size; exact this) (fun j e => ((own_below2 hown4 hb5).lt j e).1)
          clear hown4 hown5 hgr5 hnil5 hcl hB4 hb5
          go_wp2
          go_step3
          refine HT.out 0 _ _ ⟨j, l ++ [(1, sub)], v5, ⟨_, _, _, _, _, _, _, _, _, _, _, _, _, _, _, _, _, _, _, _, _, _, _, _, _, _, _, _, _, _, _, _, _, _, _, _, _, _, _, _, _, _, _, _, _, _, _, _, _, _, _, _, _, _, _, _, _, _, _, _, _, _, _, _, _, _, _, _, _, _, _, rfl⟩, HI5.out⟩ ?_
          simp [muLex, intOf]
        · have h8z : (8 : Int) < (j : Int) - (i : Int) := by omega
          have HR : Hid (r = ([], (i : Int)) ∧ Below w.heap.size w W) := by
            refine ⟨?_, hI.below⟩
            have e := hI.lex
            rw [lexF_no hlt HNB.out (fun h => by have h1 := h.1; rw [HKS.out.1, HKS.out.2, HOK0.out] at h1; exact h8 (of_decide_eq_true h1))] at e
            exact e.symm
          clear hI HOK0 hl
          go_wp2
          go_step3
          refine HT.out 1 _ _ ⟨i, ⟨_, _, _, _, _, _, _, _, _, _, _, _, _, _, _, _, _, _, _, _, _, _, _, _, _, _, _, _, _, _, _, _, _, _, _, _, _, _, _, _, _, _, _, _, _, _, _, _, _, _, _, _, _, _, _, _, _, _, _, _, _, _, _, _, _, _, _, _, _, _, _, _, rfl⟩, HR.out⟩ ?_
          simp [muLex, intOf]
    | 3, hJ =>
      obtain ⟨i, j, l, v, ⟨u7, u8, u9, u10, u11, u12, u13, u14, u15, u16, u17, u18, u19, u20, u21, u22, u23, u24, u25, u26, u27, u28, u29, u30, u31, u32, u33, u34, u35, u36, u37, u38, u39, u40, u41, u42, u43, u44, u45, u46, u47, u48, u49, u50, u51, u52, u53, u54, u55, u56, u57, u58, u59, u60, u61, u62, u63, u64, u65, u66, u67, u68, u69, u70, u71, u72, u73, u74, u75, u76, rfl⟩, hI, hl, hmk, hji, hjs⟩ := hJ
      obtain rfl := (Code.seq.inj (Option.some.inj hX)).2
      clear hX
      have HT : Hid (∀ l' a' w', jLex s w r l' a' w' → muLex s l' a' w' < muLex s 3 { tmps := #[.string s, undef, .slice none 0 0, .int .i64 0, v, .int .i64 i, .int .i64 j, u7, u8, u9, u10, u11, u12, u13, u14, u15, u16, u17, u18, u19, u20, u21, u22, u23, u24, u25, u26, u27, u28, u29, u30, u31, u32, u33, u34, u35, u36, u37, u38, u39, u40, u41, u42, u43, u44, u45, u46, u47, u48, u49, u50, u51, u52, u53, u54, u55, u56, u57, u58, u59, u60, u61, u62, u63, u64, u65, u66, u67, u68, u69, u70, u71, u72, u73, u74, u75, u76], defers := [] } W → T l' a' w') := hT
      clear hT
      have hlt : i < s.size := by omega
      obtain ⟨hns, hnb⟩ := mark_not hmk
      have HNB : Hid (blank (bt s i) = false) := hnb
      have HKS : Hid (kindAt s i = 2 ∧ stopAt s i = j) := by rw [hji]; exact other_kind hns
      have HOK : Hid (tokOk 2 (s.extract i j) = true) := by rw [hji]; exact (mark_ok hlt).trans hmk
      have hj1 : i < j := by omega
      clear hns hnb hmk hji
      have HNX : Hid (lexF s j (l ++ [(2, s.extract i j)]) = r) := by
        show _ = _
        rw [← hI.lex, lexF_tok hlt HNB.out (by rw [HKS.out.1, HKS.out.2]; exact HOK.out) hl, HKS.out.1, HKS.out.2]
      have hij : (i : Int) ≤ (j : Int) := by omega
      have hjz : (j : Int) ≤ (s.size : Int) := by omega
      have hsub : (s.extract i j).size ≤ 281474976710656 := by rw [ByteArray.size_extract]; omega
      obtain ⟨sub, hsb⟩ : ∃ sub, Hid (s.extract i j = sub) := ⟨_, rfl⟩
      rw [hsb.out] at hsub HOK HNX
      have hC := strClone_tok sub W hsub
      have hown := hI.own
      have hB := hI.below
      have HNE : Hid (v ≠ .slice none 0 0) := hI.ne
      have HL5 : Hid (l.length < 500) := by show _ < _; have := hI.few; omega
      obtain ⟨a5, c5, rfl⟩ : ∃ a5 c5, v = .slice a5 l.length c5 := by
        rcases hown.2 with ⟨e, _⟩ | ⟨g, c', cur, e, _⟩
        · exact absurd e HNE.out
        · exact ⟨_, _, e⟩
      clear hI HOK
      go_wp2_with (rw [hsb.out])
      refine hC.mono ?_
      rintro e w4 ⟨rfl, hb4⟩
      have hown4 := own_below2 hown hb4
      have hB4 := hB.trans (hb4.mono hB.size)
      have hcl := cells_tok w4 2 sub
      have hs4 := hB4.size
      have hl5 := HL5.out
      clear hC hown hB hb4 hl
      go_wp2_with (at_builtin; refine wpList_append_own _ rfl (.tmp 66) (.tmp 73) 136 rfl w.heap.size 124 i0 (.agg #[.int .i64 0, .string ⟨#[]⟩]) 2 24 Tryz.underlying136 hi hz0 hz1 hz2 rfl (by decide) (.slice a5 l.length c5) _ _ rfl (own_below2 hown4 ((Below.refl _ _).alloc (Nat.le_refl _) _)) ⟨w4.heap.size, 0, none⟩ 1 1 [.int .i64 2, .string sub] rfl rfl hcl (one_tok _ _) (by unfold maxLen; omega) (by omega) (by simp; omega) ?_; intro v5 w5 hown5 hgr5 hnil5)
      have hb5 : Below w4.heap.size w4 (w4.alloc (.cells #[.int .i64 2, .string sub] 124)) := (Below.refl _ _).alloc (Nat.le_refl _) _
      have HI5 : Hid (Inv s w r j (l ++ [((2 : Int), sub)]) v5 w5) := by
        refine ⟨by omega, fun e => HNE.out (hnil5.1 e).1, by rw [List.length_append]; simp; omega, HNX.out, by rw [rowL_snoc, List.length_append]; exact hown5, ?_⟩
        exact (hB4.trans (hb5.mono hs4)).grown hgr5 (by have := (hB4.trans (hb5.mono hs4)).size; exact this) (fun j e => ((own_below2 hown4 hb5).lt j e).1)
      clear hown4 hown5 hgr5 hnil5 hcl hB4 hb5
      go_wp2
      go_step3
      refine HT.out 0 _ _ ⟨j, l ++ [(2, sub)], v5, ⟨_, _, _, _, _, _, _, _, _, _, _, _, _, _, _, _, _, _, _, _, _, _, _, _, _, _, _, _, _, _, _, _, _, _, _, _, _, _, _, _, _, _, _, _, _, _, _, _, _, _, _, _, _, _, _, _, _, _, _, _, _, _, _, _, _, _, _, _, _, _, _, rfl⟩, HI5.out⟩ ?_
      simp [muLex, intOf]
    | n + 4, h => exact h.elim
end Go.Proofs.YtfjlmkphncigladGreatDoor

/-
  Texts joined, a blank between, plainly.
-/
namespace Go.Proofs.YtfjlmkphncigladGreatDoor
open Go.RowKit
set_option maxRecDepth 4000

/-- The texts of the first k tokens, a blank between. -/
def joinT (fs : Nat → ByteArray) : Nat → ByteArray
  | 0 => ⟨#[]⟩
  | k + 1 => (if 0 < k then joinT fs k ++ (⟨#[32]⟩ : ByteArray) else joinT fs k) ++ fs k
theorem joinT_size {fs : Nat → ByteArray} {B n : Nat} (h : ∀ i, i < n → (fs i).size ≤ B) : ∀ k, k ≤ n → (joinT fs k).size ≤ k * (B + 1)
  | 0, _ => Nat.zero_le _
  | k + 1, hk => by
    have ih := joinT_size h k (by omega)
    have h1 := h k (by omega)
    have h2 : (⟨#[32]⟩ : ByteArray).size = 1 := rfl
    rw [joinT, ByteArray.size_append]
    have h3 : (k + 1) * (B + 1) = k * (B + 1) + (B + 1) := by rw [Nat.add_mul]; omega
    split
    · rw [ByteArray.size_append]; omega
    · omega
theorem joinT_congr {fs gs : Nat → ByteArray} : ∀ {n : Nat}, (∀ i, i < n → fs i = gs i) → joinT fs n = joinT gs n
  | 0, _ => rfl
  | n + 1, h => by rw [joinT, joinT, joinT_congr (fun i hi => h i (by omega)), h n (by omega)]

end Go.Proofs.YtfjlmkphncigladGreatDoor

/-
  Tokens that are joined come back, plainly.
-/
namespace Go.Proofs.YtfjlmkphncigladGreatDoor
open Go.RowKit
set_option maxRecDepth 4000

theorem bt_left {a b : ByteArray} {i : Nat} (h : i < a.size) : bt (a ++ b) i = bt a i := by
  have h2 : i < (a ++ b).size := by rw [ByteArray.size_append]; omega
  rw [← bt_at h, ← bt_at h2, ByteArray.getElem_append_left h]
theorem bt_right (a b : ByteArray) (j : Nat) : bt (a ++ b) (a.size + j) = bt b j := by
  by_cases h : j < b.size
  · have h2 : a.size + j < (a ++ b).size := by rw [ByteArray.size_append]; omega
    rw [← bt_at h, ← bt_at h2, ByteArray.getElem_append_right (by omega)]
    congr 2
    simp
  · unfold bt
    rw [dif_neg h, dif_neg (by rw [ByteArray.size_append]; omega)]
/-- Texts of the same bytes are one. -/
theorem bt_ext {a b : ByteArray} (hs : a.size = b.size) (h : ∀ i, i < a.size → bt a i = bt b i) : a = b := by
  apply ByteArray.ext
  apply Array.ext
  · exact hs
  · intro i h1 h2
    have h1' : i < a.size := h1
    have h2' : i < b.size := h2
    have e := h i h1'
    rw [← bt_at h1', ← bt_at h2'] at e
    have e2 : a[i] = b[i] := by apply UInt8.toNat.inj; omega
    exact e2

/-- A name goes on as far as its bytes do. -/
theorem endN_run {s : ByteArray} {p m : Nat} (hle : p + m ≤ s.size) (h : ∀ j, j < m → inName (bt s (p + j)) = true) (hend : p + m = s.size ∨ inName (bt s (p + m)) = false) : ∀ j, j ≤ m → endN s (p + (m - j)) = p + m
  | 0, _ => by
    rw [Nat.sub_zero]
    refine endN_stop (fun hh => ?_)
    rcases hend with e | e
    · omega
    · rw [e] at hh; cases hh.2
  | j + 1, hj => by
    have ih := endN_run hle h hend j (by omega)
    rw [endN_step (by omega) (h (m - (j + 1)) (by omega)), show p + (m - (j + 1)) + 1 = p + (m - j) by omega]
    exact ih

theorem blank_of {c : Int} (h : inName c = true ∨ markC c = true) : blank c = false := by
  unfold inName small digit at h
  unfold markC at h
  unfold blank
  simp only [Bool.or_eq_true, decide_eq_true_eq] at h
  apply decide_eq_false
  omega
/-- A right token that stands at a place is read there. -/
theorem lex_one {s t : ByteArray} {p : Nat} {kd : Int} {l : List (Int × ByteArray)} (hk : tokOk kd t = true) (hat : ∀ j, j < t.size → bt s (p + j) = bt t j) (hle : p + t.size ≤ s.size) (hend : p + t.size = s.size ∨ bt s (p + t.size) = 32) (hl : l.length ≠ 500) :
    lexF s p l = lexF s (p + t.size) (l ++ [(kd, t)]) := by
  have hext : s.extract p (p + t.size) = t := by
    refine bt_ext (by rw [ByteArray.size_extract]; omega) (fun i hi => ?_)
    rw [ByteArray.size_extract] at hi
    rw [bt_extract hle (by omega), hat i (by omega)]
  have hend2 : p + t.size = s.size ∨ inName (bt s (p + t.size)) = false := by
    rcases hend with e | e
    · exact .inl e
    · right; rw [e]; rfl
  by_cases c1 : kd = 1
  · subst c1
    have hn : nameOk t = true := hk
    unfold nameOk at hn
    simp only [decide_eq_true_eq] at hn
    obtain ⟨h1, h8, hs0, hall⟩ := hn
    have h0 := hat 0 (by omega)
    rw [Nat.add_zero] at h0
    have hka : kindAt s p = 1 := by unfold kindAt; rw [h0, hs0]; rfl
    have hst : stopAt s p = p + t.size := by
      unfold stopAt
      rw [h0, hs0]
      show endN s (p + 1) = _
      have := endN_run (s := s) (p := p) (m := t.size) hle (fun j hj => by rw [hat j hj]; exact hall j hj) hend2 (t.size - 1) (by omega)
      rw [show p + (t.size - (t.size - 1)) = p + 1 by omega] at this
      exact this
    rw [lexF_tok (by omega) (blank_of (.inl (by rw [h0]; exact hall 0 (by omega)))) (by rw [hka, hst, hext]; exact hk) hl, hka, hst, hext]
  · have c2 : kd = 2 := by
      unfold tokOk at hk
      rw [if_neg c1] at hk
      by_cases c2 : kd = 2
      · exact c2
      · rw [if_neg c2] at hk; cases hk
    subst c2
    have hn : markOk t = true := hk
    unfold markOk at hn
    simp only [decide_eq_true_eq] at hn
    obtain ⟨h1, hm⟩ := hn
    have h0 := hat 0 (by omega)
    rw [Nat.add_zero] at h0
    have hsm : small (bt s p) = false := by
      rw [h0]
      unfold markC at hm
      unfold small
      simp only [decide_eq_true_eq] at hm
      apply decide_eq_false
      omega
    have hka : kindAt s p = 2 := by unfold kindAt; rw [hsm]; rfl
    have hst : stopAt s p = p + t.size := by unfold stopAt; rw [hsm, h1]; rfl
    rw [lexF_tok (by omega) (blank_of (.inr (by rw [h0]; exact hm))) (by rw [hka, hst, hext]; exact hk) hl, hka, hst, hext]

/-- Where the k-th token begins. -/
def beg (fs : Nat → ByteArray) (k : Nat) : Nat := (joinT fs k).size + (if 0 < k then 1 else 0)
theorem joinT_end (fs : Nat → ByteArray) (k : Nat) : (joinT fs (k + 1)).size = beg fs k + (fs k).size := by
  unfold beg
  have h2 : (⟨#[32]⟩ : ByteArray).size = 1 := rfl
  rw [joinT, ByteArray.size_append]
  split
  · rw [ByteArray.size_append]; omega
  · omega
theorem joinT_pre (fs : Nat → ByteArray) : ∀ (n m : Nat), m ≤ n → (joinT fs m).size ≤ (joinT fs n).size ∧ ∀ i, i < (joinT fs m).size → bt (joinT fs n) i = bt (joinT fs m) i
  | 0, m, h => by
    obtain rfl : m = 0 := by omega
    exact ⟨Nat.le_refl _, fun _ _ => rfl⟩
  | n + 1, m, h => by
    by_cases e : m = n + 1
    · subst e; exact ⟨Nat.le_refl _, fun _ _ => rfl⟩
    · obtain ⟨h1, h2⟩ := joinT_pre fs n m (by omega)
      have h3 := joinT_end fs n
      have h4 : (joinT fs n).size ≤ beg fs n := by unfold beg; omega
      refine ⟨by omega, fun i hi => ?_⟩
      rw [← h2 i hi, joinT]
      by_cases h0 : 0 < n
      · rw [if_pos h0, bt_left (by rw [ByteArray.size_append]; omega), bt_left (by omega)]
      · rw [if_neg h0, bt_left (by omega)]
/-- The k-th token stands in the joined text. -/
theorem join_at {fs : Nat → ByteArray} {n k : Nat} (hk : k < n) : (∀ j, j < (fs k).size → bt (joinT fs n) (beg fs k + j) = bt (fs k) j) ∧ beg fs k + (fs k).size ≤ (joinT fs n).size ∧ (beg fs k + (fs k).size = (joinT fs n).size ∨ bt (joinT fs n) (beg fs k + (fs k).size) = 32) ∧ (k + 1 < n → bt (joinT fs n) (beg fs k + (fs k).size) = 32 ∧ beg fs (k + 1) = beg fs k + (fs k).size + 1) ∧ (k + 1 = n → beg fs k + (fs k).size = (joinT fs n).size) := by
  have hE := joinT_end fs k
  obtain ⟨h1, h2⟩ := joinT_pre fs n (k + 1) (by omega)
  have ha : ∀ j, j < (fs k).size → bt (joinT fs n) (beg fs k + j) = bt (fs k) j := by
    intro j hj
    rw [h2 _ (by omega), joinT]
    unfold beg
    by_cases h0 : 0 < k
    · rw [if_pos h0, if_pos h0]
      have e : (joinT fs k).size + 1 = (joinT fs k ++ (⟨#[32]⟩ : ByteArray)).size := by rw [ByteArray.size_append]; rfl
      rw [e]
      exact bt_right _ _ _
    · rw [if_neg h0, if_neg h0, Nat.add_zero]
      exact bt_right _ _ _
  have hnx : k + 1 < n → bt (joinT fs n) (beg fs k + (fs k).size) = 32 ∧ beg fs (k + 1) = beg fs k + (fs k).size + 1 := by
    intro hlt
    obtain ⟨h3, h4⟩ := joinT_pre fs n (k + 2) (by omega)
    have hE2 := joinT_end fs (k + 1)
    have hb : beg fs (k + 1) = beg fs k + (fs k).size + 1 := by
      conv => lhs; unfold beg
      rw [if_pos (by omega), hE]
    refine ⟨?_, hb⟩
    rw [h4 _ (by rw [show k + 2 = k + 1 + 1 from rfl, hE2]; omega), show k + 2 = k + 1 + 1 from rfl, joinT, if_pos (by omega), ← hE]
    rw [bt_left (by rw [ByteArray.size_append]; show _ < _ + 1; omega)]
    have := bt_right (joinT fs (k + 1)) (⟨#[32]⟩ : ByteArray) 0
    exact this.trans rfl
  have hlast : k + 1 = n → beg fs k + (fs k).size = (joinT fs n).size := by
    rintro rfl; rw [hE]
  refine ⟨ha, by omega, ?_, hnx, hlast⟩
  by_cases e : k + 1 = n
  · exact .inl (hlast e)
  · exact .inr (hnx (by omega)).1

/-- Tokens that are joined come back. -/
theorem lex_join {l : List (Int × ByteArray)} (hl : l.length ≤ 500) (hok : ∀ i, i < l.length → tokOk (tk l i) (ts l i) = true) : lexF (joinT (ts l) l.length) 0 [] = (l, -1) := by
  have key : ∀ k, k ≤ l.length → lexF (joinT (ts l) l.length) 0 [] = lexF (joinT (ts l) l.length) (if k < l.length then beg (ts l) k else (joinT (ts l) l.length).size) (l.take k) := by
    intro k
    induction k with
    | zero =>
      intro _
      by_cases h0 : 0 < l.length
      · rw [if_pos h0]; rfl
      · have : l = [] := by cases l with
          | nil => rfl
          | cons => simp at h0
        subst this; rfl
    | succ k ih =>
      intro hk
      have hkl : k < l.length := by omega
      rw [ih (by omega), if_pos hkl]
      obtain ⟨ha, hle, hend, hnx, hlast⟩ := join_at (fs := ts l) hkl
      have hlt : (l.take k).length ≠ 500 := by rw [List.length_take]; omega
      rw [lex_one (hok k hkl) ha hle hend hlt]
      have ht : l.take k ++ [(tk l k, ts l k)] = l.take (k + 1) := by
        rw [List.take_add_one, List.getElem?_eq_getElem hkl]
        unfold tk ts
        have h2 : l.getD k (0, ⟨#[]⟩) = l[k] := by simp [List.getD, List.getElem?_eq_getElem hkl]
        rw [h2]; rfl
      rw [ht]
      by_cases e : k + 1 < l.length
      · obtain ⟨h3, h4⟩ := hnx e
        rw [if_pos e, h4]
        refine lexF_blank ?_ (by rw [h3]; rfl)
        rcases Nat.lt_or_ge (beg (ts l) k + (ts l k).size) (joinT (ts l) l.length).size with h5 | h5
        · exact h5
        · unfold bt at h3; rw [dif_neg (by omega)] at h3; cases h3
      · rw [if_neg e, hlast (by omega)]
  rw [key l.length (Nat.le_refl _), if_neg (Nat.lt_irrefl _), List.take_length]
  exact lexF_end (Nat.lt_irrefl _)
end Go.Proofs.YtfjlmkphncigladGreatDoor

/-
  What Lex makes of a token's own text, plainly: the token alone, just if it is right.
-/
namespace Go.Proofs.YtfjlmkphncigladGreatDoor
open Go.RowKit
set_option maxRecDepth 4000

/-- All that Lex makes is right. -/
theorem lexF_ok (s : ByteArray) (i : Nat) (l : List (Int × ByteArray)) (hl : ∀ t ∈ l, tokOk t.1 t.2 = true) : ∀ t ∈ (lexF s i l).1, tokOk t.1 t.2 = true := by
  by_cases h : i < s.size
  · cases hb : blank (bt s i) with
    | true => rw [lexF_blank h hb]; exact lexF_ok s (i + 1) l hl
    | false =>
      by_cases ht : tokOk (kindAt s i) (s.extract i (stopAt s i)) = true ∧ l.length ≠ 500
      · rw [lexF_tok h hb ht.1 ht.2]
        refine lexF_ok s (stopAt s i) _ (fun t h => ?_)
        rcases List.mem_append.1 h with h | h
        · exact hl t h
        · rw [List.mem_singleton.1 h]; exact ht.1
      · rw [lexF_no h hb ht]; intro t h; cases h
  · rw [lexF_end h]; exact hl
  termination_by s.size - i
  decreasing_by all_goals (have := stopAt_gt s i; omega)
/-- A token that is right is what Lex makes of its text. -/
theorem lex_self {k : Int} {s : ByteArray} (h : tokOk k s = true) : lexF s 0 [] = ([(k, s)], -1) := by
  have h1 := lex_join (l := [(k, s)]) (by simp) (fun i hi => by
    have : i = 0 := by simpa using hi
    subst this
    exact h)
  have h2 : joinT (ts [(k, s)]) [(k, s)].length = s := by
    show (if 0 < 0 then _ else (⟨#[]⟩ : ByteArray)) ++ s = s
    rw [if_neg (by omega)]
    have h0 : (⟨#[]⟩ : ByteArray).size = 0 := rfl
    exact bt_ext (by rw [ByteArray.size_append, h0, Nat.zero_add]) (fun i _ => by
      have := bt_right ⟨#[]⟩ s i
      rw [h0, Nat.zero_add] at this
      exact this)
  rw [h2] at h1
  exact h1
def eqT (k : Int) (s : ByteArray) (k' : Int) (s' : ByteArray) : Bool := decide (k = k') && decide (s = s')
theorem tok_self {k : Int} {s : ByteArray} (h : (lexF s 0 []).1.length = 1) : tokOk k s = eqT (tk (lexF s 0 []).1 0) (ts (lexF s 0 []).1 0) k s := by
  rw [Bool.eq_iff_iff]
  constructor
  · intro ht
    rw [lex_self ht]
    simp [eqT, tk, ts]
  · intro he
    simp only [eqT, Bool.and_eq_true, decide_eq_true_eq] at he
    obtain ⟨x, hx⟩ := List.length_eq_one_iff.1 h
    have := lexF_ok s 0 [] (by intro t h; cases h) x (by rw [hx]; simp)
    rw [hx] at he
    have e : x = (k, s) := Prod.ext (by simpa [tk] using he.1) (by simpa [ts] using he.2)
    rw [e] at this
    exact this
theorem tok_none {k : Int} {s : ByteArray} (h : (lexF s 0 []).1.length ≠ 1) : tokOk k s = false := by
  cases e : tokOk k s with
  | false => rfl
  | true => rw [lex_self e] at h; exact absurd rfl h
end Go.Proofs.YtfjlmkphncigladGreatDoor

/-
  Texts that are held against each other.
-/
namespace Go.Proofs.YtfjlmkphncigladGreatDoor
open Go.RowKit
set_option maxRecDepth 4000

theorem bytes_inj {a b : ByteArray} : a.toList = b.toList ↔ a = b := by
  constructor
  · intro h
    rw [ByteArray.toList_eq, ByteArray.toList_eq] at h
    obtain ⟨⟨x⟩⟩ := a
    obtain ⟨⟨y⟩⟩ := b
    simp only at h
    rw [h]
  · rintro rfl; rfl
theorem bytes_eq {a b : ByteArray} (h : a = b) : (a.toList == b.toList) = true := by rw [h]; exact beq_self_eq_true _
theorem bytes_ne {a b : ByteArray} (h : a ≠ b) : (a.toList == b.toList) = false := by
  cases e : (a.toList == b.toList) with
  | false => rfl
  | true => exact absurd (bytes_inj.1 (eq_of_beq e)) h
end Go.Proofs.YtfjlmkphncigladGreatDoor

/-
  The program's TokenOk: what Lex makes of the token's own text, alone.
-/
namespace Go.Proofs.YtfjlmkphncigladGreatDoor
open Go.RowKit
set_option maxRecDepth 4000

theorem eqTok_run (k : Int) (s : ByteArray) (k' : Int) (s' : ByteArray) (W : World) :
    (binOp .eql 124 (.agg #[.int .i64 k, .string s]) (.agg #[.int .i64 k', .string s'])).run Tryz.prog W = .ok (.bool (eqT k s k' s')) W := by
  by_cases h1 : k = k' <;> by_cases h3 : s = s' <;> simp [go_sem, h1, h3, eqT, bytes_inj]

set_option maxHeartbeats 2000000 in
theorem implTokenOk_any (k : Int) (s : ByteArray) (w : World) (hs : s.size ≤ 281474976710656) :
    Calls Tryz.prog 67 #[.agg #[.int .i64 k, .string s]] w fun e w' => e = .returned (.bool (tokOk k s)) ∧ Below w.heap.size w w' := by
  have hL := fun W => implLex_any s W hs
  have HA : Hid ((lexF s 0 []).1.length = 1 → tokOk k s = eqT (tk (lexF s 0 []).1 0) (ts (lexF s 0 []).1 0) k s) := tok_self
  have HN : Hid ((lexF s 0 []).1.length ≠ 1 → tokOk k s = false) := tok_none
  obtain ⟨r, hr⟩ : ∃ r, Hid (lexF s 0 [] = r) := ⟨_, rfl⟩
  rw [hr.out] at HA HN
  simp only [hr.out] at hL
  go_enter Tryz.func67, Tryz.ntmps67
  go_wp2_with fail
  refine (hL _).mono ?_
  rintro e w1 ⟨v, rfl, hne, hown, hB⟩
  rw [rowL_K] at hown
  obtain ⟨a, c, rfl, hv, -⟩ := tview_of_own hown
  have hC := hB.mono (show w.heap.size + 1 ≤ _ by simp)
  have c0 : w1.cell? ⟨w.heap.size, 0, none⟩ = some (.int .i64 k) := by rw [hC.cell (by simp)]; simp [go_sem]
  have c1 : w1.cell? ⟨w.heap.size, 1, none⟩ = some (.string s) := by rw [hC.cell (by simp)]; simp [go_sem]
  have HB : Hid (Below w.heap.size w w1) := ((Below.refl _ _).alloc (Nat.le_refl _) _).trans (hB.mono (by simp))
  clear hL hown hB hC hne
  by_cases h1 : r.1.length = 1
  · have HE0 := HA.out h1
    have hd : ((r.1.length : Int) == 1) = true := by simp; omega
    obtain ⟨b, off, rfl, hb, hcs⟩ := hv.cells (by omega)
    obtain ⟨x0, x1⟩ := hcs 0 (by omega)
    simp only [Nat.zero_mul, Nat.add_zero] at x0 x1
    rw [h1]
    have hq := eqTok_run (tk r.1 0) (ts r.1 0) k s
    clear HA HN hv hcs h1 hd
    generalize tk r.1 0 = p0 at *
    generalize ts r.1 0 = p1 at *
    have HE : Hid (tokOk k s = eqT p0 p1 k s) := HE0
    clear HE0
    go_wp2_with fail
    go_quiet (fail)
    go_wp2
    go_ret
    exact ⟨by rw [HE.out]; rfl, HB.out.trans ⟨rfl, rfl, rfl, Nat.le_refl _, fun _ _ => rfl⟩⟩
  · have HE : Hid (tokOk k s = false) := HN.out h1
    have hd : ((r.1.length : Int) == 1) = false := by simp; omega
    clear HA HN hv
    go_wp2_with fail
    go_quiet (fail)
    go_wp2
    go_ret
    exact ⟨by rw [HE.out]; rfl, HB.out.trans ⟨rfl, rfl, rfl, Nat.le_refl _, fun _ _ => rfl⟩⟩
end Go.Proofs.YtfjlmkphncigladGreatDoor

/-
  Rows of texts: one that reads, one of the call's own.
-/
namespace Go.Proofs.YtfjlmkphncigladGreatDoor
open Go.RowKit
set_option maxRecDepth 4000

/-- The slice value '.slice ao n cap' reads as n texts. -/
structure SView (w : World) (ao : Option Addr) (n cap : Nat) (f : Nat → ByteArray) : Prop where
  le : n ≤ cap
  cells : 0 < n → ∃ b off, ao = some ⟨b, off, none⟩ ∧ b < w.heap.size ∧ ∀ i, i < n → w.cell? ⟨b, off + i, none⟩ = some (.string (f i))
theorem SView.below {w w' : World} {ao : Option Addr} {n cap : Nat} {f : Nat → ByteArray} (h : SView w ao n cap f) (hb : Below w.heap.size w w') : SView w' ao n cap f := by
  refine ⟨h.le, fun hn => ?_⟩
  obtain ⟨b, off, e, hlt, hc⟩ := h.cells hn
  refine ⟨b, off, e, Nat.lt_of_lt_of_le hlt hb.size, fun i hi => ?_⟩
  rw [hb.cell (p := ⟨b, off + i, none⟩) hlt]
  exact hc i hi
def encS (f : Nat → ByteArray) (i : Nat) : List Value := [.string (f i)]
theorem sview_of_own {w : World} {base N : Nat} {v : Value} {f : Nat → ByteArray} (h : w.ownsRow base 9 1 v N (rowG (encS f) N)) : ∃ a k, v = .slice a N k ∧ SView w a N k f ∧ (0 < N → ∃ g, a = some ⟨g, 0, none⟩ ∧ base ≤ g ∧ v.ownBlock = some g) := by
  obtain ⟨a, k, e, hk, h1⟩ := own_cells (c := 1) (fun _ => rfl) h
  refine ⟨a, k, e, ⟨hk, fun hn => ?_⟩, fun hn => ?_⟩
  · obtain ⟨g, ea, -, -, hg, hc⟩ := h1 hn
    exact ⟨g, 0, ea, hg, fun i hi => by simpa using hc i 0 _ hi rfl⟩
  · obtain ⟨g, ea, hb, ho, -⟩ := h1 hn
    exact ⟨g, ea, hb, ho⟩
theorem infoStr : ∃ i, Tryz.prog.info? 9 = some i ∧ i.zero = some (.string ⟨#[]⟩) ∧ i.size = 1 ∧ i.bytes = 16 := by
  have h : (Tryz.prog.info? 9).map (fun i => (i.zero, i.size, i.bytes)) = some (some (.string ⟨#[]⟩), 1, 16) := by kernel_rfl
  obtain ⟨i, hi, hz⟩ := Option.map_eq_some_iff.1 h
  simp only [Prod.mk.injEq] at hz
  exact ⟨i, hi, hz.1, hz.2.1, hz.2.2⟩
/-- A row of the call's own stays while nothing of what lay is turned. -/
theorem own_belowG {W W' : World} {base T c N : Nat} {v : Value} {xs : List Value} (h : W.ownsRow base T c v N xs) (hb : Below W.heap.size W W') : W'.ownsRow base T c v N xs := by
  refine ⟨h.1, ?_⟩
  rcases h.2 with ⟨e, h0⟩ | ⟨g, k, cur, e, hb0, hg, hr⟩
  · exact .inl ⟨e, h0⟩
  · exact .inr ⟨g, k, cur, e, hb0, (hb.block g (Array.getElem?_eq_some_iff.1 hg).1).trans hg, hr⟩
theorem own_base {W : World} {base base' T c N : Nat} {v : Value} {xs : List Value} (h : W.ownsRow base T c v N xs) (hb : base' ≤ base) : W.ownsRow base' T c v N xs := by
  refine ⟨h.1, ?_⟩
  rcases h.2 with ⟨e, h0⟩ | ⟨g, k, cur, e, hb0, hr⟩
  · exact .inl ⟨e, h0⟩
  · exact .inr ⟨g, k, cur, e, Nat.le_trans hb hb0, hr⟩
end Go.Proofs.YtfjlmkphncigladGreatDoor

/-
  slices.Grow of no texts, for n of them: a row of the call's own with room.
-/
namespace Go.Proofs.YtfjlmkphncigladGreatDoor
open Go.RowKit
set_option maxRecDepth 4000

set_option maxHeartbeats 2000000 in
theorem growStr_any (n : Nat) (w : World) (h0 : 0 < n) (hn : n ≤ 4194304) :
    Calls Tryz.prog 65 #[.slice none 0 0, .int .i64 n] w fun e w' => ∃ g c, e = .returned (.slice (some ⟨g, 0, none⟩) 0 c) ∧ w'.ownsRow w.heap.size 9 1 (.slice (some ⟨g, 0, none⟩) 0 c) 0 [] ∧ Below w.heap.size w w' := by
  obtain ⟨i0, hi, hz0, hz1, hz2⟩ := infoStr
  have h1 : ¬ ((n : Int) < 0) := by omega
  have h2 : wrap64 ((0 : Int) - (0 : Int)) = 0 := by unfold wrap64; omega
  have h3 : wrap64 ((n : Int) - 0) = (n : Int) := by unfold wrap64; omega
  have h4 : (n : Int) > 0 := by omega
  have hrz := fun ty => Lib.run_append_nil_zeros (P := Tryz.prog) w 74 3 ty 9 i0 (.string ⟨#[]⟩) .i64 .i64 Tryz.underlying74 Tryz.underlying3 hi hz0 n h0 (by omega) (by omega) (by rw [hz2]; omega)
  have hG1 : n ≤ grownCap w n 0 9 := grownCap_ge w _ _ _
  have hG2 : grownCap w n 0 9 ≤ maxLen := grownCap_le_maxLen w n 0 9 (by unfold maxLen; omega)
  obtain ⟨G, hG⟩ : ∃ G, G = grownCap w n 0 9 := ⟨_, rfl⟩
  rw [← hG] at hG1 hG2
  simp only [← hG] at hrz
  have hzc : (Value.string ⟨#[]⟩).cells.size = 1 := rfl
  have HS : Hid ((Builtin.zeroCells (Value.string ⟨#[]⟩).cells n ++ Builtin.zeroCells (Value.string ⟨#[]⟩).cells (G - n)).size = G) := by
    show _ = _
    simp [Builtin.zeroCells, Value.cells]
    omega
  obtain ⟨cs, hcs⟩ : ∃ cs, Hid (Builtin.zeroCells (Value.string ⟨#[]⟩).cells n ++ Builtin.zeroCells (Value.string ⟨#[]⟩).cells (G - n) = cs) := ⟨_, rfl⟩
  rw [hcs.out] at HS
  simp only [hcs.out] at hrz
  have HB : Hid (Below w.heap.size w (w.drew.alloc (.cells cs 9))) := ((Below.refl _ _).drew).alloc (by simp) _
  have HO : Hid ((w.drew.alloc (.cells cs 9)).ownsRow w.heap.size 9 1 (.slice (some ⟨w.heap.size, 0, none⟩) 0 G) 0 []) := by
    refine ⟨rfl, .inr ⟨w.heap.size, G, cs, rfl, Nat.le_refl _, ?_, Nat.zero_le _, hG2, by rw [HS.out]; omega, by simp⟩⟩
    exact heap_alloc_new w.drew (.cells cs 9)
  have hGz : (0 : Int) ≤ (G : Int) := by omega
  unfold maxLen at hG2
  clear hcs hz0 hz1 hz2 hi hG hzc
  go_enter Tryz.func65, Tryz.ntmps65
  go_wp2_with (at_builtin; refine Lib.wpList_append_run _ rfl _ _ _ _ rfl _ _ rfl rfl _ _ (hrz _) ?_)
  go_ret
  exact ⟨_, _, rfl, HO.out, HB.out⟩
end Go.Proofs.YtfjlmkphncigladGreatDoor

/-
  The program's colNames, indexNames: the names, in a row of their own.
-/
namespace Go.Proofs.YtfjlmkphncigladGreatDoor
open Go.RowKit
set_option maxRecDepth 4000

theorem own_succ9 {W : World} {base T c k : Nat} {v : Value} {xs : List Value} (h : W.ownsRow base T c v (k + 1) xs) : ∃ g cap, v = .slice (some ⟨g, 0, none⟩) (k + 1) cap := by
  rcases h.2 with ⟨_, h0⟩ | ⟨g, cap, cur, e, _⟩
  · omega
  · exact ⟨g, cap, e⟩
theorem own_ge9 {W : World} {base T c N : Nat} {v : Value} {xs : List Value} (h : W.ownsRow base T c v N xs) : ∀ j, v.ownBlock = some j → base ≤ j := by
  intro j hj
  rcases h.2 with ⟨rfl, _⟩ | ⟨g, cap, cur, rfl, hb, _⟩
  · simp [Value.ownBlock] at hj
  · obtain rfl : g = j := by simpa [Value.ownBlock] using hj
    exact hb

set_option maxHeartbeats 2000000 in
theorem colNames_any (v : Value) (D : PDef) (w : World) (h : DView w v D) (hf : DFine D) :
    Calls Tryz.prog 45 #[v] w fun e w' => ∃ g c, e = .returned (.slice (some ⟨g, 0, none⟩) D.nc c) ∧ w'.ownsRow w.heap.size 9 1 (.slice (some ⟨g, 0, none⟩) D.nc c) D.nc (rowG (encS (fun i => (D.col i).name)) D.nc) ∧ Below w.heap.size w w' := by
  obtain ⟨i0, hi, hz0, hz1, hz2⟩ := infoStr
  have hnc := hf.nc
  clear hf
  obtain ⟨ac, cc, ap, cp, ai, ci, rfl, hcv, hpv, hiv⟩ := h.is
  clear h
  have hbA : Below w.heap.size w (w.alloc (.cells #[.string D.name, .slice ac D.nc cc, .slice ap D.np cp, .slice ai D.ni ci] 28)) := (Below.refl _ _).alloc (Nat.le_refl _) _
  have hbE : Below w.heap.size w ((w.alloc (.cells #[.string D.name, .slice ac D.nc cc, .slice ap D.np cp, .slice ai D.ni ci] 28)).alloc (.cells #[] 9)) := hbA.alloc (by simp) _
  have hO0 : ((w.alloc (.cells #[.string D.name, .slice ac D.nc cc, .slice ap D.np cp, .slice ai D.ni ci] 28)).alloc (.cells #[] 9)).ownsRow w.heap.size 9 1 (.slice (some ⟨w.heap.size + 1, 0, none⟩) 0 0) 0 (rowG (encS (fun i => (D.col i).name)) 0) := by
    have := World.ownsRow_lit (base := w.heap.size) (e := 9) (size := 1) (w.alloc (.cells #[.string D.name, .slice ac D.nc cc, .slice ap D.np cp, .slice ai D.ni ci] 28)) #[] 0 (by simp) (Nat.zero_le _) rfl
    simpa [rowG] using this
  have HV : Hid (CView w ac D.nc cc D.col) := hcv
  go_enter Tryz.func45, Tryz.ntmps45
  go_wp2
  go_loopg [10, 3] D.nc (fun q i s wr => ∃ k : Nat, k ≤ D.nc ∧ q = D.nc - k ∧ i = .int .i64 k ∧ (∃ g c, s = .slice (some ⟨g, 0, none⟩) k c) ∧ wr.ownsRow w.heap.size 9 1 s k (rowG (encS (fun i => (D.col i).name)) k) ∧ Below w.heap.size w wr)
  case atStart => exact ⟨0, Nat.zero_le _, rfl, rfl, ⟨_, _, rfl⟩, hO0, hbE⟩
  case round =>
    clear hO0 hbE hbA hcv hpv hiv
    obtain ⟨k, hk, rfl, rfl, ⟨sa, sc, rfl⟩, hO, hB⟩ := hrel
    by_cases hlt : k < D.nc
    · have hkz : (k : Int) < (D.nc : Int) := by omega
      obtain ⟨b1, o1, rfl, hb1, hcs⟩ := (HV.out.below hB).cells (by omega)
      obtain ⟨x0, x1, x2⟩ := hcs k hlt
      have hsz := hB.size
      have HN : Hid (rowG (encS (fun i => (D.col i).name)) (k + 1) = rowG (encS (fun i => (D.col i).name)) k ++ [.string (D.col k).name]) := rfl
      have HB : Hid (Below w.heap.size w wr) := hB
      obtain ⟨s0, hs0⟩ : ∃ x, Hid ((D.col k).name = x) := ⟨_, rfl⟩
      obtain ⟨R, hR⟩ : ∃ x, Hid (rowG (encS (fun i => (D.col i).name)) k = x) := ⟨_, rfl⟩
      rw [hs0.out] at x0 HN
      rw [hR.out] at HN hO
      obtain ⟨s1, hs1⟩ : ∃ x, Hid ((D.col k).type = x) := ⟨_, rfl⟩
      obtain ⟨s2, hs2⟩ : ∃ x, Hid ((D.col k).null = x) := ⟨_, rfl⟩
      rw [hs1.out] at x1
      rw [hs2.out] at x2
      clear hcs HV hB
      have hb2 : Below wr.heap.size wr ((wr.alloc (.cells #[.string s0, .int .i64 s1, .bool s2] 49)).alloc (.cells #[.string s0] 9)) := ((Below.refl _ _).alloc (Nat.le_refl _) _).alloc (by simp) _
      have hO2 := own_belowG hO hb2
      have hcl : ∀ j u, [Value.string s0][j]? = some u → ((wr.alloc (.cells #[.string s0, .int .i64 s1, .bool s2] 49)).alloc (.cells #[.string s0] 9)).cell? ((⟨wr.heap.size + 1, 0, none⟩ : Addr).add j) = some u := by
        intro j u hj
        match j, hj with
        | 0, hj => simp at hj; subst hj; simp [Addr.add]
      have HBB : Hid (Below wr.heap.size wr ((wr.alloc (.cells #[.string s0, .int .i64 s1, .bool s2] 49)).alloc (.cells #[.string s0] 9))) := hb2
      have HOW := own_ge9 hO
      go_wp2_with (at_builtin; refine wpList_append_own _ rfl (.tmp 14) (.tmp 17) 74 rfl w.heap.size 9 i0 (.string ⟨#[]⟩) 1 16 Tryz.underlying74 hi hz0 hz1 hz2 rfl (by decide) _ _ _ rfl hO2 ⟨wr.heap.size + 1, 0, none⟩ 1 1 [.string s0] rfl rfl hcl (by intro u hu; simp at hu; subst hu; rfl) (by unfold maxLen; omega) (by omega) (by simp; omega) ?_)
      intro v5 w2 hown5 hgr hnil
      obtain ⟨g', cap', rfl⟩ := own_succ9 hown5
      have HR : Hid (w2.ownsRow w.heap.size 9 1 (.slice (some ⟨g', 0, none⟩) (k + 1) cap') (k + 1) (rowG (encS (fun i => (D.col i).name)) (k + 1)) ∧ Below w.heap.size w w2) := by
        refine ⟨?_, ?_⟩
        · rw [HN.out]; exact hown5
        · exact (HB.out.trans (HBB.out.mono hsz)).grown hgr (by simp; omega) HOW
      clear hown5 hgr hnil hO hO2 hcl HOW hb2
      go_wp2
      go_roundg (D.nc - (k + 1))
      case measure => omega
      case rel => exact ⟨k + 1, by omega, rfl, by go_num, ⟨_, _, rfl⟩, HR.out.1, HR.out.2⟩
    · have hkz : ¬ (k : Int) < (D.nc : Int) := by omega
      obtain rfl : k = D.nc := by omega
      have HR : Hid (wr.ownsRow w.heap.size 9 1 (.slice (some ⟨sa, 0, none⟩) D.nc sc) D.nc (rowG (encS (fun i => (D.col i).name)) D.nc) ∧ Below w.heap.size w wr) := ⟨hO, hB⟩
      clear hO hB
      go_wp2
      go_ret
      exact ⟨_, _, rfl, HR.out.1, HR.out.2⟩

set_option maxHeartbeats 2000000 in
theorem indexNames_any (v : Value) (D : PDef) (w : World) (h : DView w v D) (hf : DFine D) :
    Calls Tryz.prog 46 #[v] w fun e w' => ∃ g c, e = .returned (.slice (some ⟨g, 0, none⟩) D.ni c) ∧ w'.ownsRow w.heap.size 9 1 (.slice (some ⟨g, 0, none⟩) D.ni c) D.ni (rowG (encS (fun i => (D.idx i).name)) D.ni) ∧ Below w.heap.size w w' := by
  obtain ⟨i0, hi, hz0, hz1, hz2⟩ := infoStr
  have hnc := hf.ni
  clear hf
  obtain ⟨ac, cc, ap, cp, ai, ci, rfl, hcv, hpv, hiv⟩ := h.is
  clear h
  have hbA : Below w.heap.size w (w.alloc (.cells #[.string D.name, .slice ac D.nc cc, .slice ap D.np cp, .slice ai D.ni ci] 28)) := (Below.refl _ _).alloc (Nat.le_refl _) _
  have hbE : Below w.heap.size w ((w.alloc (.cells #[.string D.name, .slice ac D.nc cc, .slice ap D.np cp, .slice ai D.ni ci] 28)).alloc (.cells #[] 9)) := hbA.alloc (by simp) _
  have hO0 : ((w.alloc (.cells #[.string D.name, .slice ac D.nc cc, .slice ap D.np cp, .slice ai D.ni ci] 28)).alloc (.cells #[] 9)).ownsRow w.heap.size 9 1 (.slice (some ⟨w.heap.size + 1, 0, none⟩) 0 0) 0 (rowG (encS (fun i => (D.idx i).name)) 0) := by
    have := World.ownsRow_lit (base := w.heap.size) (e := 9) (size := 1) (w.alloc (.cells #[.string D.name, .slice ac D.nc cc, .slice ap D.np cp, .slice ai D.ni ci] 28)) #[] 0 (by simp) (Nat.zero_le _) rfl
    simpa [rowG] using this
  have HV : Hid (IView w ai D.ni ci D.idx) := hiv
  go_enter Tryz.func46, Tryz.ntmps46
  go_wp2
  go_loopg [10, 3] D.ni (fun q i s wr => ∃ k : Nat, k ≤ D.ni ∧ q = D.ni - k ∧ i = .int .i64 k ∧ (∃ g c, s = .slice (some ⟨g, 0, none⟩) k c) ∧ wr.ownsRow w.heap.size 9 1 s k (rowG (encS (fun i => (D.idx i).name)) k) ∧ Below w.heap.size w wr)
  case atStart => exact ⟨0, Nat.zero_le _, rfl, rfl, ⟨_, _, rfl⟩, hO0, hbE⟩
  case round =>
    clear hO0 hbE hbA hcv hpv hiv
    obtain ⟨k, hk, rfl, rfl, ⟨sa, sc, rfl⟩, hO, hB⟩ := hrel
    by_cases hlt : k < D.ni
    · have hkz : (k : Int) < (D.ni : Int) := by omega
      obtain ⟨b1, o1, rfl, hb1, hcs⟩ := (HV.out.below hB).cells (by omega)
      obtain ⟨x0, x1, ap3, cp3, x2, -⟩ := hcs k hlt
      have hsz := hB.size
      have HN : Hid (rowG (encS (fun i => (D.idx i).name)) (k + 1) = rowG (encS (fun i => (D.idx i).name)) k ++ [.string (D.idx k).name]) := rfl
      have HB : Hid (Below w.heap.size w wr) := hB
      obtain ⟨s0, hs0⟩ : ∃ x, Hid ((D.idx k).name = x) := ⟨_, rfl⟩
      obtain ⟨R, hR⟩ : ∃ x, Hid (rowG (encS (fun i => (D.idx i).name)) k = x) := ⟨_, rfl⟩
      rw [hs0.out] at x0 HN
      rw [hR.out] at HN hO
      obtain ⟨s1, hs1⟩ : ∃ x, Hid ((D.idx k).uniq = x) := ⟨_, rfl⟩
      obtain ⟨s2, hs2⟩ : ∃ x, Hid ((D.idx k).n = x) := ⟨_, rfl⟩
      rw [hs1.out] at x1
      rw [hs2.out] at x2
      clear hcs HV hB
      have hb2 : Below wr.heap.size wr ((wr.alloc (.cells #[.string s0, .bool s1, .slice ap3 s2 cp3] 60)).alloc (.cells #[.string s0] 9)) := ((Below.refl _ _).alloc (Nat.le_refl _) _).alloc (by simp) _
      have hO2 := own_belowG hO hb2
      have hcl : ∀ j u, [Value.string s0][j]? = some u → ((wr.alloc (.cells #[.string s0, .bool s1, .slice ap3 s2 cp3] 60)).alloc (.cells #[.string s0] 9)).cell? ((⟨wr.heap.size + 1, 0, none⟩ : Addr).add j) = some u := by
        intro j u hj
        match j, hj with
        | 0, hj => simp at hj; subst hj; simp [Addr.add]
      have HBB : Hid (Below wr.heap.size wr ((wr.alloc (.cells #[.string s0, .bool s1, .slice ap3 s2 cp3] 60)).alloc (.cells #[.string s0] 9))) := hb2
      have HOW := own_ge9 hO
      go_wp2_with (at_builtin; refine wpList_append_own _ rfl (.tmp 14) (.tmp 17) 74 rfl w.heap.size 9 i0 (.string ⟨#[]⟩) 1 16 Tryz.underlying74 hi hz0 hz1 hz2 rfl (by decide) _ _ _ rfl hO2 ⟨wr.heap.size + 1, 0, none⟩ 1 1 [.string s0] rfl rfl hcl (by intro u hu; simp at hu; subst hu; rfl) (by unfold maxLen; omega) (by omega) (by simp; omega) ?_)
      intro v5 w2 hown5 hgr hnil
      obtain ⟨g', cap', rfl⟩ := own_succ9 hown5
      have HR : Hid (w2.ownsRow w.heap.size 9 1 (.slice (some ⟨g', 0, none⟩) (k + 1) cap') (k + 1) (rowG (encS (fun i => (D.idx i).name)) (k + 1)) ∧ Below w.heap.size w w2) := by
        refine ⟨?_, ?_⟩
        · rw [HN.out]; exact hown5
        · exact (HB.out.trans (HBB.out.mono hsz)).grown hgr (by simp; omega) HOW
      clear hown5 hgr hnil hO hO2 hcl HOW hb2
      go_wp2
      go_roundg (D.ni - (k + 1))
      case measure => omega
      case rel => exact ⟨k + 1, by omega, rfl, by go_num, ⟨_, _, rfl⟩, HR.out.1, HR.out.2⟩
    · have hkz : ¬ (k : Int) < (D.ni : Int) := by omega
      obtain rfl : k = D.ni := by omega
      have HR : Hid (wr.ownsRow w.heap.size 9 1 (.slice (some ⟨sa, 0, none⟩) D.ni sc) D.ni (rowG (encS (fun i => (D.idx i).name)) D.ni) ∧ Below w.heap.size w wr) := ⟨hO, hB⟩
      clear hO hB
      go_wp2
      go_ret
      exact ⟨_, _, rfl, HR.out.1, HR.out.2⟩
end Go.Proofs.YtfjlmkphncigladGreatDoor

/-
  slices.Concat of three rows of texts: a row of the call's own, one behind the other.
-/
namespace Go.Proofs.YtfjlmkphncigladGreatDoor
open Go.RowKit
set_option maxRecDepth 4000

theorem rowS_len (f : Nat → ByteArray) (n : Nat) : (rowG (encS f) n).length = n := by
  rw [rowG_len (c := 1) (fun _ => rfl)]; omega
theorem rowS_get {f : Nat → ByteArray} {n j : Nat} {u : Value} (h : (rowG (encS f) n)[j]? = some u) : j < n ∧ u = .string (f j) := by
  have hj : j < n := by
    have := (List.getElem?_eq_some_iff.1 h).1
    rwa [rowS_len] at this
  have h1 := rowG_get (enc := encS f) (c := 1) (fun _ => rfl) n j 0 hj (by decide)
  rw [Nat.mul_one, Nat.add_zero, h] at h1
  exact ⟨hj, (Option.some.inj h1)⟩
theorem rowS_one {f : Nat → ByteArray} {n : Nat} : ∀ u ∈ rowG (encS f) n, u.oneCell' = true := by
  intro u hu
  obtain ⟨j, hj⟩ := List.mem_iff_getElem?.1 hu
  obtain ⟨_, rfl⟩ := rowS_get hj
  rfl
/-- What is appended, where it lies. -/
theorem sview_cells {W : World} {g n c : Nat} {f : Nat → ByteArray} (h : SView W (some ⟨g, 0, none⟩) n c f) : ∀ j u, (rowG (encS f) n)[j]? = some u → W.cell? ((⟨g, 0, none⟩ : Addr).add j) = some u := by
  intro j u hj
  obtain ⟨hlt, rfl⟩ := rowS_get hj
  obtain ⟨b, off, e, _, hc⟩ := h.cells (by omega)
  cases e
  have := hc j hlt
  have e : (⟨g, 0, none⟩ : Addr).add j = ⟨g, 0 + j, none⟩ := by unfold Addr.add; split <;> simp_all
  rw [e]; exact this
theorem sview_of_row {W : World} {base g n c : Nat} {f : Nat → ByteArray} (h : W.ownsRow base 9 1 (.slice (some ⟨g, 0, none⟩) n c) n (rowG (encS f) n)) : SView W (some ⟨g, 0, none⟩) n c f := by
  obtain ⟨a, k, e, hv, _⟩ := sview_of_own h
  cases e
  exact hv

/-- Two rows, one behind the other. -/
def catF (f0 : Nat → ByteArray) (n0 : Nat) (f1 : Nat → ByteArray) (i : Nat) : ByteArray := if i < n0 then f0 i else f1 (i - n0)
theorem rowS_cat (f0 : Nat → ByteArray) (n0 : Nat) (f1 : Nat → ByteArray) : ∀ n1, rowG (encS f0) n0 ++ rowG (encS f1) n1 = rowG (encS (catF f0 n0 f1)) (n0 + n1)
  | 0 => by
    rw [rowG, List.append_nil]
    exact rowG_congr (fun i hi => by simp [encS, catF, hi])
  | n1 + 1 => by
    rw [rowG, ← List.append_assoc, rowS_cat f0 n0 f1 n1]
    show _ = rowG (encS (catF f0 n0 f1)) (n0 + n1) ++ encS (catF f0 n0 f1) (n0 + n1)
    simp [encS, catF, show ¬ n0 + n1 < n0 by omega]
/-- A row that was put behind a row of the call's own. -/
theorem grown9 {w W W' : World} {T c n m g k : Nat} {v : Value} {xs ys : List Value} (hb : Below w.heap.size w W) (hO : W.ownsRow w.heap.size T c (.slice (some ⟨g, 0, none⟩) n k) n xs) (hO2 : W'.ownsRow w.heap.size T c v m ys) (hgr : W.grownBy W' (Value.slice (some ⟨g, 0, none⟩) n k).ownBlock)
    (hnil : ¬ v = .slice none 0 0) : (∃ g' k', v = .slice (some ⟨g', 0, none⟩) m k') ∧ Below w.heap.size w W' := by
  refine ⟨?_, hb.grown hgr hb.size (own_ge9 hO)⟩
  rcases hO2.2 with ⟨e, _⟩ | ⟨g', k', _, e, _⟩
  · exact absurd e hnil
  · exact ⟨g', k', e⟩

set_option maxHeartbeats 4000000 in
theorem concat3_any (B g0 n0 c0 g1 n1 c1 g2 n2 c2 : Nat) (f0 f1 f2 : Nat → ByteArray) (w : World)
    (x0 : w.cell? ⟨B, 0, none⟩ = some (.slice (some ⟨g0, 0, none⟩) n0 c0)) (x1 : w.cell? ⟨B, 1, none⟩ = some (.slice (some ⟨g1, 0, none⟩) n1 c1)) (x2 : w.cell? ⟨B, 2, none⟩ = some (.slice (some ⟨g2, 0, none⟩) n2 c2)) (hB : B < w.heap.size)
    (v0 : SView w (some ⟨g0, 0, none⟩) n0 c0 f0) (v1 : SView w (some ⟨g1, 0, none⟩) n1 c1 f1) (v2 : SView w (some ⟨g2, 0, none⟩) n2 c2 f2) (h0 : 0 < n0) (l0 : n0 ≤ 1048576) (l1 : n1 ≤ 1048576) (l2 : n2 ≤ 1048576) :
    Calls Tryz.prog 44 #[.slice (some ⟨B, 0, none⟩) 3 3] w fun e w' => ∃ g c, e = .returned (.slice (some ⟨g, 0, none⟩) (n0 + n1 + n2) c) ∧ w'.ownsRow w.heap.size 9 1 (.slice (some ⟨g, 0, none⟩) (n0 + n1 + n2) c) (n0 + n1 + n2) (rowG (encS f0) n0 ++ rowG (encS f1) n1 ++ rowG (encS f2) n2) ∧ Below w.heap.size w w' := by
  obtain ⟨i0, hi, hz0, hz1, hz2⟩ := infoStr
  have hG := growStr_any (n0 + n1 + n2) w (by omega) (by omega)
  have e1 : ((n0 + n1 + n2 : Nat) : Int) = (n0 : Int) + n1 + n2 := by omega
  rw [e1] at hG
  have k1 : ¬ ((0 : Int) + n0 < 0) := by omega
  have k2 : ¬ ((n0 : Int) + n1 < 0) := by omega
  have k3 : ¬ ((n0 : Int) + n1 + n2 < 0) := by omega
  go_enter Tryz.func44, Tryz.ntmps44
  go_wp2
  refine wp_loop_rounds 4 ?_
  rw [rounds_succ]
  go_wp2
  rw [rounds_succ]
  go_wp2
  rw [rounds_succ]
  go_wp2
  rw [rounds_succ]
  go_wp2_with fail
  refine hG.mono ?_
  rintro e w1 ⟨g, c, rfl, hO1, hb1⟩
  have s1 := hb1.size
  rw [← hb1.cell (p := ⟨B, 0, none⟩) hB] at x0
  rw [← hb1.cell (p := ⟨B, 1, none⟩) hB] at x1
  rw [← hb1.cell (p := ⟨B, 2, none⟩) hB] at x2
  have HX : Hid (w1.cell? ⟨B, 1, none⟩ = some (.slice (some ⟨g1, 0, none⟩) n1 c1) ∧ w1.cell? ⟨B, 2, none⟩ = some (.slice (some ⟨g2, 0, none⟩) n2 c2)) := ⟨x1, x2⟩
  have hV0 := sview_cells (v0.below hb1)
  clear hG k1 k2 k3 x1 x2
  go_wp2
  refine wp_loop_rounds 4 ?_
  rw [rounds_succ]
  go_wp2_with (at_builtin; refine wpList_append_own _ rfl (.tmp 31) (.tmp 32) 74 rfl w.heap.size 9 i0 (.string ⟨#[]⟩) 1 16 Tryz.underlying74 hi hz0 hz1 hz2 rfl (by decide) _ _ _ rfl hO1 ⟨g0, 0, none⟩ n0 c0 (rowG (encS f0) n0) rfl (by rw [rowS_len]; omega) hV0 rowS_one (by unfold maxLen; omega) (by omega) (by omega) ?_)
  intro u2 w2 hO2 hgr2 hnil2
  obtain ⟨⟨g2', k2', rfl⟩, hb2⟩ := grown9 hb1 hO1 hO2 hgr2 hnil2
  have s2 := hb2.size
  have x1 : w2.cell? ⟨B, 1, none⟩ = some (.slice (some ⟨g1, 0, none⟩) n1 c1) := by rw [hb2.cell (p := ⟨B, 1, none⟩) hB, ← hb1.cell (p := ⟨B, 1, none⟩) hB]; exact HX.out.1
  have hV1 := sview_cells (v1.below hb2)
  have HX2 : Hid (w.cell? ⟨B, 2, none⟩ = some (.slice (some ⟨g2, 0, none⟩) n2 c2)) := by
    have := HX.out.2
    rw [hb1.cell (p := ⟨B, 2, none⟩) hB] at this
    exact this
  clear hV0 hO1 hgr2 hnil2 x0 HX hb1 s1 v0 v1
  go_wp2
  rw [rounds_succ]
  go_wp2_with (at_builtin; refine wpList_append_own _ rfl (.tmp 31) (.tmp 32) 74 rfl w.heap.size 9 i0 (.string ⟨#[]⟩) 1 16 Tryz.underlying74 hi hz0 hz1 hz2 rfl (by decide) _ _ _ rfl hO2 ⟨g1, 0, none⟩ n1 c1 (rowG (encS f1) n1) rfl (by rw [rowS_len]; omega) hV1 rowS_one (by unfold maxLen; omega) (by omega) (by omega) ?_)
  intro u3 w3 hO3 hgr3 hnil3
  obtain ⟨⟨g3', k3', rfl⟩, hb3⟩ := grown9 hb2 hO2 hO3 hgr3 hnil3
  have s3 := hb3.size
  have x2 : w3.cell? ⟨B, 2, none⟩ = some (.slice (some ⟨g2, 0, none⟩) n2 c2) := by rw [hb3.cell (p := ⟨B, 2, none⟩) hB]; exact HX2.out
  have hV2 := sview_cells (v2.below hb3)
  clear hV1 hO2 hgr3 hnil3 x1 HX2 hb2 s2 v2
  go_wp2
  rw [rounds_succ]
  go_wp2_with (at_builtin; refine wpList_append_own _ rfl (.tmp 31) (.tmp 32) 74 rfl w.heap.size 9 i0 (.string ⟨#[]⟩) 1 16 Tryz.underlying74 hi hz0 hz1 hz2 rfl (by decide) _ _ _ rfl hO3 ⟨g2, 0, none⟩ n2 c2 (rowG (encS f2) n2) rfl (by rw [rowS_len]; omega) hV2 rowS_one (by unfold maxLen; omega) (by omega) (by omega) ?_)
  intro u4 w4 hO4 hgr4 hnil4
  obtain ⟨⟨g4', k4', rfl⟩, hb4⟩ := grown9 hb3 hO3 hO4 hgr4 hnil4
  have HR : Hid (w4.ownsRow w.heap.size 9 1 (.slice (some ⟨g4', 0, none⟩) (n0 + n1 + n2) k4') (n0 + n1 + n2) (rowG (encS f0) n0 ++ rowG (encS f1) n1 ++ rowG (encS f2) n2) ∧ Below w.heap.size w w4) := ⟨by rw [List.append_assoc]; exact hO4, hb4⟩
  clear hV2 hO3 hO4 hgr4 hnil4 x2 hb3 hb4 s3
  go_wp2
  rw [rounds_succ]
  go_wp2
  go_ret
  exact ⟨_, _, rfl, HR.out.1, HR.out.2⟩
end Go.Proofs.YtfjlmkphncigladGreatDoor

/-
  The program's isWord, isNoName, isOfNoType, and whether one of a row is so.
-/
namespace Go.Proofs.YtfjlmkphncigladGreatDoor
open Go.RowKit
set_option maxRecDepth 4000

theorem isKw_split (s : ByteArray) : isKw s = ((s.toList == [116, 97, 98, 108, 101]) || ((s.toList == [112, 114, 105, 109, 97, 114, 121]) || ((s.toList == [117, 110, 105, 113, 117, 101]) || ((s.toList == [105, 110, 100, 101, 120]) || ((s.toList == [110, 117, 108, 108]) || ((s.toList == [100, 101, 115, 99]) || ((s.toList == [105, 110, 116]) || ((s.toList == [110, 117, 109]) || ((s.toList == [116, 101, 120, 116]) || ((s.toList == [98, 111, 111, 108]) || (false))))))))))) := by
  unfold isKw kwords
  simp only [List.contains_cons, List.contains_nil]
theorem beq_flip (a b : List UInt8) : (a == b) = (b == a) := by
  cases h : a == b with
  | true => rw [eq_of_beq h]; exact (beq_self_eq_true _).symm
  | false => cases h2 : b == a with
    | false => rfl
    | true => rw [eq_of_beq h2, beq_self_eq_true] at h; cases h

set_option maxHeartbeats 2000000 in
theorem isWord_any (s : ByteArray) (w : World) :
    Calls Tryz.prog 68 #[.string s] w fun e w' => e = .returned (.bool (isKw s)) ∧ w = w' := by
  have HK := isKw_split s
  obtain ⟨z, hz⟩ : ∃ z, Hid (isKw s = z) := ⟨_, rfl⟩
  rw [hz.out] at HK ⊢
  clear hz
  cases m0 : (s.toList == [116, 97, 98, 108, 101]) with
  | true =>
    have HZ : Hid (z = true) := by show _ = _; rw [HK]; simp [m0]
    clear HK
    go_enter Tryz.func68, Tryz.ntmps68
    go_wp2
    go_ret
    exact ⟨by rw [HZ.out]; rfl, rfl⟩
  | false =>
    cases m1 : (s.toList == [112, 114, 105, 109, 97, 114, 121]) with
    | true =>
      have HZ : Hid (z = true) := by show _ = _; rw [HK]; simp [m0, m1]
      clear HK
      go_enter Tryz.func68, Tryz.ntmps68
      go_wp2
      go_ret
      exact ⟨by rw [HZ.out]; rfl, rfl⟩
    | false =>
      cases m2 : (s.toList == [117, 110, 105, 113, 117, 101]) with
      | true =>
        have HZ : Hid (z = true) := by show _ = _; rw [HK]; simp [m0, m1, m2]
        clear HK
        go_enter Tryz.func68, Tryz.ntmps68
        go_wp2
        go_ret
        exact ⟨by rw [HZ.out]; rfl, rfl⟩
      | false =>
        cases m3 : (s.toList == [105, 110, 100, 101, 120]) with
        | true =>
          have HZ : Hid (z = true) := by show _ = _; rw [HK]; simp [m0, m1, m2, m3]
          clear HK
          go_enter Tryz.func68, Tryz.ntmps68
          go_wp2
          go_ret
          exact ⟨by rw [HZ.out]; rfl, rfl⟩
        | false =>
          cases m4 : (s.toList == [110, 117, 108, 108]) with
          | true =>
            have HZ : Hid (z = true) := by show _ = _; rw [HK]; simp [m0, m1, m2, m3, m4]
            clear HK
            go_enter Tryz.func68, Tryz.ntmps68
            go_wp2
            go_ret
            exact ⟨by rw [HZ.out]; rfl, rfl⟩
          | false =>
            cases m5 : (s.toList == [100, 101, 115, 99]) with
            | true =>
              have HZ : Hid (z = true) := by show _ = _; rw [HK]; simp [m0, m1, m2, m3, m4, m5]
              clear HK
              go_enter Tryz.func68, Tryz.ntmps68
              go_wp2
              go_ret
              exact ⟨by rw [HZ.out]; rfl, rfl⟩
            | false =>
              cases m6 : (s.toList == [105, 110, 116]) with
              | true =>
                have HZ : Hid (z = true) := by show _ = _; rw [HK]; simp [m0, m1, m2, m3, m4, m5, m6]
                clear HK
                go_enter Tryz.func68, Tryz.ntmps68
                go_wp2
                go_ret
                exact ⟨by rw [HZ.out]; rfl, rfl⟩
              | false =>
                cases m7 : (s.toList == [110, 117, 109]) with
                | true =>
                  have HZ : Hid (z = true) := by show _ = _; rw [HK]; simp [m0, m1, m2, m3, m4, m5, m6, m7]
                  clear HK
                  go_enter Tryz.func68, Tryz.ntmps68
                  go_wp2
                  go_ret
                  exact ⟨by rw [HZ.out]; rfl, rfl⟩
                | false =>
                  cases m8 : (s.toList == [116, 101, 120, 116]) with
                  | true =>
                    have HZ : Hid (z = true) := by show _ = _; rw [HK]; simp [m0, m1, m2, m3, m4, m5, m6, m7, m8]
                    clear HK
                    go_enter Tryz.func68, Tryz.ntmps68
                    go_wp2
                    go_ret
                    exact ⟨by rw [HZ.out]; rfl, rfl⟩
                  | false =>
                    cases m9 : (s.toList == [98, 111, 111, 108]) with
                    | true =>
                      have HZ : Hid (z = true) := by show _ = _; rw [HK]; simp [m0, m1, m2, m3, m4, m5, m6, m7, m8, m9]
                      clear HK
                      go_enter Tryz.func68, Tryz.ntmps68
                      go_wp2
                      go_ret
                      exact ⟨by rw [HZ.out]; rfl, rfl⟩
                    | false =>
                      have HZ : Hid (z = false) := by show _ = _; rw [HK]; simp [m0, m1, m2, m3, m4, m5, m6, m7, m8, m9]
                      clear HK
                      go_enter Tryz.func68, Tryz.ntmps68
                      go_wp2
                      go_ret
                      exact ⟨by rw [HZ.out]; rfl, rfl⟩

set_option maxHeartbeats 1000000 in
theorem isNoName_any (s : ByteArray) (w : World) (hs : s.size ≤ 281474976710656) :
    Calls Tryz.prog 48 #[.string s] w fun e w' => e = .returned (.bool (!wordOk s)) ∧ Below w.heap.size w w' := by
  have hT := implTokenOk_any 1 s w hs
  have HW : Hid (wordOk s = (tokOk 1 s && !isKw s)) := by show _ = _; unfold wordOk tokOk; rw [if_pos rfl]
  have hI := fun W => isWord_any s W
  obtain ⟨z, hz⟩ : ∃ z, Hid (wordOk s = z) := ⟨_, rfl⟩
  rw [hz.out] at HW ⊢
  clear hz
  generalize tokOk 1 s = o at *
  generalize isKw s = k at *
  go_enter Tryz.func48, Tryz.ntmps48
  go_wp2_with fail
  refine hT.mono ?_
  rintro e w1 ⟨rfl, hb1⟩
  have HB : Hid (Below w.heap.size w w1) := hb1
  clear hT hb1
  cases o with
  | false =>
    clear hI
    go_wp2
    go_ret
    exact ⟨by rw [HW.out]; rfl, HB.out⟩
  | true =>
    go_wp2_with fail
    refine (hI _).mono ?_
    rintro e w2 ⟨rfl, rfl⟩
    clear hI
    go_wp2
    go_ret
    exact ⟨by rw [HW.out]; cases k <;> rfl, HB.out⟩

set_option maxHeartbeats 1000000 in
theorem isOfNoType_any (s : ByteArray) (ty : Int) (nul : Bool) (w : World) :
    Calls Tryz.prog 50 #[.agg #[.string s, .int .i64 ty, .bool nul]] w fun e w' => e = .returned (.bool (decide (ty < 1 ∨ 4 < ty))) ∧ Below w.heap.size w w' := by
  have HB : Hid (Below w.heap.size w (w.alloc (.cells #[.string s, .int .i64 ty, .bool nul] 49))) := (Below.refl _ _).alloc (Nat.le_refl _) _
  obtain ⟨z, hz⟩ : ∃ z, Hid (decide (ty < 1 ∨ 4 < ty) = z) := ⟨_, rfl⟩
  rw [hz.out]
  by_cases h1 : ty < 1
  · have HD : Hid (z = true) := hz.out.symm.trans (decide_eq_true (.inl h1))
    go_enter Tryz.func50, Tryz.ntmps50
    go_wp2
    go_ret
    exact ⟨by rw [HD.out]; rfl, HB.out⟩
  · by_cases h2 : 4 < ty
    · have HD : Hid (z = true) := hz.out.symm.trans (decide_eq_true (.inr h2))
      have h3 : ty > 4 := h2
      go_enter Tryz.func50, Tryz.ntmps50
      go_wp2
      go_ret
      exact ⟨by rw [HD.out]; rfl, HB.out⟩
    · have HD : Hid (z = false) := hz.out.symm.trans (decide_eq_false (by omega))
      have h3 : ¬ ty > 4 := by omega
      go_enter Tryz.func50, Tryz.ntmps50
      go_wp2
      go_ret
      exact ⟨by rw [HD.out]; rfl, HB.out⟩

set_option maxHeartbeats 2000000 in
theorem indexStr_any (a : Option Addr) (n cap : Nat) (f : Nat → ByteArray) (w : World) (h : SView w a n cap f) (hn : n ≤ 4194304) (hz : ∀ i, i < n → (f i).size ≤ 281474976710656) :
    Calls Tryz.prog 66 #[.slice a n cap, .func (.func 48) #[] #[]] w fun e w' => ∃ r : Int, e = .returned (.int .i64 r) ∧ (0 ≤ r ↔ ∃ i, i < n ∧ wordOk (f i) = false) ∧ Below w.heap.size w w' := by
  go_enter Tryz.func66, Tryz.ntmps66
  go_wp2
  go_loopg [8] n (fun q i wr => ∃ k : Nat, k ≤ n ∧ q = n - k ∧ i = .int .i64 k ∧ Below w.heap.size w wr ∧ Hid (∀ i, i < k → ¬ (wordOk (f i) = false)))
  case atStart => exact ⟨0, Nat.zero_le _, rfl, rfl, Below.refl _ _, fun j hj => absurd hj (Nat.not_lt_zero _)⟩
  case round =>
    obtain ⟨k, hk, rfl, rfl, hB, HA⟩ := hrel
    by_cases hlt : k < n
    · have hkz : (k : Int) < (n : Int) := by omega
      obtain ⟨b1, o1, rfl, hb1, hcs⟩ := (h.below hB).cells (by omega)
      have x0 := hcs k hlt
      have hV := fun W => isNoName_any (f k) W (hz k hlt)
      have HB : Hid (Below w.heap.size w wr) := hB
      obtain ⟨o, ho⟩ : ∃ o, Hid ((!wordOk (f k)) = o) := ⟨_, rfl⟩
      have HO : Hid (o = true ↔ wordOk (f k) = false) := by show _ ↔ _; rw [← ho.out]; cases wordOk (f k) <;> simp
      simp only [ho.out] at hV
      clear ho
      obtain ⟨s0, hs0⟩ : ∃ s, Hid (f k = s) := ⟨_, rfl⟩
      rw [hs0.out] at x0
      simp only [hs0.out] at hV
      clear hcs h hB hz
      go_wp2_with fail
      refine (hV _).mono ?_
      rintro e w2 ⟨rfl, hB2⟩
      have HB3 : Hid (Below w.heap.size w w2) := HB.out.trans (hB2.mono (by have := HB.out.size; first | exact this | (simp; omega)))
      clear hB2 hV x0 HB
      cases o with
      | true =>
        have HR : Hid ((0 : Int) ≤ (k : Int) ↔ ∃ i, i < n ∧ wordOk (f i) = false) := ⟨fun _ => ⟨k, hlt, HO.out.1 rfl⟩, fun _ => by omega⟩
        clear HO HA
        go_wp2
        go_ret
        exact ⟨_, rfl, HR.out, HB3.out⟩
      | false =>
        have HN : Hid (∀ i, i < k + 1 → ¬ (wordOk (f i) = false)) := by
          intro i hi
          by_cases e : i < k
          · exact HA.out i e
          · obtain rfl : i = k := by omega
            intro hb
            have := HO.out.2 hb
            cases this
        clear HO HA
        go_wp2
        go_roundg (n - (k + 1))
        case measure => omega
        case rel => exact ⟨k + 1, by omega, rfl, by go_num, HB3.out, HN⟩
    · have hkz : ¬ (k : Int) < (n : Int) := by omega
      obtain rfl : k = n := by omega
      have HR : Hid ((0 : Int) ≤ -1 ↔ ∃ i, i < k ∧ wordOk (f i) = false) := ⟨fun h => absurd h (by decide), fun ⟨i, hi, hb⟩ => absurd hb (HA.out i hi)⟩
      clear h HA
      go_wp2
      go_ret
      exact ⟨_, rfl, HR.out, hB⟩

set_option maxHeartbeats 1000000 in
theorem containsStr_any (a : Option Addr) (n cap : Nat) (f : Nat → ByteArray) (w : World) (h : SView w a n cap f) (hn : n ≤ 4194304) (hz : ∀ i, i < n → (f i).size ≤ 281474976710656) :
    Calls Tryz.prog 47 #[.slice a n cap, .func (.func 48) #[] #[]] w fun e w' => e = .returned (.bool (decide (∃ i, i < n ∧ wordOk (f i) = false))) ∧ Below w.heap.size w w' := by
  have hI := indexStr_any a n cap f w h hn hz
  clear h
  obtain ⟨z, hd⟩ : ∃ z, Hid (decide (∃ i, i < n ∧ wordOk (f i) = false) = z) := ⟨_, rfl⟩
  rw [hd.out]
  go_enter Tryz.func47, Tryz.ntmps47
  go_wp2_with fail
  refine hI.mono ?_
  rintro e w1 ⟨r, rfl, hr, hb⟩
  have HD : Hid (z = decide (0 ≤ r)) := by
    show _ = _
    rw [← hd.out]
    exact decide_eq_decide.2 hr.symm
  clear hI hr hd
  go_wp2
  go_ret
  exact ⟨by rw [HD.out]; rfl, hb⟩

set_option maxHeartbeats 2000000 in
theorem indexCol_any (a : Option Addr) (n cap : Nat) (f : Nat → PCol) (w : World) (h : CView w a n cap f) (hn : n ≤ 4194304) :
    Calls Tryz.prog 69 #[.slice a n cap, .func (.func 50) #[] #[]] w fun e w' => ∃ r : Int, e = .returned (.int .i64 r) ∧ (0 ≤ r ↔ ∃ i, i < n ∧ ((f i).type < 1 ∨ 4 < (f i).type)) ∧ Below w.heap.size w w' := by
  go_enter Tryz.func69, Tryz.ntmps69
  go_wp2
  go_loopg [8] n (fun q i wr => ∃ k : Nat, k ≤ n ∧ q = n - k ∧ i = .int .i64 k ∧ Below w.heap.size w wr ∧ Hid (∀ i, i < k → ¬ (((f i).type < 1 ∨ 4 < (f i).type))))
  case atStart => exact ⟨0, Nat.zero_le _, rfl, rfl, Below.refl _ _, fun j hj => absurd hj (Nat.not_lt_zero _)⟩
  case round =>
    obtain ⟨k, hk, rfl, rfl, hB, HA⟩ := hrel
    by_cases hlt : k < n
    · have hkz : (k : Int) < (n : Int) := by omega
      obtain ⟨b1, o1, rfl, hb1, hcs⟩ := (h.below hB).cells (by omega)
      obtain ⟨x0, x1, x2⟩ := hcs k hlt
      have hV := fun W => isOfNoType_any (f k).name (f k).type (f k).null W
      have HB : Hid (Below w.heap.size w wr) := hB
      obtain ⟨o, ho⟩ : ∃ o, Hid (decide ((f k).type < 1 ∨ 4 < (f k).type) = o) := ⟨_, rfl⟩
      have HO : Hid (o = true ↔ ((f k).type < 1 ∨ 4 < (f k).type)) := by show _ ↔ _; rw [← ho.out]; exact decide_eq_true_iff
      simp only [ho.out] at hV
      clear ho
      obtain ⟨s0, hs0⟩ : ∃ s, Hid ((f k).name = s) := ⟨_, rfl⟩
      obtain ⟨s1, hs1⟩ : ∃ s, Hid ((f k).type = s) := ⟨_, rfl⟩
      obtain ⟨s2, hs2⟩ : ∃ s, Hid ((f k).null = s) := ⟨_, rfl⟩
      rw [hs0.out] at x0
      rw [hs1.out] at x1
      rw [hs2.out] at x2
      simp only [hs0.out, hs1.out, hs2.out] at hV
      clear hcs h hB
      go_wp2_with fail
      refine (hV _).mono ?_
      rintro e w2 ⟨rfl, hB2⟩
      have HB3 : Hid (Below w.heap.size w w2) := HB.out.trans (hB2.mono (by have := HB.out.size; first | exact this | (simp; omega)))
      clear hB2 hV x0 x1 x2 HB
      cases o with
      | true =>
        have HR : Hid ((0 : Int) ≤ (k : Int) ↔ ∃ i, i < n ∧ ((f i).type < 1 ∨ 4 < (f i).type)) := ⟨fun _ => ⟨k, hlt, HO.out.1 rfl⟩, fun _ => by omega⟩
        clear HO HA
        go_wp2
        go_ret
        exact ⟨_, rfl, HR.out, HB3.out⟩
      | false =>
        have HN : Hid (∀ i, i < k + 1 → ¬ (((f i).type < 1 ∨ 4 < (f i).type))) := by
          intro i hi
          by_cases e : i < k
          · exact HA.out i e
          · obtain rfl : i = k := by omega
            intro hb
            have := HO.out.2 hb
            cases this
        clear HO HA
        go_wp2
        go_roundg (n - (k + 1))
        case measure => omega
        case rel => exact ⟨k + 1, by omega, rfl, by go_num, HB3.out, HN⟩
    · have hkz : ¬ (k : Int) < (n : Int) := by omega
      obtain rfl : k = n := by omega
      have HR : Hid ((0 : Int) ≤ -1 ↔ ∃ i, i < k ∧ ((f i).type < 1 ∨ 4 < (f i).type)) := ⟨fun h => absurd h (by decide), fun ⟨i, hi, hb⟩ => absurd hb (HA.out i hi)⟩
      clear h HA
      go_wp2
      go_ret
      exact ⟨_, rfl, HR.out, hB⟩

set_option maxHeartbeats 1000000 in
theorem containsCol_any (a : Option Addr) (n cap : Nat) (f : Nat → PCol) (w : World) (h : CView w a n cap f) (hn : n ≤ 4194304) :
    Calls Tryz.prog 49 #[.slice a n cap, .func (.func 50) #[] #[]] w fun e w' => e = .returned (.bool (decide (∃ i, i < n ∧ ((f i).type < 1 ∨ 4 < (f i).type)))) ∧ Below w.heap.size w w' := by
  have hI := indexCol_any a n cap f w h hn
  clear h
  obtain ⟨z, hd⟩ : ∃ z, Hid (decide (∃ i, i < n ∧ ((f i).type < 1 ∨ 4 < (f i).type)) = z) := ⟨_, rfl⟩
  rw [hd.out]
  go_enter Tryz.func49, Tryz.ntmps49
  go_wp2_with fail
  refine hI.mono ?_
  rintro e w1 ⟨r, rfl, hr, hb⟩
  have HD : Hid (z = decide (0 ≤ r)) := by
    show _ = _
    rw [← hd.out]
    exact decide_eq_decide.2 hr.symm
  clear hI hr hd
  go_wp2
  go_ret
  exact ⟨by rw [HD.out]; rfl, hb⟩
end Go.Proofs.YtfjlmkphncigladGreatDoor

