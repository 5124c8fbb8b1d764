/-
  Together: LexBytes, LexImpl, TokAll, BytesEq, TokOkImpl, BuildWrite, JoinImpl
-/
import Derived.Test.YtbpkonneliidiadPack1
import Derived.Test.YtbpkonneliidiadShelf
import Derived.Test.YtbpkonneliidiadPack2
import Derived.Deep.LoopGhost
import Derived.BigQuiet
import Derived.Deep.QuietTactic
import Derived.Shelf.Strings.Builder1
/-
  What the program asks of one byte; a text cloned.
-/
namespace Go.Proofs.Ytbpkonneliidiad
open Go.RowKit
set_option maxRecDepth 4000

set_option maxHeartbeats 1000000 in
theorem isBlank_any (c : Int) (w : World) : Calls Try.prog 41 #[.int .u8 c] w fun e w' => e = .returned (.bool (blank c)) ∧ w = w' := by
  have HB : Hid (blank c = (c == 32 || c == 9 || c == 10 || c == 13)) := by show _ = _; unfold blank; rw [Bool.eq_iff_iff]; simp [or_assoc]
  go_enter Try.func41, Try.ntmps41
  go_wp2
  all_goals
    go_ret
    exact ⟨by rw [HB.out]; simp [*], rfl⟩
set_option maxHeartbeats 1000000 in
theorem isMark_any (c : Int) (w : World) : Calls Try.prog 43 #[.int .u8 c] w fun e w' => e = .returned (.bool (markC c)) ∧ w = w' := by
  have HB : Hid (markC c = (c == 123 || c == 125 || c == 44 || c == 59)) := by show _ = _; unfold markC; rw [Bool.eq_iff_iff]; simp [or_assoc]
  go_enter Try.func43, Try.ntmps43
  go_wp2
  all_goals
    go_ret
    exact ⟨by rw [HB.out]; simp [*], rfl⟩
set_option maxHeartbeats 1000000 in
theorem isLetter_any (c : Int) (w : World) (h0 : 0 ≤ c) (h1 : c ≤ 255) : Calls Try.prog 42 #[.int .u8 c] w fun e w' => e = .returned (.bool (small c)) ∧ w = w' := by
  have HB : Hid (small c = (decide (97 ≤ c) && decide (c ≤ 122))) := by show _ = _; unfold small; simp
  by_cases h : 97 ≤ c
  · go_enter Try.func42, Try.ntmps42
    go_wp2
    go_ret
    exact ⟨by rw [HB.out]; simp [h], rfl⟩
  · go_enter Try.func42, Try.ntmps42
    go_wp2
    go_ret
    exact ⟨by rw [HB.out]; simp; omega, rfl⟩
set_option maxHeartbeats 1000000 in
theorem isDigit_any (c : Int) (w : World) (h0 : 0 ≤ c) (h1 : c ≤ 255) : Calls Try.prog 44 #[.int .u8 c] w fun e w' => e = .returned (.bool (digit c)) ∧ w = w' := by
  have HB : Hid (digit c = (decide (48 ≤ c) && decide (c ≤ 57))) := by show _ = _; unfold digit; simp
  by_cases h : 48 ≤ c
  · go_enter Try.func44, Try.ntmps44
    go_wp2
    go_ret
    exact ⟨by rw [HB.out]; simp [h], rfl⟩
  · go_enter Try.func44, Try.ntmps44
    go_wp2
    go_ret
    exact ⟨by rw [HB.out]; simp; omega, rfl⟩
theorem strClone_tok (s : ByteArray) (w : World) (hs : s.size ≤ 281474976710656) :
    Calls Try.prog 45 #[.string s] w fun e w' => e = .returned (.string s) ∧ Below w.heap.size w w' := by
  go_enter Try.func45, Try.ntmps45
  go_wp2_with (go_at_call 83; refine (Try.stringslite_Clone s _ hs).mono ?_; rintro e w2 ⟨rfl, hB⟩)
  go_ret
  exact ⟨rfl, hB⟩
end Go.Proofs.Ytbpkonneliidiad

/-
  The program's Lex: from state to state.
-/
namespace Go.Proofs.Ytbpkonneliidiad
open Go.RowKit
set_option maxRecDepth 4000

/-- What holds between two tokens. -/
structure Inv (s : ByteArray) (w : World) (r : List (Int × ByteArray) × Int) (i : Nat) (l : List (Int × ByteArray)) (v : Value) (W : World) : Prop where
  le : i ≤ s.size
  ne : v ≠ .slice none 0 0
  few : l.length ≤ 500
  lex : lexF s i l = r
  own : W.ownsRow w.heap.size 40 2 v l.length (rowL l)
  below : Below w.heap.size w W
def jLex (s : ByteArray) (w : World) (r : List (Int × ByteArray) × Int) : Nat → Act → World → Prop
  | 0, a, W => ∃ (i : Nat) (l : List (Int × ByteArray)) (v : Value), (∃ u5 u7 u8 u9 u10 u11 u12 u13 u14 u15 u16 u17 u18 u19 u20 u21 u22 u23 u24 u25 u26 u27 u28 u29 u30 u31 u32 u33 u34 u35 u36 u37 u38 u39 u40 u41 u42 u43 u44 u45 u46 u47 u48 u49 u50 u51 u52 u53 u54 u55 u56 u57 u58 u59 u60 u61 u62 u63 u64 u65 u66 u67 u68 u69 u70 u71 u72 u73 u74 u75 u76 : Value, a = { tmps := #[.string s, undef, .slice none 0 0, .int .i64 0, v, u5, .int .i64 i, u7, u8, u9, u10, u11, u12, u13, u14, u15, u16, u17, u18, u19, u20, u21, u22, u23, u24, u25, u26, u27, u28, u29, u30, u31, u32, u33, u34, u35, u36, u37, u38, u39, u40, u41, u42, u43, u44, u45, u46, u47, u48, u49, u50, u51, u52, u53, u54, u55, u56, u57, u58, u59, u60, u61, u62, u63, u64, u65, u66, u67, u68, u69, u70, u71, u72, u73, u74, u75, u76], defers := [] }) ∧ Inv s w r i l v W
  | 1, a, W => ∃ (i : Nat), (∃ u4 u6 u7 u8 u9 u10 u11 u12 u13 u14 u15 u16 u17 u18 u19 u20 u21 u22 u23 u24 u25 u26 u27 u28 u29 u30 u31 u32 u33 u34 u35 u36 u37 u38 u39 u40 u41 u42 u43 u44 u45 u46 u47 u48 u49 u50 u51 u52 u53 u54 u55 u56 u57 u58 u59 u60 u61 u62 u63 u64 u65 u66 u67 u68 u69 u70 u71 u72 u73 u74 u75 u76 : Value, a = { tmps := #[.string s, undef, .slice none 0 0, .int .i64 0, u4, .int .i64 i, u6, u7, u8, u9, u10, u11, u12, u13, u14, u15, u16, u17, u18, u19, u20, u21, u22, u23, u24, u25, u26, u27, u28, u29, u30, u31, u32, u33, u34, u35, u36, u37, u38, u39, u40, u41, u42, u43, u44, u45, u46, u47, u48, u49, u50, u51, u52, u53, u54, u55, u56, u57, u58, u59, u60, u61, u62, u63, u64, u65, u66, u67, u68, u69, u70, u71, u72, u73, u74, u75, u76], defers := [] }) ∧ r = ([], (i : Int)) ∧ Below w.heap.size w W
  | 2, a, W => ∃ (i j : Nat) (l : List (Int × ByteArray)) (v : Value), (∃ u7 u8 u9 u10 u11 u12 u13 u14 u15 u16 u17 u18 u19 u20 u21 u22 u23 u24 u25 u26 u27 u28 u29 u30 u31 u32 u33 u34 u35 u36 u37 u38 u39 u40 u41 u42 u43 u44 u45 u46 u47 u48 u49 u50 u51 u52 u53 u54 u55 u56 u57 u58 u59 u60 u61 u62 u63 u64 u65 u66 u67 u68 u69 u70 u71 u72 u73 u74 u75 u76 : Value, a = { tmps := #[.string s, undef, .slice none 0 0, .int .i64 0, v, .int .i64 i, .int .i64 j, u7, u8, u9, u10, u11, u12, u13, u14, u15, u16, u17, u18, u19, u20, u21, u22, u23, u24, u25, u26, u27, u28, u29, u30, u31, u32, u33, u34, u35, u36, u37, u38, u39, u40, u41, u42, u43, u44, u45, u46, u47, u48, u49, u50, u51, u52, u53, u54, u55, u56, u57, u58, u59, u60, u61, u62, u63, u64, u65, u66, u67, u68, u69, u70, u71, u72, u73, u74, u75, u76], defers := [] }) ∧ Inv s w r i l v W ∧ l.length ≠ 500 ∧ small (bt s i) = true ∧ i < j ∧ j ≤ s.size ∧ endN s j = endN s (i + 1)
  | 3, a, W => ∃ (i j : Nat) (l : List (Int × ByteArray)) (v : Value), (∃ u7 u8 u9 u10 u11 u12 u13 u14 u15 u16 u17 u18 u19 u20 u21 u22 u23 u24 u25 u26 u27 u28 u29 u30 u31 u32 u33 u34 u35 u36 u37 u38 u39 u40 u41 u42 u43 u44 u45 u46 u47 u48 u49 u50 u51 u52 u53 u54 u55 u56 u57 u58 u59 u60 u61 u62 u63 u64 u65 u66 u67 u68 u69 u70 u71 u72 u73 u74 u75 u76 : Value, a = { tmps := #[.string s, undef, .slice none 0 0, .int .i64 0, v, .int .i64 i, .int .i64 j, u7, u8, u9, u10, u11, u12, u13, u14, u15, u16, u17, u18, u19, u20, u21, u22, u23, u24, u25, u26, u27, u28, u29, u30, u31, u32, u33, u34, u35, u36, u37, u38, u39, u40, u41, u42, u43, u44, u45, u46, u47, u48, u49, u50, u51, u52, u53, u54, u55, u56, u57, u58, u59, u60, u61, u62, u63, u64, u65, u66, u67, u68, u69, u70, u71, u72, u73, u74, u75, u76], defers := [] }) ∧ Inv s w r i l v W ∧ l.length ≠ 500 ∧ markC (bt s i) = true ∧ j = i + 1 ∧ j ≤ s.size
  | _, _, _ => False
def muLex (s : ByteArray) (l : Nat) (a : Act) (_ : World) : Nat := if l = 1 then 0 else 4 * (s.size - (intOf (a.tmps.getD 6 undef)).toNat) + (if l = 0 then 1 else 2)

set_option maxRecDepth 100000 in
set_option maxHeartbeats 4000000 in
theorem implLex_any (s : ByteArray) (w : World) (hs : s.size ≤ 281474976710656) :
    Calls Try.prog 13 #[.string s] w (LexTo w (lexF s 0 [])) := by
  obtain ⟨i0, hi, hz0, hz1, hz2⟩ := infoTok2
  obtain ⟨r, hr⟩ : ∃ r, Hid (lexF s 0 [] = r) := ⟨_, rfl⟩
  rw [hr.out]
  have hO0 := World.ownsRow_lit (base := w.heap.size) (e := 40) (size := 2) w #[] 0 (Nat.le_refl _) (Nat.zero_le _) rfl
  have hB0 : Below w.heap.size w (w.alloc (.cells #[] 40)) := (Below.refl _ _).alloc (Nat.le_refl _) _
  have HI0 : Hid (Inv s w r 0 [] (.slice (some ⟨w.heap.size, 0, none⟩) 0 0) (w.alloc (.cells #[] 40))) := ⟨Nat.zero_le _, by simp, by simp, hr.out, hO0, hB0⟩
  clear hO0 hB0
  go_enter Try.func13, Try.ntmps13
  go_wp2
  refine wp_scope_goto (jLex s w r) (muLex s) ?lab ?pass ?first
  case lab =>
    rintro l a W h
    match l, h with
    | 0, _ => exact ⟨_, rfl⟩
    | 1, _ => exact ⟨_, rfl⟩
    | 2, _ => exact ⟨_, rfl⟩
    | 3, _ => exact ⟨_, rfl⟩
    | n + 4, h => exact h.elim
  case first =>
    intro F
    go_wp2
    refine wp_label ?_
    next K h => exact h _ _ (F 0 _ _ _ rfl ⟨0, [], _, ⟨_, _, _, _, _, _, _, _, _, _, _, _, _, _, _, _, _, _, _, _, _, _, _, _, _, _, _, _, _, _, _, _, _, _, _, _, _, _, _, _, _, _, _, _, _, _, _, _, _, _, _, _, _, _, _, _, _, _, _, _, _, _, _, _, _, _, _, _, _, _, _, rfl⟩, HI0.out⟩)
  case pass =>
    clear HI0
    rintro T l a W X hX hJ hT
    match l, hJ with
    | 0, hJ =>
      obtain ⟨i, l, v, ⟨u5, u7, u8, u9, u10, u11, u12, u13, u14, u15, u16, u17, u18, u19, u20, u21, u22, u23, u24, u25, u26, u27, u28, u29, u30, u31, u32, u33, u34, u35, u36, u37, u38, u39, u40, u41, u42, u43, u44, u45, u46, u47, u48, u49, u50, u51, u52, u53, u54, u55, u56, u57, u58, u59, u60, u61, u62, u63, u64, u65, u66, u67, u68, u69, u70, u71, u72, u73, u74, u75, u76, rfl⟩, hI⟩ := hJ
      obtain rfl := (Code.seq.inj (Option.some.inj hX)).2
      clear hX
      have HT : Hid (∀ l' a' w', jLex s w r l' a' w' → muLex s l' a' w' < muLex s 0 { tmps := #[.string s, undef, .slice none 0 0, .int .i64 0, v, u5, .int .i64 i, u7, u8, u9, u10, u11, u12, u13, u14, u15, u16, u17, u18, u19, u20, u21, u22, u23, u24, u25, u26, u27, u28, u29, u30, u31, u32, u33, u34, u35, u36, u37, u38, u39, u40, u41, u42, u43, u44, u45, u46, u47, u48, u49, u50, u51, u52, u53, u54, u55, u56, u57, u58, u59, u60, u61, u62, u63, u64, u65, u66, u67, u68, u69, u70, u71, u72, u73, u74, u75, u76], defers := [] } W → T l' a' w') := hT
      clear hT
      by_cases hlt : i < s.size
      · have hiz : ((i : Int) == (s.size : Int)) = false := by simp; omega
        have hiz2 : (i : Int) < (s.size : Int) := by omega
        have hc := bt_at hlt
        have hbd := bt_bd s i
        obtain ⟨c, hcc⟩ : ∃ c, Hid (bt s i = c) := ⟨_, rfl⟩
        rw [hcc.out] at hc hbd
        have hS1 := isBlank_any c W
        have hS2 := isLetter_any c W hbd.1 hbd.2
        have hS3 := isMark_any c W
        go_wp2_with (rw [hc])
        refine hS1.mono ?_
        rintro e _ ⟨rfl, rfl⟩
        clear hS1
        cases hb : blank c with
        | true =>
          have HN : Hid (Inv s w r (i + 1) l v W) := ⟨by have := hI.le; omega, hI.ne, hI.few, (lexF_blank hlt (by rw [hcc.out]; exact hb)).symm.trans hI.lex, hI.own, hI.below⟩
          clear hI hS2 hS3
          go_wp2
          go_step3
          refine HT.out 0 _ _ ⟨i + 1, l, v, ⟨_, _, _, _, _, _, _, _, _, _, _, _, _, _, _, _, _, _, _, _, _, _, _, _, _, _, _, _, _, _, _, _, _, _, _, _, _, _, _, _, _, _, _, _, _, _, _, _, _, _, _, _, _, _, _, _, _, _, _, _, _, _, _, _, _, _, _, _, _, _, _, rfl⟩, HN.out⟩ ?_
          simp [muLex, intOf]
          omega
        | false =>
          obtain ⟨a5, c5, rfl⟩ : ∃ a5 c5, v = .slice a5 l.length c5 := by
            rcases hI.own.2 with ⟨e, _⟩ | ⟨g, c', cur, e, _⟩
            · exact absurd e hI.ne
            · exact ⟨_, _, e⟩
          by_cases hl : l.length = 500
          · have hlz : ((l.length : Int) == 500) = true := by simp; omega
            have HR : Hid (r = ([], (i : Int)) ∧ Below w.heap.size w W) := by
              refine ⟨?_, hI.below⟩
              have e := hI.lex
              rw [lexF_no hlt (by rw [hcc.out]; exact hb) (fun h => h.2 hl)] at e
              exact e.symm
            clear hI hS2 hS3 hl
            go_wp2
            go_step3
            refine HT.out 1 _ _ ⟨i, ⟨_, _, _, _, _, _, _, _, _, _, _, _, _, _, _, _, _, _, _, _, _, _, _, _, _, _, _, _, _, _, _, _, _, _, _, _, _, _, _, _, _, _, _, _, _, _, _, _, _, _, _, _, _, _, _, _, _, _, _, _, _, _, _, _, _, _, _, _, _, _, _, _, rfl⟩, HR.out⟩ ?_
            simp [muLex, intOf]
          · have hlz : ((l.length : Int) == 500) = false := by simp; omega
            have HL : Hid (l.length ≠ 500) := hl
            clear hl
            go_wp2_with (rw [hc])
            refine hS2.mono ?_
            rintro e _ ⟨rfl, rfl⟩
            clear hS2
            cases hsm : small c with
            | true =>
              have HM : Hid (small (bt s i) = true) := by show _ = _; rw [hcc.out]; exact hsm
              have HI : Hid (Inv s w r i l (.slice a5 l.length c5) W) := hI
              clear hI hS3
              go_wp2
              go_step3
              refine HT.out 2 _ _ ⟨i, i + 1, l, .slice a5 l.length c5, ⟨_, _, _, _, _, _, _, _, _, _, _, _, _, _, _, _, _, _, _, _, _, _, _, _, _, _, _, _, _, _, _, _, _, _, _, _, _, _, _, _, _, _, _, _, _, _, _, _, _, _, _, _, _, _, _, _, _, _, _, _, _, _, _, _, _, _, _, _, _, _, rfl⟩, HI.out, HL.out, HM.out, by omega, by omega, rfl⟩ ?_
              simp [muLex, intOf]
              omega
            | false =>
              go_wp2_with (rw [hc])
              refine hS3.mono ?_
              rintro e _ ⟨rfl, rfl⟩
              clear hS3
              cases hm : markC c with
              | true =>
                have HM : Hid (markC (bt s i) = true) := by show _ = _; rw [hcc.out]; exact hm
                have HI : Hid (Inv s w r i l (.slice a5 l.length c5) W) := hI
                clear hI
                go_wp2
                go_step3
                refine HT.out 3 _ _ ⟨i, i + 1, l, .slice a5 l.length c5, ⟨_, _, _, _, _, _, _, _, _, _, _, _, _, _, _, _, _, _, _, _, _, _, _, _, _, _, _, _, _, _, _, _, _, _, _, _, _, _, _, _, _, _, _, _, _, _, _, _, _, _, _, _, _, _, _, _, _, _, _, _, _, _, _, _, _, _, _, _, _, _, rfl⟩, HI.out, HL.out, HM.out, rfl, by omega⟩ ?_
                simp [muLex, intOf]
                omega
              | false =>
                have HR : Hid (r = ([], (i : Int)) ∧ Below w.heap.size w W) := by
                  refine ⟨?_, hI.below⟩
                  have e := hI.lex
                  rw [lexF_no hlt (by rw [hcc.out]; exact hb) (fun h => by
                    have h1 := h.1
                    have hk := other_kind (s := s) (i := i) (by rw [hcc.out]; exact hsm)
                    rw [hk.1, hk.2] at h1
                    have h2 : markOk (s.extract i (i + 1)) = true := h1
                    rw [mark_ok hlt, hcc.out, hm] at h2
                    cases h2)] at e
                  exact e.symm
                clear hI
                go_wp2
                go_step3
                refine HT.out 1 _ _ ⟨i, ⟨_, _, _, _, _, _, _, _, _, _, _, _, _, _, _, _, _, _, _, _, _, _, _, _, _, _, _, _, _, _, _, _, _, _, _, _, _, _, _, _, _, _, _, _, _, _, _, _, _, _, _, _, _, _, _, _, _, _, _, _, _, _, _, _, _, _, _, _, _, _, _, _, rfl⟩, HR.out⟩ ?_
                simp [muLex, intOf]
      · have hiz : ((i : Int) == (s.size : Int)) = true := by have := hI.le; simp; omega
        have HR : Hid (LexTo w r (.returned (.tuple #[v, .int .i64 (-1)])) W) := by
          have e := hI.lex
          rw [lexF_end hlt] at e
          rw [← e]
          exact ⟨v, rfl, hI.ne, hI.own, hI.below⟩
        clear hI HT
        go_wp2
        rw [jumps_ret]
        exact bodyPost_ret (v := .tuple #[v, .int .i64 (-1)]) (by simp [results, Try.results13, go_sem]) rfl HR.out
    | 1, hJ =>
      obtain ⟨i, ⟨u4, u6, u7, u8, u9, u10, u11, u12, u13, u14, u15, u16, u17, u18, u19, u20, u21, u22, u23, u24, u25, u26, u27, u28, u29, u30, u31, u32, u33, u34, u35, u36, u37, u38, u39, u40, u41, u42, u43, u44, u45, u46, u47, u48, u49, u50, u51, u52, u53, u54, u55, u56, u57, u58, u59, u60, u61, u62, u63, u64, u65, u66, u67, u68, u69, u70, u71, u72, u73, u74, u75, u76, rfl⟩, hr1, hB⟩ := hJ
      obtain rfl := (Code.seq.inj (Option.some.inj hX)).2
      clear hX hT
      have HR : Hid (LexTo w r (.returned (.tuple #[.slice (some ⟨W.heap.size, 0, none⟩) 0 0, .int .i64 (i : Int)])) (W.alloc (.cells #[] 40))) := by
        rw [hr1]
        exact ⟨_, rfl, by simp, World.ownsRow_lit (base := w.heap.size) (e := 40) (size := 2) W #[] 0 hB.size (Nat.zero_le _) rfl, hB.alloc hB.size _⟩
      clear hr1 hB hr
      go_wp2
      rw [jumps_ret]
      exact bodyPost_ret (v := .tuple #[.slice (some ⟨W.heap.size, 0, none⟩) 0 0, .int .i64 (i : Int)]) (by simp [results, Try.results13, go_sem]) rfl HR.out
    | 2, hJ =>
      obtain ⟨i, j, l, v, ⟨u7, u8, u9, u10, u11, u12, u13, u14, u15, u16, u17, u18, u19, u20, u21, u22, u23, u24, u25, u26, u27, u28, u29, u30, u31, u32, u33, u34, u35, u36, u37, u38, u39, u40, u41, u42, u43, u44, u45, u46, u47, u48, u49, u50, u51, u52, u53, u54, u55, u56, u57, u58, u59, u60, u61, u62, u63, u64, u65, u66, u67, u68, u69, u70, u71, u72, u73, u74, u75, u76, rfl⟩, hI, hl, hsm, hij0, hjs, hend⟩ := hJ
      obtain rfl := (Code.seq.inj (Option.some.inj hX)).2
      clear hX
      have HT : Hid (∀ l' a' w', jLex s w r l' a' w' → muLex s l' a' w' < muLex s 2 { tmps := #[.string s, undef, .slice none 0 0, .int .i64 0, v, .int .i64 i, .int .i64 j, u7, u8, u9, u10, u11, u12, u13, u14, u15, u16, u17, u18, u19, u20, u21, u22, u23, u24, u25, u26, u27, u28, u29, u30, u31, u32, u33, u34, u35, u36, u37, u38, u39, u40, u41, u42, u43, u44, u45, u46, u47, u48, u49, u50, u51, u52, u53, u54, u55, u56, u57, u58, u59, u60, u61, u62, u63, u64, u65, u66, u67, u68, u69, u70, u71, u72, u73, u74, u75, u76], defers := [] } W → T l' a' w') := hT
      clear hT
      have hlt : i < s.size := by omega
      have HNB : Hid (blank (bt s i) = false) := small_not hsm
      have HSM : Hid (small (bt s i) = true) := hsm
      have HKS : Hid (kindAt s i = 1 ∧ stopAt s i = endN s (i + 1)) := small_kind hsm
      have HEN : Hid (endN s j = endN s (i + 1)) := hend
      clear hsm hend
      have FIN : Hid (endN s (i + 1) = j → tokOk 1 (s.extract i j) = decide (j - i ≤ 8)) := by
        intro e
        have := name_ok hlt HSM.out
        rw [e] at this
        exact this
      by_cases hjl : j < s.size
      · have hjl2 : (j : Int) < (s.size : Int) := by omega
        have hd := bt_at hjl
        have hdb := bt_bd s j
        obtain ⟨d, hdd⟩ : ∃ d, Hid (bt s j = d) := ⟨_, rfl⟩
        rw [hdd.out] at hd hdb
        have hS := isLetter_any d W hdb.1 hdb.2
        have hD := isDigit_any d W hdb.1 hdb.2
        go_wp2_with (rw [hd])
        refine hS.mono ?_
        rintro e _ ⟨rfl, rfl⟩
        clear hS
        cases hs2 : small d with
        | true =>
          have HN : Hid (endN s (j + 1) = endN s (i + 1)) := by show _ = _; rw [← HEN.out]; exact (endN_step hjl (by rw [hdd.out]; unfold inName; rw [hs2]; rfl)).symm
          have HI : Hid (Inv s w r i l v W) := hI
          have HL : Hid (l.length ≠ 500) := hl
          clear hI hD hl FIN
          go_wp2
          go_step3
          refine HT.out 2 _ _ ⟨i, j + 1, l, v, ⟨_, _, _, _, _, _, _, _, _, _, _, _, _, _, _, _, _, _, _, _, _, _, _, _, _, _, _, _, _, _, _, _, _, _, _, _, _, _, _, _, _, _, _, _, _, _, _, _, _, _, _, _, _, _, _, _, _, _, _, _, _, _, _, _, _, _, _, _, _, _, rfl⟩, HI.out, HL.out, HSM.out, by omega, by omega, HN.out⟩ ?_
          simp [muLex, intOf]
          omega
        | false =>
          go_wp2_with (rw [hd])
          refine hD.mono ?_
          rintro e _ ⟨rfl, rfl⟩
          clear hD
          cases hd2 : digit d with
          | true =>
            have HN : Hid (endN s (j + 1) = endN s (i + 1)) := by show _ = _; rw [← HEN.out]; exact (endN_step hjl (by rw [hdd.out]; unfold inName; rw [hd2]; simp)).symm
            have HI : Hid (Inv s w r i l v W) := hI
            have HL : Hid (l.length ≠ 500) := hl
            clear hI hl FIN
            go_wp2
            go_step3
            refine HT.out 2 _ _ ⟨i, j + 1, l, v, ⟨_, _, _, _, _, _, _, _, _, _, _, _, _, _, _, _, _, _, _, _, _, _, _, _, _, _, _, _, _, _, _, _, _, _, _, _, _, _, _, _, _, _, _, _, _, _, _, _, _, _, _, _, _, _, _, _, _, _, _, _, _, _, _, _, _, _, _, _, _, _, rfl⟩, HI.out, HL.out, HSM.out, by omega, by omega, HN.out⟩ ?_
            simp [muLex, intOf]
            omega
          | false =>
            have HE : Hid (endN s (i + 1) = j) := by show _ = _; rw [← HEN.out]; exact endN_stop (fun h => by have := h.2; rw [hdd.out] at this; unfold inName at this; rw [hs2, hd2] at this; cases this)
            clear hs2 hd2
            have HOK0 : Hid (tokOk 1 (s.extract i j) = decide (j - i ≤ 8)) := FIN.out HE.out
            rw [HE.out] at HKS
            clear FIN HEN
            by_cases h8 : j - i ≤ 8
            · have h8z : ¬ (8 : Int) < (j : Int) - (i : Int) := by omega
              have HOK : Hid (tokOk 1 (s.extract i j) = true) := by show _ = _; rw [HOK0.out]; exact decide_eq_true h8
              clear HOK0
              have HNX : Hid (lexF s j (l ++ [(1, s.extract i j)]) = r) := by
                show _ = _
                rw [← hI.lex, lexF_tok hlt HNB.out (by rw [HKS.out.1, HKS.out.2]; exact HOK.out) hl, HKS.out.1, HKS.out.2]
              have hij : (i : Int) ≤ (j : Int) := by omega
              have hjz : (j : Int) ≤ (s.size : Int) := by omega
              have hsub : (s.extract i j).size ≤ 281474976710656 := by rw [ByteArray.size_extract]; omega
              obtain ⟨sub, hsb⟩ : ∃ sub, Hid (s.extract i j = sub) := ⟨_, rfl⟩
              rw [hsb.out] at hsub HOK HNX
              have hC := strClone_tok sub W hsub
              have hown := hI.own
              have hB := hI.below
              have HNE : Hid (v ≠ .slice none 0 0) := hI.ne
              have HL5 : Hid (l.length < 500) := by show _ < _; have := hI.few; omega
              obtain ⟨a5, c5, rfl⟩ : ∃ a5 c5, v = .slice a5 l.length c5 := by
                rcases hown.2 with ⟨e, _⟩ | ⟨g, c', cur, e, _⟩
                · exact absurd e HNE.out
                · exact ⟨_, _, e⟩
              clear hI HOK
              go_wp2_with (rw [hsb.out])
              refine hC.mono ?_
              rintro e w4 ⟨rfl, hb4⟩
              have hown4 := own_below2 hown hb4
              have hB4 := hB.trans (hb4.mono hB.size)
              have hcl := cells_tok w4 1 sub
              have hs4 := hB4.size
              have hl5 := HL5.out
              clear hC hown hB hb4 hl
              go_wp2_with (at_builtin; refine wpList_append_own _ rfl (.tmp 57) (.tmp 64) 33 rfl w.heap.size 40 i0 (.agg #[.int .i64 0, .string ⟨#[]⟩]) 2 24 Try.underlying33 hi hz0 hz1 hz2 rfl (by decide) (.slice a5 l.length c5) _ _ rfl (own_below2 hown4 ((Below.refl _ _).alloc (Nat.le_refl _) _)) ⟨w4.heap.size, 0, none⟩ 1 1 [.int .i64 1, .string sub] rfl rfl hcl (one_tok _ _) (by unfold maxLen; omega) (by omega) (by simp; omega) ?_; intro v5 w5 hown5 hgr5 hnil5)
              have hb5 : Below w4.heap.size w4 (w4.alloc (.cells #[.int .i64 1, .string sub] 40)) := (Below.refl _ _).alloc (Nat.le_refl _) _
              have HI5 : Hid (Inv s w r j (l ++ [((1 : Int), sub)]) v5 w5) := by
                refine ⟨by omega, fun e => HNE.out (hnil5.1 e).1, by rw [List.length_append]; simp; omega, HNX.out, by rw [rowL_snoc, List.length_append]; exact hown5, ?_⟩
                exact (hB4.trans (hb5.mono hs4)).grown hgr5 (by have := (hB4.trans (hb5.mono hs4)).size; exact this) (fun j e => ((own_below2 hown4 hb5).lt j e).1)
              clear hown4 hown5 hgr5 hnil5 hcl hB4 hb5
              go_wp2
              go_step3
              refine HT.out 0 _ _ ⟨j, l ++ [(1, sub)], v5, ⟨_, _, _, _, _, _, _, _, _, _, _, _, _, _, _, _, _, _, _, _, _, _, _, _, _, _, _, _, _, _, _, _, _, _, _, _, _, _, _, _, _, _, _, _, _, _, _, _, _, _, _, _, _, _, _, _, _, _, _, _, _, _, _, _, _, _, _, _, _, _, _, rfl⟩, HI5.out⟩ ?_
              simp [muLex, intOf]
            · have h8z : (8 : Int) < (j : Int) - (i : Int) := by omega
              have HR : Hid (r = ([], (i : Int)) ∧ Below w.heap.size w W) := by
                refine ⟨?_, hI.below⟩
                have e := hI.lex
                rw [lexF_no hlt HNB.out (fun h => by have h1 := h.1; rw [HKS.out.1, HKS.out.2, HOK0.out] at h1; exact h8 (of_decide_eq_true h1))] at e
                exact e.symm
              clear hI HOK0 hl
              go_wp2
              go_step3
              refine HT.out 1 _ _ ⟨i, ⟨_, _, _, _, _, _, _, _, _, _, _, _, _, _, _, _, _, _, _, _, _, _, _, _, _, _, _, _, _, _, _, _, _, _, _, _, _, _, _, _, _, _, _, _, _, _, _, _, _, _, _, _, _, _, _, _, _, _, _, _, _, _, _, _, _, _, _, _, _, _, _, _, rfl⟩, HR.out⟩ ?_
              simp [muLex, intOf]
      · have hjl2 : ¬ (j : Int) < (s.size : Int) := by omega
        have HE : Hid (endN s (i + 1) = j) := by show _ = _; rw [← HEN.out]; exact endN_stop (fun h => hjl h.1)
        have HOK0 : Hid (tokOk 1 (s.extract i j) = decide (j - i ≤ 8)) := FIN.out HE.out
        rw [HE.out] at HKS
        clear FIN HEN
        by_cases h8 : j - i ≤ 8
        · have h8z : ¬ (8 : Int) < (j : Int) - (i : Int) := by omega
          have HOK : Hid (tokOk 1 (s.extract i j) = true) := by show _ = _; rw [HOK0.out]; exact decide_eq_true h8
          clear HOK0
          have HNX : Hid (lexF s j (l ++ [(1, s.extract i j)]) = r) := by
            show _ = _
            rw [← hI.lex, lexF_tok hlt HNB.out (by rw [HKS.out.1, HKS.out.2]; exact HOK.out) hl, HKS.out.1, HKS.out.2]
          have hij : (i : Int) ≤ (j : Int) := by omega
          have hjz : (j : Int) ≤ (s.size : Int) := by omega
          have hsub : (s.extract i j).size ≤ 281474976710656 := by rw [ByteArray.size_extract]; omega
          obtain ⟨sub, hsb⟩ : ∃ sub, Hid (s.extract i j = sub) := ⟨_, rfl⟩
          rw [hsb.out] at hsub HOK HNX
          have hC := strClone_tok sub W hsub
          have hown := hI.own
          have hB := hI.below
          have HNE : Hid (v ≠ .slice none 0 0) := hI.ne
          have HL5 : Hid (l.length < 500) := by show _ < _; have := hI.few; omega
          obtain ⟨a5, c5, rfl⟩ : ∃ a5 c5, v = .slice a5 l.length c5 := by
            rcases hown.2 with ⟨e, _⟩ | ⟨g, c', cur, e, _⟩
            · exact absurd e HNE.out
            · exact ⟨_, _, e⟩
          clear hI HOK
          go_wp2_with (rw [hsb.out])
          refine hC.mono ?_
          rintro e w4 ⟨rfl, hb4⟩
          have hown4 := own_below2 hown hb4
          have hB4 := hB.trans (hb4.mono hB.size)
          have hcl := cells_tok w4 1 sub
          have hs4 := hB4.size
          have hl5 := HL5.out
          clear hC hown hB hb4 hl
          go_wp2_with (at_builtin; refine wpList_append_own _ rfl (.tmp 57) (.tmp 64) 33 rfl w.heap.size 40 i0 (.agg #[.int .i64 0, .string ⟨#[]⟩]) 2 24 Try.underlying33 hi hz0 hz1 hz2 rfl (by decide) (.slice a5 l.length c5) _ _ rfl (own_below2 hown4 ((Below.refl _ _).alloc (Nat.le_refl _) _)) ⟨w4.heap.size, 0, none⟩ 1 1 [.int .i64 1, .string sub] rfl rfl hcl (one_tok _ _) (by unfold maxLen; omega) (by omega) (by simp; omega) ?_; intro v5 w5 hown5 hgr5 hnil5)
          have hb5 : Below w4.heap.size w4 (w4.alloc (.cells #[.int .i64 1, .string sub] 40)) := (Below.refl _ _).alloc (Nat.le_refl _) _
          have HI5 : Hid (Inv s w r j (l ++ [((1 : Int), sub)]) v5 w5) := by
            refine ⟨by omega, fun e => HNE.out (hnil5.1 e).1, by rw [List.length_append]; simp; omega, HNX.out, by rw [rowL_snoc, List.length_append]; exact hown5, ?_⟩
            exact (hB4.trans (hb5.mono hs4)).grown hgr5 (by have := (hB4.trans (hb5.mono hs4)).size; exact this) (fun j e => ((own_below2 hown4 hb5).lt j e).1)
          clear hown4 hown5 hgr5 hnil5 hcl hB4 hb5
          go_wp2
          go_step3
          refine HT.out 0 _ _ ⟨j, l ++ [(1, sub)], v5, ⟨_, _, _, _, _, _, _, _, _, _, _, _, _, _, _, _, _, _, _, _, _, _, _, _, _, _, _, _, _, _, _, _, _, _, _, _, _, _, _, _, _, _, _, _, _, _, _, _, _, _, _, _, _, _, _, _, _, _, _, _, _, _, _, _, _, _, _, _, _, _, _, rfl⟩, HI5.out⟩ ?_
          simp [muLex, intOf]
        · have h8z : (8 : Int) < (j : Int) - (i : Int) := by omega
          have HR : Hid (r = ([], (i : Int)) ∧ Below w.heap.size w W) := by
            refine ⟨?_, hI.below⟩
            have e := hI.lex
            rw [lexF_no hlt HNB.out (fun h => by have h1 := h.1; rw [HKS.out.1, HKS.out.2, HOK0.out] at h1; exact h8 (of_decide_eq_true h1))] at e
            exact e.symm
          clear hI HOK0 hl
          go_wp2
          go_step3
          refine HT.out 1 _ _ ⟨i, ⟨_, _, _, _, _, _, _, _, _, _, _, _, _, _, _, _, _, _, _, _, _, _, _, _, _, _, _, _, _, _, _, _, _, _, _, _, _, _, _, _, _, _, _, _, _, _, _, _, _, _, _, _, _, _, _, _, _, _, _, _, _, _, _, _, _, _, _, _, _, _, _, _, rfl⟩, HR.out⟩ ?_
          simp [muLex, intOf]
    | 3, hJ =>
      obtain ⟨i, j, l, v, ⟨u7, u8, u9, u10, u11, u12, u13, u14, u15, u16, u17, u18, u19, u20, u21, u22, u23, u24, u25, u26, u27, u28, u29, u30, u31, u32, u33, u34, u35, u36, u37, u38, u39, u40, u41, u42, u43, u44, u45, u46, u47, u48, u49, u50, u51, u52, u53, u54, u55, u56, u57, u58, u59, u60, u61, u62, u63, u64, u65, u66, u67, u68, u69, u70, u71, u72, u73, u74, u75, u76, rfl⟩, hI, hl, hmk, hji, hjs⟩ := hJ
      obtain rfl := (Code.seq.inj (Option.some.inj hX)).2
      clear hX
      have HT : Hid (∀ l' a' w', jLex s w r l' a' w' → muLex s l' a' w' < muLex s 3 { tmps := #[.string s, undef, .slice none 0 0, .int .i64 0, v, .int .i64 i, .int .i64 j, u7, u8, u9, u10, u11, u12, u13, u14, u15, u16, u17, u18, u19, u20, u21, u22, u23, u24, u25, u26, u27, u28, u29, u30, u31, u32, u33, u34, u35, u36, u37, u38, u39, u40, u41, u42, u43, u44, u45, u46, u47, u48, u49, u50, u51, u52, u53, u54, u55, u56, u57, u58, u59, u60, u61, u62, u63, u64, u65, u66, u67, u68, u69, u70, u71, u72, u73, u74, u75, u76], defers := [] } W → T l' a' w') := hT
      clear hT
      have hlt : i < s.size := by omega
      obtain ⟨hns, hnb⟩ := mark_not hmk
      have HNB : Hid (blank (bt s i) = false) := hnb
      have HKS : Hid (kindAt s i = 2 ∧ stopAt s i = j) := by rw [hji]; exact other_kind hns
      have HOK : Hid (tokOk 2 (s.extract i j) = true) := by rw [hji]; exact (mark_ok hlt).trans hmk
      have hj1 : i < j := by omega
      clear hns hnb hmk hji
      have HNX : Hid (lexF s j (l ++ [(2, s.extract i j)]) = r) := by
        show _ = _
        rw [← hI.lex, lexF_tok hlt HNB.out (by rw [HKS.out.1, HKS.out.2]; exact HOK.out) hl, HKS.out.1, HKS.out.2]
      have hij : (i : Int) ≤ (j : Int) := by omega
      have hjz : (j : Int) ≤ (s.size : Int) := by omega
      have hsub : (s.extract i j).size ≤ 281474976710656 := by rw [ByteArray.size_extract]; omega
      obtain ⟨sub, hsb⟩ : ∃ sub, Hid (s.extract i j = sub) := ⟨_, rfl⟩
      rw [hsb.out] at hsub HOK HNX
      have hC := strClone_tok sub W hsub
      have hown := hI.own
      have hB := hI.below
      have HNE : Hid (v ≠ .slice none 0 0) := hI.ne
      have HL5 : Hid (l.length < 500) := by show _ < _; have := hI.few; omega
      obtain ⟨a5, c5, rfl⟩ : ∃ a5 c5, v = .slice a5 l.length c5 := by
        rcases hown.2 with ⟨e, _⟩ | ⟨g, c', cur, e, _⟩
        · exact absurd e HNE.out
        · exact ⟨_, _, e⟩
      clear hI HOK
      go_wp2_with (rw [hsb.out])
      refine hC.mono ?_
      rintro e w4 ⟨rfl, hb4⟩
      have hown4 := own_below2 hown hb4
      have hB4 := hB.trans (hb4.mono hB.size)
      have hcl := cells_tok w4 2 sub
      have hs4 := hB4.size
      have hl5 := HL5.out
      clear hC hown hB hb4 hl
      go_wp2_with (at_builtin; refine wpList_append_own _ rfl (.tmp 66) (.tmp 73) 33 rfl w.heap.size 40 i0 (.agg #[.int .i64 0, .string ⟨#[]⟩]) 2 24 Try.underlying33 hi hz0 hz1 hz2 rfl (by decide) (.slice a5 l.length c5) _ _ rfl (own_below2 hown4 ((Below.refl _ _).alloc (Nat.le_refl _) _)) ⟨w4.heap.size, 0, none⟩ 1 1 [.int .i64 2, .string sub] rfl rfl hcl (one_tok _ _) (by unfold maxLen; omega) (by omega) (by simp; omega) ?_; intro v5 w5 hown5 hgr5 hnil5)
      have hb5 : Below w4.heap.size w4 (w4.alloc (.cells #[.int .i64 2, .string sub] 40)) := (Below.refl _ _).alloc (Nat.le_refl _) _
      have HI5 : Hid (Inv s w r j (l ++ [((2 : Int), sub)]) v5 w5) := by
        refine ⟨by omega, fun e => HNE.out (hnil5.1 e).1, by rw [List.length_append]; simp; omega, HNX.out, by rw [rowL_snoc, List.length_append]; exact hown5, ?_⟩
        exact (hB4.trans (hb5.mono hs4)).grown hgr5 (by have := (hB4.trans (hb5.mono hs4)).size; exact this) (fun j e => ((own_below2 hown4 hb5).lt j e).1)
      clear hown4 hown5 hgr5 hnil5 hcl hB4 hb5
      go_wp2
      go_step3
      refine HT.out 0 _ _ ⟨j, l ++ [(2, sub)], v5, ⟨_, _, _, _, _, _, _, _, _, _, _, _, _, _, _, _, _, _, _, _, _, _, _, _, _, _, _, _, _, _, _, _, _, _, _, _, _, _, _, _, _, _, _, _, _, _, _, _, _, _, _, _, _, _, _, _, _, _, _, _, _, _, _, _, _, _, _, _, _, _, _, rfl⟩, HI5.out⟩ ?_
      simp [muLex, intOf]
    | n + 4, h => exact h.elim
end Go.Proofs.Ytbpkonneliidiad

/-
  What Lex makes of a token's own text, plainly: the token alone, just if it is right.
-/
namespace Go.Proofs.Ytbpkonneliidiad
open Go.RowKit
set_option maxRecDepth 4000

/-- All that Lex makes is right. -/
theorem lexF_ok (s : ByteArray) (i : Nat) (l : List (Int × ByteArray)) (hl : ∀ t ∈ l, tokOk t.1 t.2 = true) : ∀ t ∈ (lexF s i l).1, tokOk t.1 t.2 = true := by
  by_cases h : i < s.size
  · cases hb : blank (bt s i) with
    | true => rw [lexF_blank h hb]; exact lexF_ok s (i + 1) l hl
    | false =>
      by_cases ht : tokOk (kindAt s i) (s.extract i (stopAt s i)) = true ∧ l.length ≠ 500
      · rw [lexF_tok h hb ht.1 ht.2]
        refine lexF_ok s (stopAt s i) _ (fun t h => ?_)
        rcases List.mem_append.1 h with h | h
        · exact hl t h
        · rw [List.mem_singleton.1 h]; exact ht.1
      · rw [lexF_no h hb ht]; intro t h; cases h
  · rw [lexF_end h]; exact hl
  termination_by s.size - i
  decreasing_by all_goals (have := stopAt_gt s i; omega)
/-- A token that is right is what Lex makes of its text. -/
theorem lex_self {k : Int} {s : ByteArray} (h : tokOk k s = true) : lexF s 0 [] = ([(k, s)], -1) := by
  have h1 := lex_join (l := [(k, s)]) (by simp) (fun i hi => by
    have : i = 0 := by simpa using hi
    subst this
    exact h)
  have h2 : joinT (ts [(k, s)]) [(k, s)].length = s := by
    show (if 0 < 0 then _ else (⟨#[]⟩ : ByteArray)) ++ s = s
    rw [if_neg (by omega)]
    have h0 : (⟨#[]⟩ : ByteArray).size = 0 := rfl
    exact bt_ext (by rw [ByteArray.size_append, h0, Nat.zero_add]) (fun i _ => by
      have := bt_right ⟨#[]⟩ s i
      rw [h0, Nat.zero_add] at this
      exact this)
  rw [h2] at h1
  exact h1
def eqT (k : Int) (s : ByteArray) (k' : Int) (s' : ByteArray) : Bool := decide (k = k') && decide (s = s')
theorem tok_self {k : Int} {s : ByteArray} (h : (lexF s 0 []).1.length = 1) : tokOk k s = eqT (tk (lexF s 0 []).1 0) (ts (lexF s 0 []).1 0) k s := by
  rw [Bool.eq_iff_iff]
  constructor
  · intro ht
    rw [lex_self ht]
    simp [eqT, tk, ts]
  · intro he
    simp only [eqT, Bool.and_eq_true, decide_eq_true_eq] at he
    obtain ⟨x, hx⟩ := List.length_eq_one_iff.1 h
    have := lexF_ok s 0 [] (by intro t h; cases h) x (by rw [hx]; simp)
    rw [hx] at he
    have e : x = (k, s) := Prod.ext (by simpa [tk] using he.1) (by simpa [ts] using he.2)
    rw [e] at this
    exact this
theorem tok_none {k : Int} {s : ByteArray} (h : (lexF s 0 []).1.length ≠ 1) : tokOk k s = false := by
  cases e : tokOk k s with
  | false => rfl
  | true => rw [lex_self e] at h; exact absurd rfl h
end Go.Proofs.Ytbpkonneliidiad

/-
  Texts that are held against each other.
-/
namespace Go.Proofs.Ytbpkonneliidiad
open Go.RowKit
set_option maxRecDepth 4000

theorem bytes_inj {a b : ByteArray} : a.toList = b.toList ↔ a = b := by
  constructor
  · intro h
    rw [ByteArray.toList_eq, ByteArray.toList_eq] at h
    obtain ⟨⟨x⟩⟩ := a
    obtain ⟨⟨y⟩⟩ := b
    simp only at h
    rw [h]
  · rintro rfl; rfl
theorem bytes_eq {a b : ByteArray} (h : a = b) : (a.toList == b.toList) = true := by rw [h]; exact beq_self_eq_true _
theorem bytes_ne {a b : ByteArray} (h : a ≠ b) : (a.toList == b.toList) = false := by
  cases e : (a.toList == b.toList) with
  | false => rfl
  | true => exact absurd (bytes_inj.1 (eq_of_beq e)) h
end Go.Proofs.Ytbpkonneliidiad

/-
  The program's TokenOk: what Lex makes of the token's own text, alone.
-/
namespace Go.Proofs.Ytbpkonneliidiad
open Go.RowKit
set_option maxRecDepth 4000

theorem eqTok_run (k : Int) (s : ByteArray) (k' : Int) (s' : ByteArray) (W : World) :
    (binOp .eql 40 (.agg #[.int .i64 k, .string s]) (.agg #[.int .i64 k', .string s'])).run Try.prog W = .ok (.bool (eqT k s k' s')) W := by
  by_cases h1 : k = k' <;> by_cases h3 : s = s' <;> simp [go_sem, h1, h3, eqT, bytes_inj]

set_option maxHeartbeats 2000000 in
theorem implTokenOk_any (k : Int) (s : ByteArray) (w : World) (hs : s.size ≤ 281474976710656) :
    Calls Try.prog 18 #[.agg #[.int .i64 k, .string s]] w fun e w' => e = .returned (.bool (tokOk k s)) ∧ Below w.heap.size w w' := by
  have hL := fun W => implLex_any s W hs
  have HA : Hid ((lexF s 0 []).1.length = 1 → tokOk k s = eqT (tk (lexF s 0 []).1 0) (ts (lexF s 0 []).1 0) k s) := tok_self
  have HN : Hid ((lexF s 0 []).1.length ≠ 1 → tokOk k s = false) := tok_none
  obtain ⟨r, hr⟩ : ∃ r, Hid (lexF s 0 [] = r) := ⟨_, rfl⟩
  rw [hr.out] at HA HN
  simp only [hr.out] at hL
  go_enter Try.func18, Try.ntmps18
  go_wp2_with fail
  refine (hL _).mono ?_
  rintro e w1 ⟨v, rfl, hne, hown, hB⟩
  rw [rowL_K] at hown
  obtain ⟨a, c, rfl, hv, -⟩ := tview_of_own hown
  have hC := hB.mono (show w.heap.size + 1 ≤ _ by simp)
  have c0 : w1.cell? ⟨w.heap.size, 0, none⟩ = some (.int .i64 k) := by rw [hC.cell (by simp)]; simp [go_sem]
  have c1 : w1.cell? ⟨w.heap.size, 1, none⟩ = some (.string s) := by rw [hC.cell (by simp)]; simp [go_sem]
  have HB : Hid (Below w.heap.size w w1) := ((Below.refl _ _).alloc (Nat.le_refl _) _).trans (hB.mono (by simp))
  clear hL hown hB hC hne
  by_cases h1 : r.1.length = 1
  · have HE0 := HA.out h1
    have hd : ((r.1.length : Int) == 1) = true := by simp; omega
    obtain ⟨b, off, rfl, hb, hcs⟩ := hv.cells (by omega)
    obtain ⟨x0, x1⟩ := hcs 0 (by omega)
    simp only [Nat.zero_mul, Nat.add_zero] at x0 x1
    rw [h1]
    have hq := eqTok_run (tk r.1 0) (ts r.1 0) k s
    clear HA HN hv hcs h1 hd
    generalize tk r.1 0 = p0 at *
    generalize ts r.1 0 = p1 at *
    have HE : Hid (tokOk k s = eqT p0 p1 k s) := HE0
    clear HE0
    go_wp2_with fail
    go_quiet (fail)
    go_wp2
    go_ret
    exact ⟨by rw [HE.out]; rfl, HB.out.trans ⟨rfl, rfl, rfl, Nat.le_refl _, fun _ _ => rfl⟩⟩
  · have HE : Hid (tokOk k s = false) := HN.out h1
    have hd : ((r.1.length : Int) == 1) = false := by simp; omega
    clear HA HN hv
    go_wp2_with fail
    go_quiet (fail)
    go_wp2
    go_ret
    exact ⟨by rw [HE.out]; rfl, HB.out.trans ⟨rfl, rfl, rfl, Nat.le_refl _, fun _ _ => rfl⟩⟩
end Go.Proofs.Ytbpkonneliidiad

/-
  A strings.Builder of the call's own: what is written comes behind what it holds.
-/
namespace Go.Proofs.Ytbpkonneliidiad
open Go.RowKit
set_option maxRecDepth 4000

theorem builder_info : ∃ j, Try.prog.info? 69 = some j ∧ j.size = 2 := by
  have h : (Try.prog.info? 69).map (fun i => i.size) = some 2 := by kernel_rfl
  exact Option.map_eq_some_iff.1 h
theorem builder_lies : liesAt Try.prog Try.prog.depth 69 (2 / Try.prog.cellsOf 69) 0 69 1 = true := by kernel_rfl
theorem byte_info : ∃ i, Try.prog.info? 5 = some i ∧ i.zero = some (.int .u8 0) ∧ i.size = 1 ∧ i.bytes = 1 := by
  have h : (Try.prog.info? 5).map (fun i => (i.zero, i.size, i.bytes)) = some (some (.int .u8 0), 1, 1) := by kernel_rfl
  obtain ⟨i, hi, hz⟩ := Option.map_eq_some_iff.1 h
  simp only [Prod.mk.injEq] at hz
  exact ⟨i, hi, hz.1, hz.2.1, hz.2.2⟩

set_option maxHeartbeats 1000000 in
/-- copyCheck: the builder knows its own place behind it. -/
theorem copyCheck_any (B b : Nat) (bs : List Value) (w : World) (h : Lib.IsBuilder 69 5 B b bs w) :
    Calls Try.prog 84 #[.pointer (some ⟨b, 0, none⟩)] w fun e w' => e = .returned (.tuple #[]) ∧ Lib.BuilderAt 69 5 B b (.pointer (some ⟨b, 0, none⟩)) bs w' ∧ Below B w w' ∧ ∀ i, i ≠ b → w'.heap[i]? = w.heap[i]? := by
  obtain ⟨j, hj, hj2⟩ := builder_info
  rcases h with h | h
  · have c0 := h.cell0
    have f0 := h.frozen0
    have sh := h.shape
    have HR : Hid (Lib.BuilderAt 69 5 B b (.pointer (some ⟨b, 0, none⟩)) bs (w.setCell ⟨b, 0, none⟩ (.pointer (some ⟨b, 0, none⟩))) ∧ Below B w (w.setCell ⟨b, 0, none⟩ (.pointer (some ⟨b, 0, none⟩))) ∧ ∀ i, i ≠ b → (w.setCell ⟨b, 0, none⟩ (.pointer (some ⟨b, 0, none⟩))).heap[i]? = w.heap[i]?) := ⟨h.used _, (Below.refl B w).setCell (p := ⟨b, 0, none⟩) h.1 _, fun i hi => Below.heap_setCell _ _ _ _ hi⟩
    have q1 : (convert 67 117 (.pointer (some ⟨b, 0, none⟩))).run Try.prog w = .ok (.pointer (some ⟨b, 0, none⟩)) w :=
      Lib.run_to_unsafe w ⟨b, 0, none⟩ Try.underlying67 Try.underlying117 hj (by rw [hj2]; decide) sh (Nat.zero_lt_succ 1)
    have q2 : (convert 117 67 (.pointer (some ⟨b, 0, none⟩))).run Try.prog w = .ok (.pointer (some ⟨b, 0, none⟩)) w :=
      Lib.run_from_unsafe w ⟨b, 0, none⟩ Try.underlying117 Try.underlying67 hj sh builder_lies
    have q3 : (callFunc 101 #[.pointer (some ⟨b, 0, none⟩)]).run Try.prog w = _ := run_callFunc_extern (P := Try.prog) Try.func101 (by kernel_rfl) (by kernel_rfl) (by kernel_rfl) (e := Extern.AbiNoEscape.same) (by kernel_rfl) _ w
    rw [Lib.run_noEscape] at q3
    have q4 := fun W => Lib.run_neq_ptr_same W ⟨b, 0, none⟩ Try.underlying67 hj
    clear h sh
    go_enter Try.func84, Try.ntmps84
    go_wp2
    go_end0
    exact ⟨rfl, HR.out⟩
  · have c0 := h.cell0
    have q : (binOp .neq 67 (.pointer (some ⟨b, 0, none⟩)) (.pointer (some ⟨b, 0, none⟩))).run Try.prog w = .ok (.bool false) w := Lib.run_neq_ptr_same w _ Try.underlying67 hj
    have HR : Hid (Lib.BuilderAt 69 5 B b (.pointer (some ⟨b, 0, none⟩)) bs w) := h
    clear h
    go_enter Try.func84, Try.ntmps84
    go_wp2
    go_end0
    exact ⟨rfl, HR.out, Below.refl _ _, fun _ _ => rfl⟩

set_option maxHeartbeats 2000000 in
/-- WriteByte: the byte behind what is there. -/
theorem writeByte_any (B b : Nat) (bs : List Value) (c : Int) (w : World) (h : Lib.IsBuilder 69 5 B b bs w) (hlen : bs.length + 1 ≤ 140737488355328) (hBw : B ≤ w.heap.size) :
    Calls Try.prog 46 #[.pointer (some ⟨b, 0, none⟩), .int .u8 c] w fun e w' => e = .returned .nilIface ∧ Lib.IsBuilder 69 5 B b (bs ++ [.int .u8 c]) w' ∧ Below B w w' ∧ ∀ (i : Nat) (cs : Array Value) (T : TypeId) (fr : Nat × Nat), i ≠ b → T ≠ 5 → w.heap[i]? = some (.cells cs T fr) → w'.heap[i]? = some (.cells cs T fr) := by
  obtain ⟨i0, hi, hz0, hz1, hz2⟩ := byte_info
  have hC := copyCheck_any B b bs w h
  clear h
  go_enter Try.func46, Try.ntmps46
  go_wp2_with fail
  refine hC.mono ?_
  rintro e w1 ⟨rfl, hA, hb1, hk1⟩
  clear hC
  have hlt := hA.lt
  obtain ⟨hB, v, hbk, hown, hne⟩ := hA
  have c1 : w1.cell? ⟨b, 1, none⟩ = some v := by rw [Lib.cell_of_heap hbk]; rfl
  have hs1 := hb1.size
  have hcl : ∀ j u, [Value.int .u8 c][j]? = some u → (w1.alloc (.cells #[.int .u8 c] 5)).cell? ((⟨w1.heap.size, 0, none⟩ : Addr).add j) = some u := by
    intro j u hj
    match j, hj with
    | 0, hj => simp at hj; subst hj; simp [Addr.add]
  go_wp2_with (at_builtin; refine wpList_append_own _ rfl (.tmp 11) (.tmp 13) 22 rfl B 5 i0 (.int .u8 0) 1 1 Try.underlying22 hi hz0 hz1 hz2 rfl (by decide) v _ _ rfl (hown.alloc _) ⟨w1.heap.size, 0, none⟩ 1 1 [.int .u8 c] rfl rfl hcl (by intro u hu; simp at hu; subst hu; rfl) (by unfold maxLen; omega) (by omega) (by simp; omega) ?_)
  intro v5 w2 hown5 hgr hnil
  have hb2 : w2.heap[b]? = some (.cells #[.pointer (some ⟨b, 0, none⟩), v] 69 (0, 0)) := by
    rw [hgr.block b (by simp; omega) (fun e => hne e.symm), Lib.alloc_old w1 _ b hlt]
    exact hbk
  have f1 : w2.frozen? ⟨b, 1, none⟩ = false := Lib.frozen_of_heap hb2 1
  have d1 : w2.cell? ⟨b, 1, none⟩ = some v := by rw [Lib.cell_of_heap hb2]; rfl
  have HA : Hid (Lib.BuilderAt 69 5 B b (.pointer (some ⟨b, 0, none⟩)) (bs ++ [.int .u8 c]) (w2.setCell ⟨b, 1, none⟩ v5) ∧ Below B w (w2.setCell ⟨b, 1, none⟩ v5)) :=
    ⟨Lib.BuilderAt.put hB hb2 (bs' := bs ++ [.int .u8 c]) (by simpa using hown5) (by decide), ((hb1.alloc (by omega) _).grown hgr (by simp; omega) (fun k hk => (hown.lt k hk).1)).setCell (p := ⟨b, 1, none⟩) hB _⟩
  have HK : Hid (∀ (i : Nat) (cs : Array Value) (T : TypeId) (fr : Nat × Nat), i ≠ b → T ≠ 5 → w.heap[i]? = some (.cells cs T fr) → (w2.setCell ⟨b, 1, none⟩ v5).heap[i]? = some (.cells cs T fr)) := by
    intro i cs T fr hib hT hi
    have h1 := (hk1 i hib).trans hi
    have hlt1 : i < w1.heap.size := (Array.getElem?_eq_some_iff.1 h1).1
    rw [Below.heap_setCell _ _ _ _ hib, hgr.block i (by simp; omega) (fun e => Lib.ownBlock_ne hown h1 hT e.symm), Lib.alloc_old w1 _ i hlt1]
    exact h1
  obtain ⟨a', n', cap', rfl⟩ : ∃ a n' cap, v5 = .slice a n' cap := by
    rcases hown5.2 with ⟨hv, _⟩ | ⟨g, cap, cur, hv, _⟩
    · exact ⟨_, _, _, hv⟩
    · exact ⟨_, _, _, hv⟩
  clear hown hown5 hgr hnil hbk hb2 hcl c1 hk1
  go_wp2
  go_ret
  exact ⟨rfl, Or.inr HA.out.1, HA.out.2, HK.out⟩

set_option maxHeartbeats 2000000 in
/-- WriteString: the text behind what is there. -/
theorem writeString_any (B b : Nat) (bs : List Value) (s : ByteArray) (w : World) (h : Lib.IsBuilder 69 5 B b bs w) (hlen : bs.length + s.size ≤ 140737488355328) (hBw : B ≤ w.heap.size) :
    Calls Try.prog 47 #[.pointer (some ⟨b, 0, none⟩), .string s] w fun e w' => e = .returned (.tuple #[.int .i64 s.size, .nilIface]) ∧ Lib.IsBuilder 69 5 B b (bs ++ Lib.strCells s) w' ∧ Below B w w' := by
  obtain ⟨i0, hi, hz0, hz1, hz2⟩ := byte_info
  have hC := copyCheck_any B b bs w h
  clear h
  go_enter Try.func47, Try.ntmps47
  go_wp2_with fail
  refine hC.mono ?_
  rintro e w1 ⟨rfl, hA, hb1, hk1⟩
  clear hC
  have hlt := hA.lt
  obtain ⟨hB, v, hbk, hown, hne⟩ := hA
  have c1 : w1.cell? ⟨b, 1, none⟩ = some v := by rw [Lib.cell_of_heap hbk]; rfl
  have hs1 := hb1.size
  go_wp2_with (at_builtin; refine Lib.wpList_append_own_string _ rfl (.tmp 12) (.tmp 13) 22 9 rfl B 5 i0 Try.underlying22 Try.underlying9 hi hz0 hz1 hz2 v _ _ rfl hown s rfl (by unfold maxLen; omega) (by omega) (by omega) ?_)
  intro v5 w2 hown5 hgr hnil
  have hb2 : w2.heap[b]? = some (.cells #[.pointer (some ⟨b, 0, none⟩), v] 69 (0, 0)) := by
    rw [hgr.block b hlt (fun e => hne e.symm)]
    exact hbk
  have f1 : w2.frozen? ⟨b, 1, none⟩ = false := Lib.frozen_of_heap hb2 1
  have d1 : w2.cell? ⟨b, 1, none⟩ = some v := by rw [Lib.cell_of_heap hb2]; rfl
  have HA : Hid (Lib.BuilderAt 69 5 B b (.pointer (some ⟨b, 0, none⟩)) (bs ++ Lib.strCells s) (w2.setCell ⟨b, 1, none⟩ v5) ∧ Below B w (w2.setCell ⟨b, 1, none⟩ v5)) :=
    ⟨Lib.BuilderAt.put hB hb2 (bs' := bs ++ Lib.strCells s) (by simpa [Lib.strCells_length] using hown5) (by decide), (hb1.grown hgr (by omega) (fun k hk => (hown.lt k hk).1)).setCell (p := ⟨b, 1, none⟩) hB _⟩
  obtain ⟨a', n', cap', rfl⟩ : ∃ a n' cap, v5 = .slice a n' cap := by
    rcases hown5.2 with ⟨hv, _⟩ | ⟨g, cap, cur, hv, _⟩
    · exact ⟨_, _, _, hv⟩
    · exact ⟨_, _, _, hv⟩
  clear hown hown5 hgr hnil hbk hb2 c1 hk1
  go_wp2
  go_ret2
  exact ⟨rfl, Or.inr HA.out.1, HA.out.2⟩
end Go.Proofs.Ytbpkonneliidiad

/-
  The program's JoinTokens: a builder is written, token by token.
-/
namespace Go.Proofs.Ytbpkonneliidiad
open Go.RowKit
set_option maxRecDepth 4000

theorem builder_below {T e : TypeId} {B b : Nat} {bs : List Value} {w w' : World} (h : Lib.IsBuilder T e B b bs w) (hb : Below w.heap.size w w') : Lib.IsBuilder T e B b bs w' := by
  have key : ∀ p, Lib.BuilderAt T e B b p bs w → Lib.BuilderAt T e B b p bs w' := by
    intro p h
    have hlt := h.lt
    obtain ⟨hB, v, hbk, hown, hne⟩ := h
    refine ⟨hB, v, by rw [hb.block b hlt]; exact hbk, hown.kept (row := none) ⟨hb.os, hb.tape, hb.output, hb.size, fun k hk _ => hb.block k hk⟩ ?_, hne⟩
    cases hv : v.ownBlock with
    | none => exact Or.inl rfl
    | some k => exact Or.inr (fun e => by cases e)
  rcases h with h | h
  · exact Or.inl (key _ h)
  · exact Or.inr (key _ h)

set_option maxHeartbeats 2000000 in
theorem implJoin_any (a : Option Addr) (n cap : Nat) (fk : Nat → Int) (fs : Nat → ByteArray) (w : World) (h : TView w a n cap fk fs) (hn : n ≤ 1048576) (hz : ∀ i, i < n → (fs i).size ≤ 1048576) :
    Calls Try.prog 14 #[.slice a n cap] w fun e w' => e = .returned (.string (joinT fs n)) ∧ Below w.heap.size w w' := by
  have HZ : Hid (∀ k, k ≤ n → (joinT fs k).size ≤ 2199024304128) := fun k hk => by
    have := joinT_size (B := 1048576) hz k hk
    have h2 : k * (1048576 + 1) ≤ 1048576 * (1048576 + 1) := Nat.mul_le_mul_right _ (by omega)
    omega
  have HF : Hid (Lib.IsBuilder 69 5 w.heap.size w.heap.size (Lib.byteCells (joinT fs 0).data.toList) (w.alloc (.cells #[.pointer none, .slice none 0 0] 69))) := Lib.fresh_isBuilder _ _ w
  go_enter Try.func14, Try.ntmps14
  go_wp2
  go_loopg [8] n (fun q i wr => ∃ k : Nat, k ≤ n ∧ q = n - k ∧ i = .int .i64 k ∧ Hid (Lib.IsBuilder 69 5 w.heap.size w.heap.size (Lib.byteCells (joinT fs k).data.toList) wr) ∧ Below w.heap.size w wr)
  case atStart => exact ⟨0, Nat.zero_le _, rfl, rfl, HF, (Below.refl _ _).alloc (Nat.le_refl _) _⟩
  case round =>
    obtain ⟨k, hk, rfl, rfl, HB, hB⟩ := hrel
    have hs := hB.size
    by_cases hlt : k < n
    · have hkz : (k : Int) < (n : Int) := by omega
      obtain ⟨b1, o1, rfl, hb1, hc1⟩ := (h.below hB).cells (by omega)
      obtain ⟨x0, x1⟩ := hc1 k hlt
      have hzk := hz k hlt
      have hjz := HZ.out k hk
      obtain ⟨kk, hkk⟩ : ∃ kk, Hid (fk k = kk) := ⟨_, rfl⟩
      obtain ⟨p, hp⟩ : ∃ p, Hid (fs k = p) := ⟨_, rfl⟩
      rw [hkk.out] at x0
      rw [hp.out] at x1 hzk
      clear hc1 h hz
      have hA := builder_below HB.out ((Below.refl wr.heap.size wr).alloc (Nat.le_refl _) (.cells #[.int .i64 kk, .string p] 40))
      have hBA : Below w.heap.size w (wr.alloc (.cells #[.int .i64 kk, .string p] 40)) := hB.alloc hs _
      have hsA := hBA.size
      have hBlt : w.heap.size < wr.heap.size := by
        rcases HB.out with h | h
        · exact h.lt
        · exact h.lt
      have hlen : (Lib.byteCells (joinT fs k).data.toList).length = (joinT fs k).size := by rw [Lib.byteCells_length]; rfl
      by_cases h0 : 0 < k
      · have hkp : (0 : Int) < (k : Int) := by omega
        have HN : Hid (Lib.byteCells (joinT fs (k + 1)).data.toList = (Lib.byteCells (joinT fs k).data.toList ++ [.int .u8 32]) ++ Lib.strCells p) := by
          show _ = _
          rw [joinT, if_pos h0, hp.out, ByteArray.data_append, ByteArray.data_append, Array.toList_append, Array.toList_append, Lib.byteCells_append, Lib.byteCells_append, Lib.strCells_eq]
          rfl
        have hW := writeByte_any w.heap.size w.heap.size _ 32 _ hA (by rw [hlen]; omega) hsA
        have hbx := heap_alloc_new wr (.cells #[.int .i64 kk, .string p] 40)
        obtain ⟨bs, hbs⟩ : ∃ bs, Hid (Lib.byteCells (joinT fs k).data.toList = bs) := ⟨_, rfl⟩
        rw [hbs.out] at hW hlen HN
        clear hA HB
        go_wp2_with fail
        refine hW.mono ?_
        rintro e w2 ⟨rfl, hA2, hb2, hk2⟩
        have hbx2 := hk2 _ _ _ _ (by omega) (by decide) hbx
        have y1 : w2.cell? ⟨wr.heap.size, 1, none⟩ = some (.string p) := by rw [Lib.cell_of_heap hbx2]; rfl
        have hB2 := hBA.trans hb2
        have hs2 := hB2.size
        have hW2 := writeString_any w.heap.size w.heap.size _ p w2 hA2 (by rw [List.length_append, hlen]; simp; omega) hs2
        rw [← HN.out] at hW2
        clear hW hk2 hbx hbx2 hA2 hb2 hBA hB x0 x1
        go_wp2_with fail
        refine hW2.mono ?_
        rintro e w3 ⟨rfl, hA3, hb3⟩
        have HA3 : Hid (Lib.IsBuilder 69 5 w.heap.size w.heap.size (Lib.byteCells (joinT fs (k + 1)).data.toList) w3 ∧ Below w.heap.size w w3) := ⟨hA3, hB2.trans hb3⟩
        clear hW2 hA3 hb3 hB2 y1
        go_wp2
        go_roundg (n - (k + 1))
        case measure => omega
        case rel => exact ⟨k + 1, by omega, rfl, by go_num, HA3.out.1, HA3.out.2⟩
      · have hkp : ¬ (0 : Int) < (k : Int) := by omega
        have HN : Hid (Lib.byteCells (joinT fs (k + 1)).data.toList = Lib.byteCells (joinT fs k).data.toList ++ Lib.strCells p) := by
          show _ = _
          rw [joinT, if_neg h0, hp.out, ByteArray.data_append, Array.toList_append, Lib.byteCells_append, Lib.strCells_eq]
        have hW2 := writeString_any w.heap.size w.heap.size _ p _ hA (by rw [hlen]; omega) hsA
        rw [← HN.out] at hW2
        clear hA HB
        go_wp2_with fail
        refine hW2.mono ?_
        rintro e w3 ⟨rfl, hA3, hb3⟩
        have HA3 : Hid (Lib.IsBuilder 69 5 w.heap.size w.heap.size (Lib.byteCells (joinT fs (k + 1)).data.toList) w3 ∧ Below w.heap.size w w3) := ⟨hA3, hBA.trans hb3⟩
        clear hW2 hA3 hb3 hBA
        go_wp2
        go_roundg (n - (k + 1))
        case measure => omega
        case rel => exact ⟨k + 1, by omega, rfl, by go_num, HA3.out.1, HA3.out.2⟩
    · have hkz : ¬ (k : Int) < (n : Int) := by omega
      obtain rfl : k = n := by omega
      have hS := Try.Builder_String_any w.heap.size w.heap.size _ wr HB.out hs
      clear HB h
      go_wp2_with fail
      refine hS.mono ?_
      rintro e w2 ⟨rfl, hb2⟩
      have HR : Hid (Below w.heap.size w w2) := hB.trans hb2
      clear hS hb2 hB
      go_wp2
      go_ret
      exact ⟨rfl, HR.out⟩
end Go.Proofs.Ytbpkonneliidiad

