/-
  Together: LexBytes, LexImpl, DefPlain, DefView
-/
import Derived.Test.YtjoimkfpenbkmabGreatDoorPackK1
import Derived.Test.YtjoimkfpenbkmabGreatDoorShelf
import Derived.Deep.LoopGhost
/-
  What the program asks of one byte; a text cloned.
-/
namespace Go.Proofs.YtjoimkfpenbkmabGreatDoor
open Go.RowKit
set_option maxRecDepth 4000

set_option maxHeartbeats 1000000 in
theorem isBlank_any (c : Int) (w : World) : Calls Tryz.prog 193 #[.int .u8 c] w fun e w' => e = .returned (.bool (blank c)) ∧ w = w' := by
  have HB : Hid (blank c = (c == 32 || c == 9 || c == 10 || c == 13)) := by show _ = _; unfold blank; rw [Bool.eq_iff_iff]; simp [or_assoc]
  go_enter Tryz.func193, Tryz.ntmps193
  go_wp2
  all_goals
    go_ret
    exact ⟨by rw [HB.out]; simp [*], rfl⟩
set_option maxHeartbeats 1000000 in
theorem isMark_any (c : Int) (w : World) : Calls Tryz.prog 195 #[.int .u8 c] w fun e w' => e = .returned (.bool (markC c)) ∧ w = w' := by
  have HB : Hid (markC c = (c == 123 || c == 125 || c == 44 || c == 59)) := by show _ = _; unfold markC; rw [Bool.eq_iff_iff]; simp [or_assoc]
  go_enter Tryz.func195, Tryz.ntmps195
  go_wp2
  all_goals
    go_ret
    exact ⟨by rw [HB.out]; simp [*], rfl⟩
set_option maxHeartbeats 1000000 in
theorem isLetter_any (c : Int) (w : World) (h0 : 0 ≤ c) (h1 : c ≤ 255) : Calls Tryz.prog 194 #[.int .u8 c] w fun e w' => e = .returned (.bool (small c)) ∧ w = w' := by
  have HB : Hid (small c = (decide (97 ≤ c) && decide (c ≤ 122))) := by show _ = _; unfold small; simp
  by_cases h : 97 ≤ c
  · go_enter Tryz.func194, Tryz.ntmps194
    go_wp2
    go_ret
    exact ⟨by rw [HB.out]; simp [h], rfl⟩
  · go_enter Tryz.func194, Tryz.ntmps194
    go_wp2
    go_ret
    exact ⟨by rw [HB.out]; simp; omega, rfl⟩
set_option maxHeartbeats 1000000 in
theorem isDigit_any (c : Int) (w : World) (h0 : 0 ≤ c) (h1 : c ≤ 255) : Calls Tryz.prog 196 #[.int .u8 c] w fun e w' => e = .returned (.bool (digit c)) ∧ w = w' := by
  have HB : Hid (digit c = (decide (48 ≤ c) && decide (c ≤ 57))) := by show _ = _; unfold digit; simp
  by_cases h : 48 ≤ c
  · go_enter Tryz.func196, Tryz.ntmps196
    go_wp2
    go_ret
    exact ⟨by rw [HB.out]; simp [h], rfl⟩
  · go_enter Tryz.func196, Tryz.ntmps196
    go_wp2
    go_ret
    exact ⟨by rw [HB.out]; simp; omega, rfl⟩
theorem strClone_tok (s : ByteArray) (w : World) (hs : s.size ≤ 281474976710656) :
    Calls Tryz.prog 156 #[.string s] w fun e w' => e = .returned (.string s) ∧ Below w.heap.size w w' := by
  go_enter Tryz.func156, Tryz.ntmps156
  go_wp2_with (go_at_call 181; refine (Tryz.stringslite_Clone s _ hs).mono ?_; rintro e w2 ⟨rfl, hB⟩)
  go_ret
  exact ⟨rfl, hB⟩
end Go.Proofs.YtjoimkfpenbkmabGreatDoor

/-
  The program's Lex: from state to state.
-/
namespace Go.Proofs.YtjoimkfpenbkmabGreatDoor
open Go.RowKit
set_option maxRecDepth 4000

/-- What holds between two tokens. -/
structure Inv (s : ByteArray) (w : World) (r : List (Int × ByteArray) × Int) (i : Nat) (l : List (Int × ByteArray)) (v : Value) (W : World) : Prop where
  le : i ≤ s.size
  ne : v ≠ .slice none 0 0
  few : l.length ≤ 500
  lex : lexF s i l = r
  own : W.ownsRow w.heap.size 214 2 v l.length (rowL l)
  below : Below w.heap.size w W
def jLex (s : ByteArray) (w : World) (r : List (Int × ByteArray) × Int) : Nat → Act → World → Prop
  | 0, a, W => ∃ (i : Nat) (l : List (Int × ByteArray)) (v : Value), (∃ u5 u7 u8 u9 u10 u11 u12 u13 u14 u15 u16 u17 u18 u19 u20 u21 u22 u23 u24 u25 u26 u27 u28 u29 u30 u31 u32 u33 u34 u35 u36 u37 u38 u39 u40 u41 u42 u43 u44 u45 u46 u47 u48 u49 u50 u51 u52 u53 u54 u55 u56 u57 u58 u59 u60 u61 u62 u63 u64 u65 u66 u67 u68 u69 u70 u71 u72 u73 u74 u75 u76 : Value, a = { tmps := #[.string s, undef, .slice none 0 0, .int .i64 0, v, u5, .int .i64 i, u7, u8, u9, u10, u11, u12, u13, u14, u15, u16, u17, u18, u19, u20, u21, u22, u23, u24, u25, u26, u27, u28, u29, u30, u31, u32, u33, u34, u35, u36, u37, u38, u39, u40, u41, u42, u43, u44, u45, u46, u47, u48, u49, u50, u51, u52, u53, u54, u55, u56, u57, u58, u59, u60, u61, u62, u63, u64, u65, u66, u67, u68, u69, u70, u71, u72, u73, u74, u75, u76], defers := [] }) ∧ Inv s w r i l v W
  | 1, a, W => ∃ (i : Nat), (∃ u4 u6 u7 u8 u9 u10 u11 u12 u13 u14 u15 u16 u17 u18 u19 u20 u21 u22 u23 u24 u25 u26 u27 u28 u29 u30 u31 u32 u33 u34 u35 u36 u37 u38 u39 u40 u41 u42 u43 u44 u45 u46 u47 u48 u49 u50 u51 u52 u53 u54 u55 u56 u57 u58 u59 u60 u61 u62 u63 u64 u65 u66 u67 u68 u69 u70 u71 u72 u73 u74 u75 u76 : Value, a = { tmps := #[.string s, undef, .slice none 0 0, .int .i64 0, u4, .int .i64 i, u6, u7, u8, u9, u10, u11, u12, u13, u14, u15, u16, u17, u18, u19, u20, u21, u22, u23, u24, u25, u26, u27, u28, u29, u30, u31, u32, u33, u34, u35, u36, u37, u38, u39, u40, u41, u42, u43, u44, u45, u46, u47, u48, u49, u50, u51, u52, u53, u54, u55, u56, u57, u58, u59, u60, u61, u62, u63, u64, u65, u66, u67, u68, u69, u70, u71, u72, u73, u74, u75, u76], defers := [] }) ∧ r = ([], (i : Int)) ∧ Below w.heap.size w W
  | 2, a, W => ∃ (i j : Nat) (l : List (Int × ByteArray)) (v : Value), (∃ u7 u8 u9 u10 u11 u12 u13 u14 u15 u16 u17 u18 u19 u20 u21 u22 u23 u24 u25 u26 u27 u28 u29 u30 u31 u32 u33 u34 u35 u36 u37 u38 u39 u40 u41 u42 u43 u44 u45 u46 u47 u48 u49 u50 u51 u52 u53 u54 u55 u56 u57 u58 u59 u60 u61 u62 u63 u64 u65 u66 u67 u68 u69 u70 u71 u72 u73 u74 u75 u76 : Value, a = { tmps := #[.string s, undef, .slice none 0 0, .int .i64 0, v, .int .i64 i, .int .i64 j, u7, u8, u9, u10, u11, u12, u13, u14, u15, u16, u17, u18, u19, u20, u21, u22, u23, u24, u25, u26, u27, u28, u29, u30, u31, u32, u33, u34, u35, u36, u37, u38, u39, u40, u41, u42, u43, u44, u45, u46, u47, u48, u49, u50, u51, u52, u53, u54, u55, u56, u57, u58, u59, u60, u61, u62, u63, u64, u65, u66, u67, u68, u69, u70, u71, u72, u73, u74, u75, u76], defers := [] }) ∧ Inv s w r i l v W ∧ l.length ≠ 500 ∧ small (bt s i) = true ∧ i < j ∧ j ≤ s.size ∧ endN s j = endN s (i + 1)
  | 3, a, W => ∃ (i j : Nat) (l : List (Int × ByteArray)) (v : Value), (∃ u7 u8 u9 u10 u11 u12 u13 u14 u15 u16 u17 u18 u19 u20 u21 u22 u23 u24 u25 u26 u27 u28 u29 u30 u31 u32 u33 u34 u35 u36 u37 u38 u39 u40 u41 u42 u43 u44 u45 u46 u47 u48 u49 u50 u51 u52 u53 u54 u55 u56 u57 u58 u59 u60 u61 u62 u63 u64 u65 u66 u67 u68 u69 u70 u71 u72 u73 u74 u75 u76 : Value, a = { tmps := #[.string s, undef, .slice none 0 0, .int .i64 0, v, .int .i64 i, .int .i64 j, u7, u8, u9, u10, u11, u12, u13, u14, u15, u16, u17, u18, u19, u20, u21, u22, u23, u24, u25, u26, u27, u28, u29, u30, u31, u32, u33, u34, u35, u36, u37, u38, u39, u40, u41, u42, u43, u44, u45, u46, u47, u48, u49, u50, u51, u52, u53, u54, u55, u56, u57, u58, u59, u60, u61, u62, u63, u64, u65, u66, u67, u68, u69, u70, u71, u72, u73, u74, u75, u76], defers := [] }) ∧ Inv s w r i l v W ∧ l.length ≠ 500 ∧ markC (bt s i) = true ∧ j = i + 1 ∧ j ≤ s.size
  | _, _, _ => False
def muLex (s : ByteArray) (l : Nat) (a : Act) (_ : World) : Nat := if l = 1 then 0 else 4 * (s.size - (intOf (a.tmps.getD 6 undef)).toNat) + (if l = 0 then 1 else 2)

set_option maxRecDepth 100000 in
set_option maxHeartbeats 4000000 in
theorem implLex_any (s : ByteArray) (w : World) (hs : s.size ≤ 281474976710656) :
    Calls Tryz.prog 184 #[.string s] w (LexTo w (lexF s 0 [])) := by
  obtain ⟨i0, hi, hz0, hz1, hz2⟩ := infoTok2
  obtain ⟨r, hr⟩ : ∃ r, Hid (lexF s 0 [] = r) := ⟨_, rfl⟩
  rw [hr.out]
  have hO0 := World.ownsRow_lit (base := w.heap.size) (e := 214) (size := 2) w #[] 0 (Nat.le_refl _) (Nat.zero_le _) rfl
  have hB0 : Below w.heap.size w (w.alloc (.cells #[] 214)) := (Below.refl _ _).alloc (Nat.le_refl _) _
  have HI0 : Hid (Inv s w r 0 [] (.slice (some ⟨w.heap.size, 0, none⟩) 0 0) (w.alloc (.cells #[] 214))) := ⟨Nat.zero_le _, by simp, by simp, hr.out, hO0, hB0⟩
  clear hO0 hB0
  go_enter Tryz.func184, Tryz.ntmps184
  go_wp2
  refine wp_scope_goto (jLex s w r) (muLex s) ?lab ?pass ?first
  case lab =>
    rintro l a W h
    match l, h with
    | 0, _ => exact ⟨_, rfl⟩
    | 1, _ => exact ⟨_, rfl⟩
    | 2, _ => exact ⟨_, rfl⟩
    | 3, _ => exact ⟨_, rfl⟩
    | n + 4, h => exact h.elim
  case first =>
    intro F
    go_wp2
    refine wp_label ?_
    next K h => exact h _ _ (F 0 _ _ _ rfl ⟨0, [], _, ⟨_, _, _, _, _, _, _, _, _, _, _, _, _, _, _, _, _, _, _, _, _, _, _, _, _, _, _, _, _, _, _, _, _, _, _, _, _, _, _, _, _, _, _, _, _, _, _, _, _, _, _, _, _, _, _, _, _, _, _, _, _, _, _, _, _, _, _, _, _, _, _, rfl⟩, HI0.out⟩)
  case pass =>
    clear HI0
    rintro T l a W X hX hJ hT
    match l, hJ with
    | 0, hJ =>
      obtain ⟨i, l, v, ⟨u5, u7, u8, u9, u10, u11, u12, u13, u14, u15, u16, u17, u18, u19, u20, u21, u22, u23, u24, u25, u26, u27, u28, u29, u30, u31, u32, u33, u34, u35, u36, u37, u38, u39, u40, u41, u42, u43, u44, u45, u46, u47, u48, u49, u50, u51, u52, u53, u54, u55, u56, u57, u58, u59, u60, u61, u62, u63, u64, u65, u66, u67, u68, u69, u70, u71, u72, u73, u74, u75, u76, rfl⟩, hI⟩ := hJ
      obtain rfl := (Code.seq.inj (Option.some.inj hX)).2
      clear hX
      have HT : Hid (∀ l' a' w', jLex s w r l' a' w' → muLex s l' a' w' < muLex s 0 { tmps := #[.string s, undef, .slice none 0 0, .int .i64 0, v, u5, .int .i64 i, u7, u8, u9, u10, u11, u12, u13, u14, u15, u16, u17, u18, u19, u20, u21, u22, u23, u24, u25, u26, u27, u28, u29, u30, u31, u32, u33, u34, u35, u36, u37, u38, u39, u40, u41, u42, u43, u44, u45, u46, u47, u48, u49, u50, u51, u52, u53, u54, u55, u56, u57, u58, u59, u60, u61, u62, u63, u64, u65, u66, u67, u68, u69, u70, u71, u72, u73, u74, u75, u76], defers := [] } W → T l' a' w') := hT
      clear hT
      by_cases hlt : i < s.size
      · have hiz : ((i : Int) == (s.size : Int)) = false := by simp; omega
        have hiz2 : (i : Int) < (s.size : Int) := by omega
        have hc := bt_at hlt
        have hbd := bt_bd s i
        obtain ⟨c, hcc⟩ : ∃ c, Hid (bt s i = c) := ⟨_, rfl⟩
        rw [hcc.out] at hc hbd
        have hS1 := isBlank_any c W
        have hS2 := isLetter_any c W hbd.1 hbd.2
        have hS3 := isMark_any c W
        go_wp2_with (rw [hc])
        refine hS1.mono ?_
        rintro e _ ⟨rfl, rfl⟩
        clear hS1
        cases hb : blank c with
        | true =>
          have HN : Hid (Inv s w r (i + 1) l v W) := ⟨by have := hI.le; omega, hI.ne, hI.few, (lexF_blank hlt (by rw [hcc.out]; exact hb)).symm.trans hI.lex, hI.own, hI.below⟩
          clear hI hS2 hS3
          go_wp2
          go_step3
          refine HT.out 0 _ _ ⟨i + 1, l, v, ⟨_, _, _, _, _, _, _, _, _, _, _, _, _, _, _, _, _, _, _, _, _, _, _, _, _, _, _, _, _, _, _, _, _, _, _, _, _, _, _, _, _, _, _, _, _, _, _, _, _, _, _, _, _, _, _, _, _, _, _, _, _, _, _, _, _, _, _, _, _, _, _, rfl⟩, HN.out⟩ ?_
          simp [muLex, intOf]
          omega
        | false =>
          obtain ⟨a5, c5, rfl⟩ : ∃ a5 c5, v = .slice a5 l.length c5 := by
            rcases hI.own.2 with ⟨e, _⟩ | ⟨g, c', cur, e, _⟩
            · exact absurd e hI.ne
            · exact ⟨_, _, e⟩
          by_cases hl : l.length = 500
          · have hlz : ((l.length : Int) == 500) = true := by simp; omega
            have HR : Hid (r = ([], (i : Int)) ∧ Below w.heap.size w W) := by
              refine ⟨?_, hI.below⟩
              have e := hI.lex
              rw [lexF_no hlt (by rw [hcc.out]; exact hb) (fun h => h.2 hl)] at e
              exact e.symm
            clear hI hS2 hS3 hl
            go_wp2
            go_step3
            refine HT.out 1 _ _ ⟨i, ⟨_, _, _, _, _, _, _, _, _, _, _, _, _, _, _, _, _, _, _, _, _, _, _, _, _, _, _, _, _, _, _, _, _, _, _, _, _, _, _, _, _, _, _, _, _, _, _, _, _, _, _, _, _, _, _, _, _, _, _, _, _, _, _, _, _, _, _, _, _, _, _, _, rfl⟩, HR.out⟩ ?_
            simp [muLex, intOf]
          · have hlz : ((l.length : Int) == 500) = false := by simp; omega
            have HL : Hid (l.length ≠ 500) := hl
            clear hl
            go_wp2_with (rw [hc])
            refine hS2.mono ?_
            rintro e _ ⟨rfl, rfl⟩
            clear hS2
            cases hsm : small c with
            | true =>
              have HM : Hid (small (bt s i) = true) := by show _ = _; rw [hcc.out]; exact hsm
              have HI : Hid (Inv s w r i l (.slice a5 l.length c5) W) := hI
              clear hI hS3
              go_wp2
              go_step3
              refine HT.out 2 _ _ ⟨i, i + 1, l, .slice a5 l.length c5, ⟨_, _, _, _, _, _, _, _, _, _, _, _, _, _, _, _, _, _, _, _, _, _, _, _, _, _, _, _, _, _, _, _, _, _, _, _, _, _, _, _, _, _, _, _, _, _, _, _, _, _, _, _, _, _, _, _, _, _, _, _, _, _, _, _, _, _, _, _, _, _, rfl⟩, HI.out, HL.out, HM.out, by omega, by omega, rfl⟩ ?_
              simp [muLex, intOf]
              omega
            | false =>
              go_wp2_with (rw [hc])
              refine hS3.mono ?_
              rintro e _ ⟨rfl, rfl⟩
              clear hS3
              cases hm : markC c with
              | true =>
                have HM : Hid (markC (bt s i) = true) := by show _ = _; rw [hcc.out]; exact hm
                have HI : Hid (Inv s w r i l (.slice a5 l.length c5) W) := hI
                clear hI
                go_wp2
                go_step3
                refine HT.out 3 _ _ ⟨i, i + 1, l, .slice a5 l.length c5, ⟨_, _, _, _, _, _, _, _, _, _, _, _, _, _, _, _, _, _, _, _, _, _, _, _, _, _, _, _, _, _, _, _, _, _, _, _, _, _, _, _, _, _, _, _, _, _, _, _, _, _, _, _, _, _, _, _, _, _, _, _, _, _, _, _, _, _, _, _, _, _, rfl⟩, HI.out, HL.out, HM.out, rfl, by omega⟩ ?_
                simp [muLex, intOf]
                omega
              | false =>
                have HR : Hid (r = ([], (i : Int)) ∧ Below w.heap.size w W) := by
                  refine ⟨?_, hI.below⟩
                  have e := hI.lex
                  rw [lexF_no hlt (by rw [hcc.out]; exact hb) (fun h => by
                    have h1 := h.1
                    have hk := other_kind (s := s) (i := i) (by rw [hcc.out]; exact hsm)
                    rw [hk.1, hk.2] at h1
                    have h2 : markOk (s.extract i (i + 1)) = true := h1
                    rw [mark_ok hlt, hcc.out, hm] at h2
                    cases h2)] at e
                  exact e.symm
                clear hI
                go_wp2
                go_step3
                refine HT.out 1 _ _ ⟨i, ⟨_, _, _, _, _, _, _, _, _, _, _, _, _, _, _, _, _, _, _, _, _, _, _, _, _, _, _, _, _, _, _, _, _, _, _, _, _, _, _, _, _, _, _, _, _, _, _, _, _, _, _, _, _, _, _, _, _, _, _, _, _, _, _, _, _, _, _, _, _, _, _, _, rfl⟩, HR.out⟩ ?_
                simp [muLex, intOf]
      · have hiz : ((i : Int) == (s.size : Int)) = true := by have := hI.le; simp; omega
        have HR : Hid (LexTo w r (.returned (.tuple #[v, .int .i64 (-1)])) W) := by
          have e := hI.lex
          rw [lexF_end hlt] at e
          rw [← e]
          exact ⟨v, rfl, hI.ne, hI.own, hI.below⟩
        clear hI HT
        go_wp2
        rw [jumps_ret]
        exact bodyPost_ret (v := .tuple #[v, .int .i64 (-1)]) (by simp [results, Tryz.results184, go_sem]) rfl HR.out
    | 1, hJ =>
      obtain ⟨i, ⟨u4, u6, u7, u8, u9, u10, u11, u12, u13, u14, u15, u16, u17, u18, u19, u20, u21, u22, u23, u24, u25, u26, u27, u28, u29, u30, u31, u32, u33, u34, u35, u36, u37, u38, u39, u40, u41, u42, u43, u44, u45, u46, u47, u48, u49, u50, u51, u52, u53, u54, u55, u56, u57, u58, u59, u60, u61, u62, u63, u64, u65, u66, u67, u68, u69, u70, u71, u72, u73, u74, u75, u76, rfl⟩, hr1, hB⟩ := hJ
      obtain rfl := (Code.seq.inj (Option.some.inj hX)).2
      clear hX hT
      have HR : Hid (LexTo w r (.returned (.tuple #[.slice (some ⟨W.heap.size, 0, none⟩) 0 0, .int .i64 (i : Int)])) (W.alloc (.cells #[] 214))) := by
        rw [hr1]
        exact ⟨_, rfl, by simp, World.ownsRow_lit (base := w.heap.size) (e := 214) (size := 2) W #[] 0 hB.size (Nat.zero_le _) rfl, hB.alloc hB.size _⟩
      clear hr1 hB hr
      go_wp2
      rw [jumps_ret]
      exact bodyPost_ret (v := .tuple #[.slice (some ⟨W.heap.size, 0, none⟩) 0 0, .int .i64 (i : Int)]) (by simp [results, Tryz.results184, go_sem]) rfl HR.out
    | 2, hJ =>
      obtain ⟨i, j, l, v, ⟨u7, u8, u9, u10, u11, u12, u13, u14, u15, u16, u17, u18, u19, u20, u21, u22, u23, u24, u25, u26, u27, u28, u29, u30, u31, u32, u33, u34, u35, u36, u37, u38, u39, u40, u41, u42, u43, u44, u45, u46, u47, u48, u49, u50, u51, u52, u53, u54, u55, u56, u57, u58, u59, u60, u61, u62, u63, u64, u65, u66, u67, u68, u69, u70, u71, u72, u73, u74, u75, u76, rfl⟩, hI, hl, hsm, hij0, hjs, hend⟩ := hJ
      obtain rfl := (Code.seq.inj (Option.some.inj hX)).2
      clear hX
      have HT : Hid (∀ l' a' w', jLex s w r l' a' w' → muLex s l' a' w' < muLex s 2 { tmps := #[.string s, undef, .slice none 0 0, .int .i64 0, v, .int .i64 i, .int .i64 j, u7, u8, u9, u10, u11, u12, u13, u14, u15, u16, u17, u18, u19, u20, u21, u22, u23, u24, u25, u26, u27, u28, u29, u30, u31, u32, u33, u34, u35, u36, u37, u38, u39, u40, u41, u42, u43, u44, u45, u46, u47, u48, u49, u50, u51, u52, u53, u54, u55, u56, u57, u58, u59, u60, u61, u62, u63, u64, u65, u66, u67, u68, u69, u70, u71, u72, u73, u74, u75, u76], defers := [] } W → T l' a' w') := hT
      clear hT
      have hlt : i < s.size := by omega
      have HNB : Hid (blank (bt s i) = false) := small_not hsm
      have HSM : Hid (small (bt s i) = true) := hsm
      have HKS : Hid (kindAt s i = 1 ∧ stopAt s i = endN s (i + 1)) := small_kind hsm
      have HEN : Hid (endN s j = endN s (i + 1)) := hend
      clear hsm hend
      have FIN : Hid (endN s (i + 1) = j → tokOk 1 (s.extract i j) = decide (j - i ≤ 8)) := by
        intro e
        have := name_ok hlt HSM.out
        rw [e] at this
        exact this
      by_cases hjl : j < s.size
      · have hjl2 : (j : Int) < (s.size : Int) := by omega
        have hd := bt_at hjl
        have hdb := bt_bd s j
        obtain ⟨d, hdd⟩ : ∃ d, Hid (bt s j = d) := ⟨_, rfl⟩
        rw [hdd.out] at hd hdb
        have hS := isLetter_any d W hdb.1 hdb.2
        have hD := isDigit_any d W hdb.1 hdb.2
        go_wp2_with (rw [hd])
        refine hS.mono ?_
        rintro e _ ⟨rfl, rfl⟩
        clear hS
        cases hs2 : small d with
        | true =>
          have HN : Hid (endN s (j + 1) = endN s (i + 1)) := by show _ = _; rw [← HEN.out]; exact (endN_step hjl (by rw [hdd.out]; unfold inName; rw [hs2]; rfl)).symm
          have HI : Hid (Inv s w r i l v W) := hI
          have HL : Hid (l.length ≠ 500) := hl
          clear hI hD hl FIN
          go_wp2
          go_step3
          refine HT.out 2 _ _ ⟨i, j + 1, l, v, ⟨_, _, _, _, _, _, _, _, _, _, _, _, _, _, _, _, _, _, _, _, _, _, _, _, _, _, _, _, _, _, _, _, _, _, _, _, _, _, _, _, _, _, _, _, _, _, _, _, _, _, _, _, _, _, _, _, _, _, _, _, _, _, _, _, _, _, _, _, _, _, rfl⟩, HI.out, HL.out, HSM.out, by omega, by omega, HN.out⟩ ?_
          simp [muLex, intOf]
          omega
        | false =>
          go_wp2_with (rw [hd])
          refine hD.mono ?_
          rintro e _ ⟨rfl, rfl⟩
          clear hD
          cases hd2 : digit d with
          | true =>
            have HN : Hid (endN s (j + 1) = endN s (i + 1)) := by show _ = _; rw [← HEN.out]; exact (endN_step hjl (by rw [hdd.out]; unfold inName; rw [hd2]; simp)).symm
            have HI : Hid (Inv s w r i l v W) := hI
            have HL : Hid (l.length ≠ 500) := hl
            clear hI hl FIN
            go_wp2
            go_step3
            refine HT.out 2 _ _ ⟨i, j + 1, l, v, ⟨_, _, _, _, _, _, _, _, _, _, _, _, _, _, _, _, _, _, _, _, _, _, _, _, _, _, _, _, _, _, _, _, _, _, _, _, _, _, _, _, _, _, _, _, _, _, _, _, _, _, _, _, _, _, _, _, _, _, _, _, _, _, _, _, _, _, _, _, _, _, rfl⟩, HI.out, HL.out, HSM.out, by omega, by omega, HN.out⟩ ?_
            simp [muLex, intOf]
            omega
          | false =>
            have HE : Hid (endN s (i + 1) = j) := by show _ = _; rw [← HEN.out]; exact endN_stop (fun h => by have := h.2; rw [hdd.out] at this; unfold inName at this; rw [hs2, hd2] at this; cases this)
            clear hs2 hd2
            have HOK0 : Hid (tokOk 1 (s.extract i j) = decide (j - i ≤ 8)) := FIN.out HE.out
            rw [HE.out] at HKS
            clear FIN HEN
            by_cases h8 : j - i ≤ 8
            · have h8z : ¬ (8 : Int) < (j : Int) - (i : Int) := by omega
              have HOK : Hid (tokOk 1 (s.extract i j) = true) := by show _ = _; rw [HOK0.out]; exact decide_eq_true h8
              clear HOK0
              have HNX : Hid (lexF s j (l ++ [(1, s.extract i j)]) = r) := by
                show _ = _
                rw [← hI.lex, lexF_tok hlt HNB.out (by rw [HKS.out.1, HKS.out.2]; exact HOK.out) hl, HKS.out.1, HKS.out.2]
              have hij : (i : Int) ≤ (j : Int) := by omega
              have hjz : (j : Int) ≤ (s.size : Int) := by omega
              have hsub : (s.extract i j).size ≤ 281474976710656 := by rw [ByteArray.size_extract]; omega
              obtain ⟨sub, hsb⟩ : ∃ sub, Hid (s.extract i j = sub) := ⟨_, rfl⟩
              rw [hsb.out] at hsub HOK HNX
              have hC := strClone_tok sub W hsub
              have hown := hI.own
              have hB := hI.below
              have HNE : Hid (v ≠ .slice none 0 0) := hI.ne
              have HL5 : Hid (l.length < 500) := by show _ < _; have := hI.few; omega
              obtain ⟨a5, c5, rfl⟩ : ∃ a5 c5, v = .slice a5 l.length c5 := by
                rcases hown.2 with ⟨e, _⟩ | ⟨g, c', cur, e, _⟩
                · exact absurd e HNE.out
                · exact ⟨_, _, e⟩
              clear hI HOK
              go_wp2_with (rw [hsb.out])
              refine hC.mono ?_
              rintro e w4 ⟨rfl, hb4⟩
              have hown4 := own_below2 hown hb4
              have hB4 := hB.trans (hb4.mono hB.size)
              have hcl := cells_tok w4 1 sub
              have hs4 := hB4.size
              have hl5 := HL5.out
              clear hC hown hB hb4 hl
              go_wp2_with (at_builtin; refine wpList_append_own _ rfl (.tmp 57) (.tmp 64) 233 rfl w.heap.size 214 i0 (.agg #[.int .i64 0, .string ⟨#[]⟩]) 2 24 Tryz.underlying233 hi hz0 hz1 hz2 rfl (by decide) (.slice a5 l.length c5) _ _ rfl (own_below2 hown4 ((Below.refl _ _).alloc (Nat.le_refl _) _)) ⟨w4.heap.size, 0, none⟩ 1 1 [.int .i64 1, .string sub] rfl rfl hcl (one_tok _ _) (by unfold maxLen; omega) (by omega) (by simp; omega) ?_; intro v5 w5 hown5 hgr5 hnil5)
              have hb5 : Below w4.heap.size w4 (w4.alloc (.cells #[.int .i64 1, .string sub] 214)) := (Below.refl _ _).alloc (Nat.le_refl _) _
              have HI5 : Hid (Inv s w r j (l ++ [((1 : Int), sub)]) v5 w5) := by
                refine ⟨by omega, fun e => HNE.out (hnil5.1 e).1, by rw [List.length_append]; simp; omega, HNX.out, by rw [rowL_snoc, List.length_append]; exact hown5, ?_⟩
                exact (hB4.trans (hb5.mono hs4)).grown hgr5 (by have := (hB4.trans (hb5.mono hs4)).size; exact this) (fun j e => ((own_below2 hown4 hb5).lt j e).1)
              clear hown4 hown5 hgr5 hnil5 hcl hB4 hb5
              go_wp2
              go_step3
              refine HT.out 0 _ _ ⟨j, l ++ [(1, sub)], v5, ⟨_, _, _, _, _, _, _, _, _, _, _, _, _, _, _, _, _, _, _, _, _, _, _, _, _, _, _, _, _, _, _, _, _, _, _, _, _, _, _, _, _, _, _, _, _, _, _, _, _, _, _, _, _, _, _, _, _, _, _, _, _, _, _, _, _, _, _, _, _, _, _, rfl⟩, HI5.out⟩ ?_
              simp [muLex, intOf]
            · have h8z : (8 : Int) < (j : Int) - (i : Int) := by omega
              have HR : Hid (r = ([], (i : Int)) ∧ Below w.heap.size w W) := by
                refine ⟨?_, hI.below⟩
                have e := hI.lex
                rw [lexF_no hlt HNB.out (fun h => by have h1 := h.1; rw [HKS.out.1, HKS.out.2, HOK0.out] at h1; exact h8 (of_decide_eq_true h1))] at e
                exact e.symm
              clear hI HOK0 hl
              go_wp2
              go_step3
              refine HT.out 1 _ _ ⟨i, ⟨_, _, _, _, _, _, _, _, _, _, _, _, _, _, _, _, _, _, _, _, _, _, _, _, _, _, _, _, _, _, _, _, _, _, _, _, _, _, _, _, _, _, _, _, _, _, _, _, _, _, _, _, _, _, _, _, _, _, _, _, _, _, _, _, _, _, _, _, _, _, _, _, rfl⟩, HR.out⟩ ?_
              simp [muLex, intOf]
      · have hjl2 : ¬ (j : Int) < (s.size : Int) := by omega
        have HE : Hid (endN s (i + 1) = j) := by show _ = _; rw [← HEN.out]; exact endN_stop (fun h => hjl h.1)
        have HOK0 : Hid (tokOk 1 (s.extract i j) = decide (j - i ≤ 8)) := FIN.out HE.out
        rw [HE.out] at HKS
        clear FIN HEN
        by_cases h8 : j - i ≤ 8
        · have h8z : ¬ (8 : Int) < (j : Int) - (i : Int) := by omega
          have HOK : Hid (tokOk 1 (s.extract i j) = true) := by show _ = _; rw [HOK0.out]; exact decide_eq_true h8
          clear HOK0
          have HNX : Hid (lexF s j (l ++ [(1, s.extract i j)]) = r) := by
            show _ = _
            rw [← hI.lex, lexF_tok hlt HNB.out (by rw [HKS.out.1, HKS.out.2]; exact HOK.out) hl, HKS.out.1, HKS.out.2]
          have hij : (i : Int) ≤ (j : Int) := by omega
          have hjz : (j : Int) ≤ (s.size : Int) := by omega
          have hsub : (s.extract i j).size ≤ 281474976710656 := by rw [ByteArray.size_extract]; omega
          obtain ⟨sub, hsb⟩ : ∃ sub, Hid (s.extract i j = sub) := ⟨_, rfl⟩
          rw [hsb.out] at hsub HOK HNX
          have hC := strClone_tok sub W hsub
          have hown := hI.own
          have hB := hI.below
          have HNE : Hid (v ≠ .slice none 0 0) := hI.ne
          have HL5 : Hid (l.length < 500) := by show _ < _; have := hI.few; omega
          obtain ⟨a5, c5, rfl⟩ : ∃ a5 c5, v = .slice a5 l.length c5 := by
            rcases hown.2 with ⟨e, _⟩ | ⟨g, c', cur, e, _⟩
            · exact absurd e HNE.out
            · exact ⟨_, _, e⟩
          clear hI HOK
          go_wp2_with (rw [hsb.out])
          refine hC.mono ?_
          rintro e w4 ⟨rfl, hb4⟩
          have hown4 := own_below2 hown hb4
          have hB4 := hB.trans (hb4.mono hB.size)
          have hcl := cells_tok w4 1 sub
          have hs4 := hB4.size
          have hl5 := HL5.out
          clear hC hown hB hb4 hl
          go_wp2_with (at_builtin; refine wpList_append_own _ rfl (.tmp 57) (.tmp 64) 233 rfl w.heap.size 214 i0 (.agg #[.int .i64 0, .string ⟨#[]⟩]) 2 24 Tryz.underlying233 hi hz0 hz1 hz2 rfl (by decide) (.slice a5 l.length c5) _ _ rfl (own_below2 hown4 ((Below.refl _ _).alloc (Nat.le_refl _) _)) ⟨w4.heap.size, 0, none⟩ 1 1 [.int .i64 1, .string sub] rfl rfl hcl (one_tok _ _) (by unfold maxLen; omega) (by omega) (by simp; omega) ?_; intro v5 w5 hown5 hgr5 hnil5)
          have hb5 : Below w4.heap.size w4 (w4.alloc (.cells #[.int .i64 1, .string sub] 214)) := (Below.refl _ _).alloc (Nat.le_refl _) _
          have HI5 : Hid (Inv s w r j (l ++ [((1 : Int), sub)]) v5 w5) := by
            refine ⟨by omega, fun e => HNE.out (hnil5.1 e).1, by rw [List.length_append]; simp; omega, HNX.out, by rw [rowL_snoc, List.length_append]; exact hown5, ?_⟩
            exact (hB4.trans (hb5.mono hs4)).grown hgr5 (by have := (hB4.trans (hb5.mono hs4)).size; exact this) (fun j e => ((own_below2 hown4 hb5).lt j e).1)
          clear hown4 hown5 hgr5 hnil5 hcl hB4 hb5
          go_wp2
          go_step3
          refine HT.out 0 _ _ ⟨j, l ++ [(1, sub)], v5, ⟨_, _, _, _, _, _, _, _, _, _, _, _, _, _, _, _, _, _, _, _, _, _, _, _, _, _, _, _, _, _, _, _, _, _, _, _, _, _, _, _, _, _, _, _, _, _, _, _, _, _, _, _, _, _, _, _, _, _, _, _, _, _, _, _, _, _, _, _, _, _, _, rfl⟩, HI5.out⟩ ?_
          simp [muLex, intOf]
        · have h8z : (8 : Int) < (j : Int) - (i : Int) := by omega
          have HR : Hid (r = ([], (i : Int)) ∧ Below w.heap.size w W) := by
            refine ⟨?_, hI.below⟩
            have e := hI.lex
            rw [lexF_no hlt HNB.out (fun h => by have h1 := h.1; rw [HKS.out.1, HKS.out.2, HOK0.out] at h1; exact h8 (of_decide_eq_true h1))] at e
            exact e.symm
          clear hI HOK0 hl
          go_wp2
          go_step3
          refine HT.out 1 _ _ ⟨i, ⟨_, _, _, _, _, _, _, _, _, _, _, _, _, _, _, _, _, _, _, _, _, _, _, _, _, _, _, _, _, _, _, _, _, _, _, _, _, _, _, _, _, _, _, _, _, _, _, _, _, _, _, _, _, _, _, _, _, _, _, _, _, _, _, _, _, _, _, _, _, _, _, _, rfl⟩, HR.out⟩ ?_
          simp [muLex, intOf]
    | 3, hJ =>
      obtain ⟨i, j, l, v, ⟨u7, u8, u9, u10, u11, u12, u13, u14, u15, u16, u17, u18, u19, u20, u21, u22, u23, u24, u25, u26, u27, u28, u29, u30, u31, u32, u33, u34, u35, u36, u37, u38, u39, u40, u41, u42, u43, u44, u45, u46, u47, u48, u49, u50, u51, u52, u53, u54, u55, u56, u57, u58, u59, u60, u61, u62, u63, u64, u65, u66, u67, u68, u69, u70, u71, u72, u73, u74, u75, u76, rfl⟩, hI, hl, hmk, hji, hjs⟩ := hJ
      obtain rfl := (Code.seq.inj (Option.some.inj hX)).2
      clear hX
      have HT : Hid (∀ l' a' w', jLex s w r l' a' w' → muLex s l' a' w' < muLex s 3 { tmps := #[.string s, undef, .slice none 0 0, .int .i64 0, v, .int .i64 i, .int .i64 j, u7, u8, u9, u10, u11, u12, u13, u14, u15, u16, u17, u18, u19, u20, u21, u22, u23, u24, u25, u26, u27, u28, u29, u30, u31, u32, u33, u34, u35, u36, u37, u38, u39, u40, u41, u42, u43, u44, u45, u46, u47, u48, u49, u50, u51, u52, u53, u54, u55, u56, u57, u58, u59, u60, u61, u62, u63, u64, u65, u66, u67, u68, u69, u70, u71, u72, u73, u74, u75, u76], defers := [] } W → T l' a' w') := hT
      clear hT
      have hlt : i < s.size := by omega
      obtain ⟨hns, hnb⟩ := mark_not hmk
      have HNB : Hid (blank (bt s i) = false) := hnb
      have HKS : Hid (kindAt s i = 2 ∧ stopAt s i = j) := by rw [hji]; exact other_kind hns
      have HOK : Hid (tokOk 2 (s.extract i j) = true) := by rw [hji]; exact (mark_ok hlt).trans hmk
      have hj1 : i < j := by omega
      clear hns hnb hmk hji
      have HNX : Hid (lexF s j (l ++ [(2, s.extract i j)]) = r) := by
        show _ = _
        rw [← hI.lex, lexF_tok hlt HNB.out (by rw [HKS.out.1, HKS.out.2]; exact HOK.out) hl, HKS.out.1, HKS.out.2]
      have hij : (i : Int) ≤ (j : Int) := by omega
      have hjz : (j : Int) ≤ (s.size : Int) := by omega
      have hsub : (s.extract i j).size ≤ 281474976710656 := by rw [ByteArray.size_extract]; omega
      obtain ⟨sub, hsb⟩ : ∃ sub, Hid (s.extract i j = sub) := ⟨_, rfl⟩
      rw [hsb.out] at hsub HOK HNX
      have hC := strClone_tok sub W hsub
      have hown := hI.own
      have hB := hI.below
      have HNE : Hid (v ≠ .slice none 0 0) := hI.ne
      have HL5 : Hid (l.length < 500) := by show _ < _; have := hI.few; omega
      obtain ⟨a5, c5, rfl⟩ : ∃ a5 c5, v = .slice a5 l.length c5 := by
        rcases hown.2 with ⟨e, _⟩ | ⟨g, c', cur, e, _⟩
        · exact absurd e HNE.out
        · exact ⟨_, _, e⟩
      clear hI HOK
      go_wp2_with (rw [hsb.out])
      refine hC.mono ?_
      rintro e w4 ⟨rfl, hb4⟩
      have hown4 := own_below2 hown hb4
      have hB4 := hB.trans (hb4.mono hB.size)
      have hcl := cells_tok w4 2 sub
      have hs4 := hB4.size
      have hl5 := HL5.out
      clear hC hown hB hb4 hl
      go_wp2_with (at_builtin; refine wpList_append_own _ rfl (.tmp 66) (.tmp 73) 233 rfl w.heap.size 214 i0 (.agg #[.int .i64 0, .string ⟨#[]⟩]) 2 24 Tryz.underlying233 hi hz0 hz1 hz2 rfl (by decide) (.slice a5 l.length c5) _ _ rfl (own_below2 hown4 ((Below.refl _ _).alloc (Nat.le_refl _) _)) ⟨w4.heap.size, 0, none⟩ 1 1 [.int .i64 2, .string sub] rfl rfl hcl (one_tok _ _) (by unfold maxLen; omega) (by omega) (by simp; omega) ?_; intro v5 w5 hown5 hgr5 hnil5)
      have hb5 : Below w4.heap.size w4 (w4.alloc (.cells #[.int .i64 2, .string sub] 214)) := (Below.refl _ _).alloc (Nat.le_refl _) _
      have HI5 : Hid (Inv s w r j (l ++ [((2 : Int), sub)]) v5 w5) := by
        refine ⟨by omega, fun e => HNE.out (hnil5.1 e).1, by rw [List.length_append]; simp; omega, HNX.out, by rw [rowL_snoc, List.length_append]; exact hown5, ?_⟩
        exact (hB4.trans (hb5.mono hs4)).grown hgr5 (by have := (hB4.trans (hb5.mono hs4)).size; exact this) (fun j e => ((own_below2 hown4 hb5).lt j e).1)
      clear hown4 hown5 hgr5 hnil5 hcl hB4 hb5
      go_wp2
      go_step3
      refine HT.out 0 _ _ ⟨j, l ++ [(2, sub)], v5, ⟨_, _, _, _, _, _, _, _, _, _, _, _, _, _, _, _, _, _, _, _, _, _, _, _, _, _, _, _, _, _, _, _, _, _, _, _, _, _, _, _, _, _, _, _, _, _, _, _, _, _, _, _, _, _, _, _, _, _, _, _, _, _, _, _, _, _, _, _, _, _, _, rfl⟩, HI5.out⟩ ?_
      simp [muLex, intOf]
    | n + 4, h => exact h.elim
end Go.Proofs.YtjoimkfpenbkmabGreatDoor

/-
  Tables, plainly: columns, parts, indexes; what is wrong with one; whether two are the same.
-/
namespace Go.Proofs.YtjoimkfpenbkmabGreatDoor
open Go.RowKit
set_option maxRecDepth 4000

structure PCol where
  name : ByteArray
  type : Int
  null : Bool
structure PBy where
  col : Int
  desc : Bool
structure PIdx where
  name : ByteArray
  uniq : Bool
  n : Nat
  part : Nat → PBy
structure PDef where
  name : ByteArray
  nc : Nat
  col : Nat → PCol
  np : Nat
  pri : Nat → PBy
  ni : Nat
  idx : Nat → PIdx

/-- The words that are no names: table, primary, unique, index, null, desc, int, num, text, bool. -/
def kwords : List (List UInt8) := [[116, 97, 98, 108, 101], [112, 114, 105, 109, 97, 114, 121], [117, 110, 105, 113, 117, 101], [105, 110, 100, 101, 120], [110, 117, 108, 108], [100, 101, 115, 99], [105, 110, 116], [110, 117, 109], [116, 101, 120, 116], [98, 111, 111, 108]]
def isKw (s : ByteArray) : Bool := kwords.contains s.toList
/-- Whether a text may be a name in a table. -/
def wordOk (s : ByteArray) : Bool := nameOk s && !isKw s

def namesF (D : PDef) : Bool := decide ((∀ i, i < D.nc → wordOk (D.col i).name = true) ∧ (∀ i, i < D.ni → wordOk (D.idx i).name = true) ∧ wordOk D.name = true)
def typesF (D : PDef) : Bool := decide ((∀ i, i < D.nc → 1 ≤ (D.col i).type ∧ (D.col i).type ≤ 4) ∧ 1 ≤ D.nc ∧ D.nc ≤ 6)
def onceF (D : PDef) : Bool := decide ((∀ i, i < D.nc → ∀ j, j < i → (D.col j).name ≠ (D.col i).name) ∧ (∀ i, i < D.ni → ∀ j, j < i → (D.idx j).name ≠ (D.idx i).name))
def partsF (nc n : Nat) (f : Nat → PBy) : Bool := decide ((∀ i, i < n → 0 ≤ (f i).col ∧ (f i).col < nc ∧ (0 < i → (f 0).col ≠ (f i).col)) ∧ 1 ≤ n ∧ n ≤ 2)
def allPartsF (D : PDef) : Bool := decide ((∀ i, i < D.ni → partsF D.nc (D.idx i).n (D.idx i).part = true) ∧ partsF D.nc D.np D.pri = true)
def nullF (D : PDef) : Bool := decide (∃ i, i < D.np ∧ (D.col (D.pri i).col.toNat).null = true)
/-- What is wrong with a table: the first that holds. -/
def checkF (D : PDef) : Int :=
  if namesF D = false then 1 else if typesF D = false then 2 else if onceF D = false then 3 else if 2 < D.ni then 6 else if allPartsF D = false then 5 else if nullF D then 4 else 0

def sameByF (n : Nat) (f : Nat → PBy) (m : Nat) (g : Nat → PBy) : Bool := decide (n = m ∧ ∀ i, i < n → (f i).col = (g i).col ∧ (f i).desc = (g i).desc)
/-- Whether two tables are the same. -/
def sameF (D E : PDef) : Bool :=
  decide (D.name = E.name ∧ D.nc = E.nc ∧ D.ni = E.ni ∧ sameByF D.np D.pri E.np E.pri = true ∧ (∀ i, i < D.nc → (D.col i).name = (E.col i).name ∧ (D.col i).type = (E.col i).type ∧ (D.col i).null = (E.col i).null)
    ∧ (∀ i, i < D.ni → (D.idx i).name = (E.idx i).name ∧ (D.idx i).uniq = (E.idx i).uniq ∧ sameByF (D.idx i).n (D.idx i).part (E.idx i).n (E.idx i).part = true))

theorem partsF_two {nc n : Nat} {f : Nat → PBy} (h : partsF nc n f = true) : 1 ≤ n ∧ n ≤ 2 := by
  unfold partsF at h; exact (of_decide_eq_true h).2
theorem partsF_in {nc n : Nat} {f : Nat → PBy} (h : partsF nc n f = true) {i : Nat} (hi : i < n) : 0 ≤ (f i).col ∧ (f i).col < nc := by
  unfold partsF at h; have := (of_decide_eq_true h).1 i hi; exact ⟨this.1, this.2.1⟩
/-- What a table is that nothing is wrong with. -/
theorem checkF_good {D : PDef} (h : checkF D = 0) : namesF D = true ∧ typesF D = true ∧ onceF D = true ∧ D.ni ≤ 2 ∧ allPartsF D = true ∧ nullF D = false := by
  unfold checkF at h
  cases h1 : namesF D <;> rw [h1] at h
  · simp at h
  cases h2 : typesF D <;> rw [h2] at h
  · simp at h
  cases h3 : onceF D <;> rw [h3] at h
  · simp at h
  by_cases h4 : 2 < D.ni
  · simp [h4] at h
  cases h5 : allPartsF D <;> rw [h5] at h
  · simp [h4] at h
  cases h6 : nullF D <;> rw [h6] at h
  · exact ⟨rfl, rfl, rfl, by omega, rfl, rfl⟩
  · simp [h4] at h
end Go.Proofs.YtjoimkfpenbkmabGreatDoor

/-
  Rows of columns, of parts and of indexes that read, and a table that reads; how that is carried from one world to the next.
-/
namespace Go.Proofs.YtjoimkfpenbkmabGreatDoor
open Go.RowKit
set_option maxRecDepth 4000

/-- The slice value '.slice ao n cap' reads as n columns. -/
structure CView (w : World) (ao : Option Addr) (n cap : Nat) (f : Nat → PCol) : Prop where
  le : n ≤ cap
  cells : 0 < n → ∃ b off, ao = some ⟨b, off, none⟩ ∧ b < w.heap.size ∧ ∀ i, i < n → w.cell? ⟨b, off + i * 3, none⟩ = some (.string (f i).name) ∧ w.cell? ⟨b, off + i * 3 + 1, none⟩ = some (.int .i64 (f i).type) ∧ w.cell? ⟨b, off + i * 3 + 2, none⟩ = some (.bool (f i).null)
/-- .. as n parts. -/
structure BView (w : World) (ao : Option Addr) (n cap : Nat) (f : Nat → PBy) : Prop where
  le : n ≤ cap
  cells : 0 < n → ∃ b off, ao = some ⟨b, off, none⟩ ∧ b < w.heap.size ∧ ∀ i, i < n → w.cell? ⟨b, off + i * 2, none⟩ = some (.int .i64 (f i).col) ∧ w.cell? ⟨b, off + i * 2 + 1, none⟩ = some (.bool (f i).desc)
/-- .. as n indexes. -/
structure IView (w : World) (ao : Option Addr) (n cap : Nat) (f : Nat → PIdx) : Prop where
  le : n ≤ cap
  cells : 0 < n → ∃ b off, ao = some ⟨b, off, none⟩ ∧ b < w.heap.size ∧ ∀ i, i < n → w.cell? ⟨b, off + i * 3, none⟩ = some (.string (f i).name) ∧ w.cell? ⟨b, off + i * 3 + 1, none⟩ = some (.bool (f i).uniq) ∧ ∃ a c, w.cell? ⟨b, off + i * 3 + 2, none⟩ = some (.slice a (f i).n c) ∧ BView w a (f i).n c (f i).part
/-- A table's value. -/
structure DView (w : World) (v : Value) (D : PDef) : Prop where
  is : ∃ ac cc ap cp ai ci, v = .agg #[.string D.name, .slice ac D.nc cc, .slice ap D.np cp, .slice ai D.ni ci] ∧ CView w ac D.nc cc D.col ∧ BView w ap D.np cp D.pri ∧ IView w ai D.ni ci D.idx

theorem CView.below {w w' : World} {ao : Option Addr} {n cap : Nat} {f : Nat → PCol} (h : CView w ao n cap f) (hb : Below w.heap.size w w') : CView w' ao n cap f := by
  refine ⟨h.le, fun hn => ?_⟩
  obtain ⟨b, off, e, hlt, hc⟩ := h.cells hn
  refine ⟨b, off, e, Nat.lt_of_lt_of_le hlt hb.size, fun i hi => ?_⟩
  rw [hb.cell (p := ⟨b, off + i * 3, none⟩) hlt, hb.cell (p := ⟨b, off + i * 3 + 1, none⟩) hlt, hb.cell (p := ⟨b, off + i * 3 + 2, none⟩) hlt]
  exact hc i hi
theorem BView.below {w w' : World} {ao : Option Addr} {n cap : Nat} {f : Nat → PBy} (h : BView w ao n cap f) (hb : Below w.heap.size w w') : BView w' ao n cap f := by
  refine ⟨h.le, fun hn => ?_⟩
  obtain ⟨b, off, e, hlt, hc⟩ := h.cells hn
  refine ⟨b, off, e, Nat.lt_of_lt_of_le hlt hb.size, fun i hi => ?_⟩
  rw [hb.cell (p := ⟨b, off + i * 2, none⟩) hlt, hb.cell (p := ⟨b, off + i * 2 + 1, none⟩) hlt]
  exact hc i hi
theorem IView.below {w w' : World} {ao : Option Addr} {n cap : Nat} {f : Nat → PIdx} (h : IView w ao n cap f) (hb : Below w.heap.size w w') : IView w' ao n cap f := by
  refine ⟨h.le, fun hn => ?_⟩
  obtain ⟨b, off, e, hlt, hc⟩ := h.cells hn
  refine ⟨b, off, e, Nat.lt_of_lt_of_le hlt hb.size, fun i hi => ?_⟩
  rw [hb.cell (p := ⟨b, off + i * 3, none⟩) hlt, hb.cell (p := ⟨b, off + i * 3 + 1, none⟩) hlt, hb.cell (p := ⟨b, off + i * 3 + 2, none⟩) hlt]
  obtain ⟨h0, h1, a, c, h2, hv⟩ := hc i hi
  exact ⟨h0, h1, a, c, h2, hv.below hb⟩
theorem DView.below {w w' : World} {v : Value} {D : PDef} (h : DView w v D) (hb : Below w.heap.size w w') : DView w' v D := by
  obtain ⟨ac, cc, ap, cp, ai, ci, e, h1, h2, h3⟩ := h.is
  exact ⟨ac, cc, ap, cp, ai, ci, e, h1.below hb, h2.below hb, h3.below hb⟩
theorem CView.take {w : World} {ao : Option Addr} {n cap m : Nat} {f : Nat → PCol} (h : CView w ao n cap f) (hm : m ≤ n) : CView w ao m cap f := by
  refine ⟨Nat.le_trans hm h.le, fun hn => ?_⟩
  obtain ⟨b, off, e, hlt, hc⟩ := h.cells (by omega)
  exact ⟨b, off, e, hlt, fun i hi => hc i (by omega)⟩
end Go.Proofs.YtjoimkfpenbkmabGreatDoor

