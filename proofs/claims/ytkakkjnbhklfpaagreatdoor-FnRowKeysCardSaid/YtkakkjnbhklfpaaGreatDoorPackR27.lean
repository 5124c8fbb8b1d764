/-
  Together: LexImpl, TokOkImpl, GrowStr, ConcatImpl
-/
import Derived.Test.YtkakkjnbhklfpaaGreatDoorPackR26
import Derived.Test.YtkakkjnbhklfpaaGreatDoorPackR5
import Derived.Deep.LoopGhost
import Derived.BigQuiet
import Derived.Deep.QuietTactic
import Derived.Test.YtkakkjnbhklfpaaGreatDoorPackR4
import Derived.Lib.AppendZeros
/-
  The program's Lex: from state to state.
-/
namespace Go.Proofs.YtkakkjnbhklfpaaGreatDoor
open Go.RowKit
set_option maxRecDepth 4000

/-- What holds between two tokens. -/
structure Inv (s : ByteArray) (w : World) (r : List (Int × ByteArray) × Int) (i : Nat) (l : List (Int × ByteArray)) (v : Value) (W : World) : Prop where
  le : i ≤ s.size
  ne : v ≠ .slice none 0 0
  few : l.length ≤ 500
  lex : lexF s i l = r
  own : W.ownsRow w.heap.size 174 2 v l.length (rowL l)
  below : Below w.heap.size w W
def jLex (s : ByteArray) (w : World) (r : List (Int × ByteArray) × Int) : Nat → Act → World → Prop
  | 0, a, W => ∃ (i : Nat) (l : List (Int × ByteArray)) (v : Value), (∃ u5 u7 u8 u9 u10 u11 u12 u13 u14 u15 u16 u17 u18 u19 u20 u21 u22 u23 u24 u25 u26 u27 u28 u29 u30 u31 u32 u33 u34 u35 u36 u37 u38 u39 u40 u41 u42 u43 u44 u45 u46 u47 u48 u49 u50 u51 u52 u53 u54 u55 u56 u57 u58 u59 u60 u61 u62 u63 u64 u65 u66 u67 u68 u69 u70 u71 u72 u73 u74 u75 u76 : Value, a = { tmps := #[.string s, undef, .slice none 0 0, .int .i64 0, v, u5, .int .i64 i, u7, u8, u9, u10, u11, u12, u13, u14, u15, u16, u17, u18, u19, u20, u21, u22, u23, u24, u25, u26, u27, u28, u29, u30, u31, u32, u33, u34, u35, u36, u37, u38, u39, u40, u41, u42, u43, u44, u45, u46, u47, u48, u49, u50, u51, u52, u53, u54, u55, u56, u57, u58, u59, u60, u61, u62, u63, u64, u65, u66, u67, u68, u69, u70, u71, u72, u73, u74, u75, u76], defers := [] }) ∧ Inv s w r i l v W
  | 1, a, W => ∃ (i : Nat), (∃ u4 u6 u7 u8 u9 u10 u11 u12 u13 u14 u15 u16 u17 u18 u19 u20 u21 u22 u23 u24 u25 u26 u27 u28 u29 u30 u31 u32 u33 u34 u35 u36 u37 u38 u39 u40 u41 u42 u43 u44 u45 u46 u47 u48 u49 u50 u51 u52 u53 u54 u55 u56 u57 u58 u59 u60 u61 u62 u63 u64 u65 u66 u67 u68 u69 u70 u71 u72 u73 u74 u75 u76 : Value, a = { tmps := #[.string s, undef, .slice none 0 0, .int .i64 0, u4, .int .i64 i, u6, u7, u8, u9, u10, u11, u12, u13, u14, u15, u16, u17, u18, u19, u20, u21, u22, u23, u24, u25, u26, u27, u28, u29, u30, u31, u32, u33, u34, u35, u36, u37, u38, u39, u40, u41, u42, u43, u44, u45, u46, u47, u48, u49, u50, u51, u52, u53, u54, u55, u56, u57, u58, u59, u60, u61, u62, u63, u64, u65, u66, u67, u68, u69, u70, u71, u72, u73, u74, u75, u76], defers := [] }) ∧ r = ([], (i : Int)) ∧ Below w.heap.size w W
  | 2, a, W => ∃ (i j : Nat) (l : List (Int × ByteArray)) (v : Value), (∃ u7 u8 u9 u10 u11 u12 u13 u14 u15 u16 u17 u18 u19 u20 u21 u22 u23 u24 u25 u26 u27 u28 u29 u30 u31 u32 u33 u34 u35 u36 u37 u38 u39 u40 u41 u42 u43 u44 u45 u46 u47 u48 u49 u50 u51 u52 u53 u54 u55 u56 u57 u58 u59 u60 u61 u62 u63 u64 u65 u66 u67 u68 u69 u70 u71 u72 u73 u74 u75 u76 : Value, a = { tmps := #[.string s, undef, .slice none 0 0, .int .i64 0, v, .int .i64 i, .int .i64 j, u7, u8, u9, u10, u11, u12, u13, u14, u15, u16, u17, u18, u19, u20, u21, u22, u23, u24, u25, u26, u27, u28, u29, u30, u31, u32, u33, u34, u35, u36, u37, u38, u39, u40, u41, u42, u43, u44, u45, u46, u47, u48, u49, u50, u51, u52, u53, u54, u55, u56, u57, u58, u59, u60, u61, u62, u63, u64, u65, u66, u67, u68, u69, u70, u71, u72, u73, u74, u75, u76], defers := [] }) ∧ Inv s w r i l v W ∧ l.length ≠ 500 ∧ small (bt s i) = true ∧ i < j ∧ j ≤ s.size ∧ endN s j = endN s (i + 1)
  | 3, a, W => ∃ (i j : Nat) (l : List (Int × ByteArray)) (v : Value), (∃ u7 u8 u9 u10 u11 u12 u13 u14 u15 u16 u17 u18 u19 u20 u21 u22 u23 u24 u25 u26 u27 u28 u29 u30 u31 u32 u33 u34 u35 u36 u37 u38 u39 u40 u41 u42 u43 u44 u45 u46 u47 u48 u49 u50 u51 u52 u53 u54 u55 u56 u57 u58 u59 u60 u61 u62 u63 u64 u65 u66 u67 u68 u69 u70 u71 u72 u73 u74 u75 u76 : Value, a = { tmps := #[.string s, undef, .slice none 0 0, .int .i64 0, v, .int .i64 i, .int .i64 j, u7, u8, u9, u10, u11, u12, u13, u14, u15, u16, u17, u18, u19, u20, u21, u22, u23, u24, u25, u26, u27, u28, u29, u30, u31, u32, u33, u34, u35, u36, u37, u38, u39, u40, u41, u42, u43, u44, u45, u46, u47, u48, u49, u50, u51, u52, u53, u54, u55, u56, u57, u58, u59, u60, u61, u62, u63, u64, u65, u66, u67, u68, u69, u70, u71, u72, u73, u74, u75, u76], defers := [] }) ∧ Inv s w r i l v W ∧ l.length ≠ 500 ∧ markC (bt s i) = true ∧ j = i + 1 ∧ j ≤ s.size
  | _, _, _ => False
def muLex (s : ByteArray) (l : Nat) (a : Act) (_ : World) : Nat := if l = 1 then 0 else 4 * (s.size - (intOf (a.tmps.getD 6 undef)).toNat) + (if l = 0 then 1 else 2)

set_option maxRecDepth 100000 in
set_option maxHeartbeats 4000000 in
theorem implLex_any (s : ByteArray) (w : World) (hs : s.size ≤ 281474976710656) :
    Calls Tryz.prog 153 #[.string s] w (LexTo w (lexF s 0 [])) := by
  obtain ⟨i0, hi, hz0, hz1, hz2⟩ := infoTok2
  obtain ⟨r, hr⟩ : ∃ r, Hid (lexF s 0 [] = r) := ⟨_, rfl⟩
  rw [hr.out]
  have hO0 := World.ownsRow_lit (base := w.heap.size) (e := 174) (size := 2) w #[] 0 (Nat.le_refl _) (Nat.zero_le _) rfl
  have hB0 : Below w.heap.size w (w.alloc (.cells #[] 174)) := (Below.refl _ _).alloc (Nat.le_refl _) _
  have HI0 : Hid (Inv s w r 0 [] (.slice (some ⟨w.heap.size, 0, none⟩) 0 0) (w.alloc (.cells #[] 174))) := ⟨Nat.zero_le _, by simp, by simp, hr.out, hO0, hB0⟩
  clear hO0 hB0
  go_enter Tryz.func153, Tryz.ntmps153
  go_wp2
  refine wp_scope_goto (jLex s w r) (muLex s) ?lab ?pass ?first
  case lab =>
    rintro l a W h
    match l, h with
    | 0, _ => exact ⟨_, rfl⟩
    | 1, _ => exact ⟨_, rfl⟩
    | 2, _ => exact ⟨_, rfl⟩
    | 3, _ => exact ⟨_, rfl⟩
    | n + 4, h => exact h.elim
  case first =>
    intro F
    go_wp2
    refine wp_label ?_
    next K h => exact h _ _ (F 0 _ _ _ rfl ⟨0, [], _, ⟨_, _, _, _, _, _, _, _, _, _, _, _, _, _, _, _, _, _, _, _, _, _, _, _, _, _, _, _, _, _, _, _, _, _, _, _, _, _, _, _, _, _, _, _, _, _, _, _, _, _, _, _, _, _, _, _, _, _, _, _, _, _, _, _, _, _, _, _, _, _, _, rfl⟩, HI0.out⟩)
  case pass =>
    clear HI0
    rintro T l a W X hX hJ hT
    match l, hJ with
    | 0, hJ =>
      obtain ⟨i, l, v, ⟨u5, u7, u8, u9, u10, u11, u12, u13, u14, u15, u16, u17, u18, u19, u20, u21, u22, u23, u24, u25, u26, u27, u28, u29, u30, u31, u32, u33, u34, u35, u36, u37, u38, u39, u40, u41, u42, u43, u44, u45, u46, u47, u48, u49, u50, u51, u52, u53, u54, u55, u56, u57, u58, u59, u60, u61, u62, u63, u64, u65, u66, u67, u68, u69, u70, u71, u72, u73, u74, u75, u76, rfl⟩, hI⟩ := hJ
      obtain rfl := (Code.seq.inj (Option.some.inj hX)).2
      clear hX
      have HT : Hid (∀ l' a' w', jLex s w r l' a' w' → muLex s l' a' w' < muLex s 0 { tmps := #[.string s, undef, .slice none 0 0, .int .i64 0, v, u5, .int .i64 i, u7, u8, u9, u10, u11, u12, u13, u14, u15, u16, u17, u18, u19, u20, u21, u22, u23, u24, u25, u26, u27, u28, u29, u30, u31, u32, u33, u34, u35, u36, u37, u38, u39, u40, u41, u42, u43, u44, u45, u46, u47, u48, u49, u50, u51, u52, u53, u54, u55, u56, u57, u58, u59, u60, u61, u62, u63, u64, u65, u66, u67, u68, u69, u70, u71, u72, u73, u74, u75, u76], defers := [] } W → T l' a' w') := hT
      clear hT
      by_cases hlt : i < s.size
      · have hiz : ((i : Int) == (s.size : Int)) = false := by simp; omega
        have hiz2 : (i : Int) < (s.size : Int) := by omega
        have hc := bt_at hlt
        have hbd := bt_bd s i
        obtain ⟨c, hcc⟩ : ∃ c, Hid (bt s i = c) := ⟨_, rfl⟩
        rw [hcc.out] at hc hbd
        have hS1 := isBlank_any c W
        have hS2 := isLetter_any c W hbd.1 hbd.2
        have hS3 := isMark_any c W
        go_wp2_with (rw [hc])
        refine hS1.mono ?_
        rintro e _ ⟨rfl, rfl⟩
        clear hS1
        cases hb : blank c with
        | true =>
          have HN : Hid (Inv s w r (i + 1) l v W) := ⟨by have := hI.le; omega, hI.ne, hI.few, (lexF_blank hlt (by rw [hcc.out]; exact hb)).symm.trans hI.lex, hI.own, hI.below⟩
          clear hI hS2 hS3
          go_wp2
          go_step3
          refine HT.out 0 _ _ ⟨i + 1, l, v, ⟨_, _, _, _, _, _, _, _, _, _, _, _, _, _, _, _, _, _, _, _, _, _, _, _, _, _, _, _, _, _, _, _, _, _, _, _, _, _, _, _, _, _, _, _, _, _, _, _, _, _, _, _, _, _, _, _, _, _, _, _, _, _, _, _, _, _, _, _, _, _, _, rfl⟩, HN.out⟩ ?_
          simp [muLex, intOf]
          omega
        | false =>
          obtain ⟨a5, c5, rfl⟩ : ∃ a5 c5, v = .slice a5 l.length c5 := by
            rcases hI.own.2 with ⟨e, _⟩ | ⟨g, c', cur, e, _⟩
            · exact absurd e hI.ne
            · exact ⟨_, _, e⟩
          by_cases hl : l.length = 500
          · have hlz : ((l.length : Int) == 500) = true := by simp; omega
            have HR : Hid (r = ([], (i : Int)) ∧ Below w.heap.size w W) := by
              refine ⟨?_, hI.below⟩
              have e := hI.lex
              rw [lexF_no hlt (by rw [hcc.out]; exact hb) (fun h => h.2 hl)] at e
              exact e.symm
            clear hI hS2 hS3 hl
            go_wp2
            go_step3
            refine HT.out 1 _ _ ⟨i, ⟨_, _, _, _, _, _, _, _, _, _, _, _, _, _, _, _, _, _, _, _, _, _, _, _, _, _, _, _, _, _, _, _, _, _, _, _, _, _, _, _, _, _, _, _, _, _, _, _, _, _, _, _, _, _, _, _, _, _, _, _, _, _, _, _, _, _, _, _, _, _, _, _, rfl⟩, HR.out⟩ ?_
            simp [muLex, intOf]
          · have hlz : ((l.length : Int) == 500) = false := by simp; omega
            have HL : Hid (l.length ≠ 500) := hl
            clear hl
            go_wp2_with (rw [hc])
            refine hS2.mono ?_
            rintro e _ ⟨rfl, rfl⟩
            clear hS2
            cases hsm : small c with
            | true =>
              have HM : Hid (small (bt s i) = true) := by show _ = _; rw [hcc.out]; exact hsm
              have HI : Hid (Inv s w r i l (.slice a5 l.length c5) W) := hI
              clear hI hS3
              go_wp2
              go_step3
              refine HT.out 2 _ _ ⟨i, i + 1, l, .slice a5 l.length c5, ⟨_, _, _, _, _, _, _, _, _, _, _, _, _, _, _, _, _, _, _, _, _, _, _, _, _, _, _, _, _, _, _, _, _, _, _, _, _, _, _, _, _, _, _, _, _, _, _, _, _, _, _, _, _, _, _, _, _, _, _, _, _, _, _, _, _, _, _, _, _, _, rfl⟩, HI.out, HL.out, HM.out, by omega, by omega, rfl⟩ ?_
              simp [muLex, intOf]
              omega
            | false =>
              go_wp2_with (rw [hc])
              refine hS3.mono ?_
              rintro e _ ⟨rfl, rfl⟩
              clear hS3
              cases hm : markC c with
              | true =>
                have HM : Hid (markC (bt s i) = true) := by show _ = _; rw [hcc.out]; exact hm
                have HI : Hid (Inv s w r i l (.slice a5 l.length c5) W) := hI
                clear hI
                go_wp2
                go_step3
                refine HT.out 3 _ _ ⟨i, i + 1, l, .slice a5 l.length c5, ⟨_, _, _, _, _, _, _, _, _, _, _, _, _, _, _, _, _, _, _, _, _, _, _, _, _, _, _, _, _, _, _, _, _, _, _, _, _, _, _, _, _, _, _, _, _, _, _, _, _, _, _, _, _, _, _, _, _, _, _, _, _, _, _, _, _, _, _, _, _, _, rfl⟩, HI.out, HL.out, HM.out, rfl, by omega⟩ ?_
                simp [muLex, intOf]
                omega
              | false =>
                have HR : Hid (r = ([], (i : Int)) ∧ Below w.heap.size w W) := by
                  refine ⟨?_, hI.below⟩
                  have e := hI.lex
                  rw [lexF_no hlt (by rw [hcc.out]; exact hb) (fun h => by
                    have h1 := h.1
                    have hk := other_kind (s := s) (i := i) (by rw [hcc.out]; exact hsm)
                    rw [hk.1, hk.2] at h1
                    have h2 : markOk (s.extract i (i + 1)) = true := h1
                    rw [mark_ok hlt, hcc.out, hm] at h2
                    cases h2)] at e
                  exact e.symm
                clear hI
                go_wp2
                go_step3
                refine HT.out 1 _ _ ⟨i, ⟨_, _, _, _, _, _, _, _, _, _, _, _, _, _, _, _, _, _, _, _, _, _, _, _, _, _, _, _, _, _, _, _, _, _, _, _, _, _, _, _, _, _, _, _, _, _, _, _, _, _, _, _, _, _, _, _, _, _, _, _, _, _, _, _, _, _, _, _, _, _, _, _, rfl⟩, HR.out⟩ ?_
                simp [muLex, intOf]
      · have hiz : ((i : Int) == (s.size : Int)) = true := by have := hI.le; simp; omega
        have HR : Hid (LexTo w r (.returned (.tuple #[v, .int .i64 (-1)])) W) := by
          have e := hI.lex
          rw [lexF_end hlt] at e
          rw [← e]
          exact ⟨v, rfl, hI.ne, hI.own, hI.below⟩
        clear hI HT
        go_wp2
        rw [jumps_ret]
        exact bodyPost_ret (v := .tuple #[v, .int .i64 (-1)]) (by simp [results, Tryz.results153, go_sem]) rfl HR.out
    | 1, hJ =>
      obtain ⟨i, ⟨u4, u6, u7, u8, u9, u10, u11, u12, u13, u14, u15, u16, u17, u18, u19, u20, u21, u22, u23, u24, u25, u26, u27, u28, u29, u30, u31, u32, u33, u34, u35, u36, u37, u38, u39, u40, u41, u42, u43, u44, u45, u46, u47, u48, u49, u50, u51, u52, u53, u54, u55, u56, u57, u58, u59, u60, u61, u62, u63, u64, u65, u66, u67, u68, u69, u70, u71, u72, u73, u74, u75, u76, rfl⟩, hr1, hB⟩ := hJ
      obtain rfl := (Code.seq.inj (Option.some.inj hX)).2
      clear hX hT
      have HR : Hid (LexTo w r (.returned (.tuple #[.slice (some ⟨W.heap.size, 0, none⟩) 0 0, .int .i64 (i : Int)])) (W.alloc (.cells #[] 174))) := by
        rw [hr1]
        exact ⟨_, rfl, by simp, World.ownsRow_lit (base := w.heap.size) (e := 174) (size := 2) W #[] 0 hB.size (Nat.zero_le _) rfl, hB.alloc hB.size _⟩
      clear hr1 hB hr
      go_wp2
      rw [jumps_ret]
      exact bodyPost_ret (v := .tuple #[.slice (some ⟨W.heap.size, 0, none⟩) 0 0, .int .i64 (i : Int)]) (by simp [results, Tryz.results153, go_sem]) rfl HR.out
    | 2, hJ =>
      obtain ⟨i, j, l, v, ⟨u7, u8, u9, u10, u11, u12, u13, u14, u15, u16, u17, u18, u19, u20, u21, u22, u23, u24, u25, u26, u27, u28, u29, u30, u31, u32, u33, u34, u35, u36, u37, u38, u39, u40, u41, u42, u43, u44, u45, u46, u47, u48, u49, u50, u51, u52, u53, u54, u55, u56, u57, u58, u59, u60, u61, u62, u63, u64, u65, u66, u67, u68, u69, u70, u71, u72, u73, u74, u75, u76, rfl⟩, hI, hl, hsm, hij0, hjs, hend⟩ := hJ
      obtain rfl := (Code.seq.inj (Option.some.inj hX)).2
      clear hX
      have HT : Hid (∀ l' a' w', jLex s w r l' a' w' → muLex s l' a' w' < muLex s 2 { tmps := #[.string s, undef, .slice none 0 0, .int .i64 0, v, .int .i64 i, .int .i64 j, u7, u8, u9, u10, u11, u12, u13, u14, u15, u16, u17, u18, u19, u20, u21, u22, u23, u24, u25, u26, u27, u28, u29, u30, u31, u32, u33, u34, u35, u36, u37, u38, u39, u40, u41, u42, u43, u44, u45, u46, u47, u48, u49, u50, u51, u52, u53, u54, u55, u56, u57, u58, u59, u60, u61, u62, u63, u64, u65, u66, u67, u68, u69, u70, u71, u72, u73, u74, u75, u76], defers := [] } W → T l' a' w') := hT
      clear hT
      have hlt : i < s.size := by omega
      have HNB : Hid (blank (bt s i) = false) := small_not hsm
      have HSM : Hid (small (bt s i) = true) := hsm
      have HKS : Hid (kindAt s i = 1 ∧ stopAt s i = endN s (i + 1)) := small_kind hsm
      have HEN : Hid (endN s j = endN s (i + 1)) := hend
      clear hsm hend
      have FIN : Hid (endN s (i + 1) = j → tokOk 1 (s.extract i j) = decide (j - i ≤ 8)) := by
        intro e
        have := name_ok hlt HSM.out
        rw [e] at this
        exact this
      by_cases hjl : j < s.size
      · have hjl2 : (j : Int) < (s.size : Int) := by omega
        have hd := bt_at hjl
        have hdb := bt_bd s j
        obtain ⟨d, hdd⟩ : ∃ d, Hid (bt s j = d) := ⟨_, rfl⟩
        rw [hdd.out] at hd hdb
        have hS := isLetter_any d W hdb.1 hdb.2
        have hD := isDigit_any d W hdb.1 hdb.2
        go_wp2_with (rw [hd])
        refine hS.mono ?_
        rintro e _ ⟨rfl, rfl⟩
        clear hS
        cases hs2 : small d with
        | true =>
          have HN : Hid (endN s (j + 1) = endN s (i + 1)) := by show _ = _; rw [← HEN.out]; exact (endN_step hjl (by rw [hdd.out]; unfold inName; rw [hs2]; rfl)).symm
          have HI : Hid (Inv s w r i l v W) := hI
          have HL : Hid (l.length ≠ 500) := hl
          clear hI hD hl FIN
          go_wp2
          go_step3
          refine HT.out 2 _ _ ⟨i, j + 1, l, v, ⟨_, _, _, _, _, _, _, _, _, _, _, _, _, _, _, _, _, _, _, _, _, _, _, _, _, _, _, _, _, _, _, _, _, _, _, _, _, _, _, _, _, _, _, _, _, _, _, _, _, _, _, _, _, _, _, _, _, _, _, _, _, _, _, _, _, _, _, _, _, _, rfl⟩, HI.out, HL.out, HSM.out, by omega, by omega, HN.out⟩ ?_
          simp [muLex, intOf]
          omega
        | false =>
          go_wp2_with (rw [hd])
          refine hD.mono ?_
          rintro e _ ⟨rfl, rfl⟩
          clear hD
          cases hd2 : digit d with
          | true =>
            have HN : Hid (endN s (j + 1) = endN s (i + 1)) := by show _ = _; rw [← HEN.out]; exact (endN_step hjl (by rw [hdd.out]; unfold inName; rw [hd2]; simp)).symm
            have HI : Hid (Inv s w r i l v W) := hI
            have HL : Hid (l.length ≠ 500) := hl
            clear hI hl FIN
            go_wp2
            go_step3
            refine HT.out 2 _ _ ⟨i, j + 1, l, v, ⟨_, _, _, _, _, _, _, _, _, _, _, _, _, _, _, _, _, _, _, _, _, _, _, _, _, _, _, _, _, _, _, _, _, _, _, _, _, _, _, _, _, _, _, _, _, _, _, _, _, _, _, _, _, _, _, _, _, _, _, _, _, _, _, _, _, _, _, _, _, _, rfl⟩, HI.out, HL.out, HSM.out, by omega, by omega, HN.out⟩ ?_
            simp [muLex, intOf]
            omega
          | false =>
            have HE : Hid (endN s (i + 1) = j) := by show _ = _; rw [← HEN.out]; exact endN_stop (fun h => by have := h.2; rw [hdd.out] at this; unfold inName at this; rw [hs2, hd2] at this; cases this)
            clear hs2 hd2
            have HOK0 : Hid (tokOk 1 (s.extract i j) = decide (j - i ≤ 8)) := FIN.out HE.out
            rw [HE.out] at HKS
            clear FIN HEN
            by_cases h8 : j - i ≤ 8
            · have h8z : ¬ (8 : Int) < (j : Int) - (i : Int) := by omega
              have HOK : Hid (tokOk 1 (s.extract i j) = true) := by show _ = _; rw [HOK0.out]; exact decide_eq_true h8
              clear HOK0
              have HNX : Hid (lexF s j (l ++ [(1, s.extract i j)]) = r) := by
                show _ = _
                rw [← hI.lex, lexF_tok hlt HNB.out (by rw [HKS.out.1, HKS.out.2]; exact HOK.out) hl, HKS.out.1, HKS.out.2]
              have hij : (i : Int) ≤ (j : Int) := by omega
              have hjz : (j : Int) ≤ (s.size : Int) := by omega
              have hsub : (s.extract i j).size ≤ 281474976710656 := by rw [ByteArray.size_extract]; omega
              obtain ⟨sub, hsb⟩ : ∃ sub, Hid (s.extract i j = sub) := ⟨_, rfl⟩
              rw [hsb.out] at hsub HOK HNX
              have hC := strClone_tok sub W hsub
              have hown := hI.own
              have hB := hI.below
              have HNE : Hid (v ≠ .slice none 0 0) := hI.ne
              have HL5 : Hid (l.length < 500) := by show _ < _; have := hI.few; omega
              obtain ⟨a5, c5, rfl⟩ : ∃ a5 c5, v = .slice a5 l.length c5 := by
                rcases hown.2 with ⟨e, _⟩ | ⟨g, c', cur, e, _⟩
                · exact absurd e HNE.out
                · exact ⟨_, _, e⟩
              clear hI HOK
              go_wp2_with (rw [hsb.out])
              refine hC.mono ?_
              rintro e w4 ⟨rfl, hb4⟩
              have hown4 := own_below2 hown hb4
              have hB4 := hB.trans (hb4.mono hB.size)
              have hcl := cells_tok w4 1 sub
              have hs4 := hB4.size
              have hl5 := HL5.out
              clear hC hown hB hb4 hl
              go_wp2_with (at_builtin; refine wpList_append_own _ rfl (.tmp 57) (.tmp 64) 194 rfl w.heap.size 174 i0 (.agg #[.int .i64 0, .string ⟨#[]⟩]) 2 24 Tryz.underlying194 hi hz0 hz1 hz2 rfl (by decide) (.slice a5 l.length c5) _ _ rfl (own_below2 hown4 ((Below.refl _ _).alloc (Nat.le_refl _) _)) ⟨w4.heap.size, 0, none⟩ 1 1 [.int .i64 1, .string sub] rfl rfl hcl (one_tok _ _) (by unfold maxLen; omega) (by omega) (by simp; omega) ?_; intro v5 w5 hown5 hgr5 hnil5)
              have hb5 : Below w4.heap.size w4 (w4.alloc (.cells #[.int .i64 1, .string sub] 174)) := (Below.refl _ _).alloc (Nat.le_refl _) _
              have HI5 : Hid (Inv s w r j (l ++ [((1 : Int), sub)]) v5 w5) := by
                refine ⟨by omega, fun e => HNE.out (hnil5.1 e).1, by rw [List.length_append]; simp; omega, HNX.out, by rw [rowL_snoc, List.length_append]; exact hown5, ?_⟩
                exact (hB4.trans (hb5.mono hs4)).grown hgr5 (by have := (hB4.trans (hb5.mono hs4)).size; exact this) (fun j e => ((own_below2 hown4 hb5).lt j e).1)
              clear hown4 hown5 hgr5 hnil5 hcl hB4 hb5
              go_wp2
              go_step3
              refine HT.out 0 _ _ ⟨j, l ++ [(1, sub)], v5, ⟨_, _, _, _, _, _, _, _, _, _, _, _, _, _, _, _, _, _, _, _, _, _, _, _, _, _, _, _, _, _, _, _, _, _, _, _, _, _, _, _, _, _, _, _, _, _, _, _, _, _, _, _, _, _, _, _, _, _, _, _, _, _, _, _, _, _, _, _, _, _, _, rfl⟩, HI5.out⟩ ?_
              simp [muLex, intOf]
            · have h8z : (8 : Int) < (j : Int) - (i : Int) := by omega
              have HR : Hid (r = ([], (i : Int)) ∧ Below w.heap.size w W) := by
                refine ⟨?_, hI.below⟩
                have e := hI.lex
                rw [lexF_no hlt HNB.out (fun h => by have h1 := h.1; rw [HKS.out.1, HKS.out.2, HOK0.out] at h1; exact h8 (of_decide_eq_true h1))] at e
                exact e.symm
              clear hI HOK0 hl
              go_wp2
              go_step3
              refine HT.out 1 _ _ ⟨i, ⟨_, _, _, _, _, _, _, _, _, _, _, _, _, _, _, _, _, _, _, _, _, _, _, _, _, _, _, _, _, _, _, _, _, _, _, _, _, _, _, _, _, _, _, _, _, _, _, _, _, _, _, _, _, _, _, _, _, _, _, _, _, _, _, _, _, _, _, _, _, _, _, _, rfl⟩, HR.out⟩ ?_
              simp [muLex, intOf]
      · have hjl2 : ¬ (j : Int) < (s.size : Int) := by omega
        have HE : Hid (endN s (i + 1) = j) := by show _ = _; rw [← HEN.out]; exact endN_stop (fun h => hjl h.1)
        have HOK0 : Hid (tokOk 1 (s.extract i j) = decide (j - i ≤ 8)) := FIN.out HE.out
        rw [HE.out] at HKS
        clear FIN HEN
        by_cases h8 : j - i ≤ 8
        · have h8z : ¬ (8 : Int) < (j : Int) - (i : Int) := by omega
          have HOK : Hid (tokOk 1 (s.extract i j) = true) := by show _ = _; rw [HOK0.out]; exact decide_eq_true h8
          clear HOK0
          have HNX : Hid (lexF s j (l ++ [(1, s.extract i j)]) = r) := by
            show _ = _
            rw [← hI.lex, lexF_tok hlt HNB.out (by rw [HKS.out.1, HKS.out.2]; exact HOK.out) hl, HKS.out.1, HKS.out.2]
          have hij : (i : Int) ≤ (j : Int) := by omega
          have hjz : (j : Int) ≤ (s.size : Int) := by omega
          have hsub : (s.extract i j).size ≤ 281474976710656 := by rw [ByteArray.size_extract]; omega
          obtain ⟨sub, hsb⟩ : ∃ sub, Hid (s.extract i j = sub) := ⟨_, rfl⟩
          rw [hsb.out] at hsub HOK HNX
          have hC := strClone_tok sub W hsub
          have hown := hI.own
          have hB := hI.below
          have HNE : Hid (v ≠ .slice none 0 0) := hI.ne
          have HL5 : Hid (l.length < 500) := by show _ < _; have := hI.few; omega
          obtain ⟨a5, c5, rfl⟩ : ∃ a5 c5, v = .slice a5 l.length c5 := by
            rcases hown.2 with ⟨e, _⟩ | ⟨g, c', cur, e, _⟩
            · exact absurd e HNE.out
            · exact ⟨_, _, e⟩
          clear hI HOK
          go_wp2_with (rw [hsb.out])
          refine hC.mono ?_
          rintro e w4 ⟨rfl, hb4⟩
          have hown4 := own_below2 hown hb4
          have hB4 := hB.trans (hb4.mono hB.size)
          have hcl := cells_tok w4 1 sub
          have hs4 := hB4.size
          have hl5 := HL5.out
          clear hC hown hB hb4 hl
          go_wp2_with (at_builtin; refine wpList_append_own _ rfl (.tmp 57) (.tmp 64) 194 rfl w.heap.size 174 i0 (.agg #[.int .i64 0, .string ⟨#[]⟩]) 2 24 Tryz.underlying194 hi hz0 hz1 hz2 rfl (by decide) (.slice a5 l.length c5) _ _ rfl (own_below2 hown4 ((Below.refl _ _).alloc (Nat.le_refl _) _)) ⟨w4.heap.size, 0, none⟩ 1 1 [.int .i64 1, .string sub] rfl rfl hcl (one_tok _ _) (by unfold maxLen; omega) (by omega) (by simp; omega) ?_; intro v5 w5 hown5 hgr5 hnil5)
          have hb5 : Below w4.heap.size w4 (w4.alloc (.cells #[.int .i64 1, .string sub] 174)) := (Below.refl _ _).alloc (Nat.le_refl _) _
          have HI5 : Hid (Inv s w r j (l ++ [((1 : Int), sub)]) v5 w5) := by
            refine ⟨by omega, fun e => HNE.out (hnil5.1 e).1, by rw [List.length_append]; simp; omega, HNX.out, by rw [rowL_snoc, List.length_append]; exact hown5, ?_⟩
            exact (hB4.trans (hb5.mono hs4)).grown hgr5 (by have := (hB4.trans (hb5.mono hs4)).size; exact this) (fun j e => ((own_below2 hown4 hb5).lt j e).1)
          clear hown4 hown5 hgr5 hnil5 hcl hB4 hb5
          go_wp2
          go_step3
          refine HT.out 0 _ _ ⟨j, l ++ [(1, sub)], v5, ⟨_, _, _, _, _, _, _, _, _, _, _, _, _, _, _, _, _, _, _, _, _, _, _, _, _, _, _, _, _, _, _, _, _, _, _, _, _, _, _, _, _, _, _, _, _, _, _, _, _, _, _, _, _, _, _, _, _, _, _, _, _, _, _, _, _, _, _, _, _, _, _, rfl⟩, HI5.out⟩ ?_
          simp [muLex, intOf]
        · have h8z : (8 : Int) < (j : Int) - (i : Int) := by omega
          have HR : Hid (r = ([], (i : Int)) ∧ Below w.heap.size w W) := by
            refine ⟨?_, hI.below⟩
            have e := hI.lex
            rw [lexF_no hlt HNB.out (fun h => by have h1 := h.1; rw [HKS.out.1, HKS.out.2, HOK0.out] at h1; exact h8 (of_decide_eq_true h1))] at e
            exact e.symm
          clear hI HOK0 hl
          go_wp2
          go_step3
          refine HT.out 1 _ _ ⟨i, ⟨_, _, _, _, _, _, _, _, _, _, _, _, _, _, _, _, _, _, _, _, _, _, _, _, _, _, _, _, _, _, _, _, _, _, _, _, _, _, _, _, _, _, _, _, _, _, _, _, _, _, _, _, _, _, _, _, _, _, _, _, _, _, _, _, _, _, _, _, _, _, _, _, rfl⟩, HR.out⟩ ?_
          simp [muLex, intOf]
    | 3, hJ =>
      obtain ⟨i, j, l, v, ⟨u7, u8, u9, u10, u11, u12, u13, u14, u15, u16, u17, u18, u19, u20, u21, u22, u23, u24, u25, u26, u27, u28, u29, u30, u31, u32, u33, u34, u35, u36, u37, u38, u39, u40, u41, u42, u43, u44, u45, u46, u47, u48, u49, u50, u51, u52, u53, u54, u55, u56, u57, u58, u59, u60, u61, u62, u63, u64, u65, u66, u67, u68, u69, u70, u71, u72, u73, u74, u75, u76, rfl⟩, hI, hl, hmk, hji, hjs⟩ := hJ
      obtain rfl := (Code.seq.inj (Option.some.inj hX)).2
      clear hX
      have HT : Hid (∀ l' a' w', jLex s w r l' a' w' → muLex s l' a' w' < muLex s 3 { tmps := #[.string s, undef, .slice none 0 0, .int .i64 0, v, .int .i64 i, .int .i64 j, u7, u8, u9, u10, u11, u12, u13, u14, u15, u16, u17, u18, u19, u20, u21, u22, u23, u24, u25, u26, u27, u28, u29, u30, u31, u32, u33, u34, u35, u36, u37, u38, u39, u40, u41, u42, u43, u44, u45, u46, u47, u48, u49, u50, u51, u52, u53, u54, u55, u56, u57, u58, u59, u60, u61, u62, u63, u64, u65, u66, u67, u68, u69, u70, u71, u72, u73, u74, u75, u76], defers := [] } W → T l' a' w') := hT
      clear hT
      have hlt : i < s.size := by omega
      obtain ⟨hns, hnb⟩ := mark_not hmk
      have HNB : Hid (blank (bt s i) = false) := hnb
      have HKS : Hid (kindAt s i = 2 ∧ stopAt s i = j) := by rw [hji]; exact other_kind hns
      have HOK : Hid (tokOk 2 (s.extract i j) = true) := by rw [hji]; exact (mark_ok hlt).trans hmk
      have hj1 : i < j := by omega
      clear hns hnb hmk hji
      have HNX : Hid (lexF s j (l ++ [(2, s.extract i j)]) = r) := by
        show _ = _
        rw [← hI.lex, lexF_tok hlt HNB.out (by rw [HKS.out.1, HKS.out.2]; exact HOK.out) hl, HKS.out.1, HKS.out.2]
      have hij : (i : Int) ≤ (j : Int) := by omega
      have hjz : (j : Int) ≤ (s.size : Int) := by omega
      have hsub : (s.extract i j).size ≤ 281474976710656 := by rw [ByteArray.size_extract]; omega
      obtain ⟨sub, hsb⟩ : ∃ sub, Hid (s.extract i j = sub) := ⟨_, rfl⟩
      rw [hsb.out] at hsub HOK HNX
      have hC := strClone_tok sub W hsub
      have hown := hI.own
      have hB := hI.below
      have HNE : Hid (v ≠ .slice none 0 0) := hI.ne
      have HL5 : Hid (l.length < 500) := by show _ < _; have := hI.few; omega
      obtain ⟨a5, c5, rfl⟩ : ∃ a5 c5, v = .slice a5 l.length c5 := by
        rcases hown.2 with ⟨e, _⟩ | ⟨g, c', cur, e, _⟩
        · exact absurd e HNE.out
        · exact ⟨_, _, e⟩
      clear hI HOK
      go_wp2_with (rw [hsb.out])
      refine hC.mono ?_
      rintro e w4 ⟨rfl, hb4⟩
      have hown4 := own_below2 hown hb4
      have hB4 := hB.trans (hb4.mono hB.size)
      have hcl := cells_tok w4 2 sub
      have hs4 := hB4.size
      have hl5 := HL5.out
      clear hC hown hB hb4 hl
      go_wp2_with (at_builtin; refine wpList_append_own _ rfl (.tmp 66) (.tmp 73) 194 rfl w.heap.size 174 i0 (.agg #[.int .i64 0, .string ⟨#[]⟩]) 2 24 Tryz.underlying194 hi hz0 hz1 hz2 rfl (by decide) (.slice a5 l.length c5) _ _ rfl (own_below2 hown4 ((Below.refl _ _).alloc (Nat.le_refl _) _)) ⟨w4.heap.size, 0, none⟩ 1 1 [.int .i64 2, .string sub] rfl rfl hcl (one_tok _ _) (by unfold maxLen; omega) (by omega) (by simp; omega) ?_; intro v5 w5 hown5 hgr5 hnil5)
      have hb5 : Below w4.heap.size w4 (w4.alloc (.cells #[.int .i64 2, .string sub] 174)) := (Below.refl _ _).alloc (Nat.le_refl _) _
      have HI5 : Hid (Inv s w r j (l ++ [((2 : Int), sub)]) v5 w5) := by
        refine ⟨by omega, fun e => HNE.out (hnil5.1 e).1, by rw [List.length_append]; simp; omega, HNX.out, by rw [rowL_snoc, List.length_append]; exact hown5, ?_⟩
        exact (hB4.trans (hb5.mono hs4)).grown hgr5 (by have := (hB4.trans (hb5.mono hs4)).size; exact this) (fun j e => ((own_below2 hown4 hb5).lt j e).1)
      clear hown4 hown5 hgr5 hnil5 hcl hB4 hb5
      go_wp2
      go_step3
      refine HT.out 0 _ _ ⟨j, l ++ [(2, sub)], v5, ⟨_, _, _, _, _, _, _, _, _, _, _, _, _, _, _, _, _, _, _, _, _, _, _, _, _, _, _, _, _, _, _, _, _, _, _, _, _, _, _, _, _, _, _, _, _, _, _, _, _, _, _, _, _, _, _, _, _, _, _, _, _, _, _, _, _, _, _, _, _, _, _, rfl⟩, HI5.out⟩ ?_
      simp [muLex, intOf]
    | n + 4, h => exact h.elim
end Go.Proofs.YtkakkjnbhklfpaaGreatDoor

/-
  The program's TokenOk: what Lex makes of the token's own text, alone.
-/
namespace Go.Proofs.YtkakkjnbhklfpaaGreatDoor
open Go.RowKit
set_option maxRecDepth 4000

theorem eqTok_run (k : Int) (s : ByteArray) (k' : Int) (s' : ByteArray) (W : World) :
    (binOp .eql 174 (.agg #[.int .i64 k, .string s]) (.agg #[.int .i64 k', .string s'])).run Tryz.prog W = .ok (.bool (eqT k s k' s')) W := by
  by_cases h1 : k = k' <;> by_cases h3 : s = s' <;> simp [go_sem, h1, h3, eqT, bytes_inj]

set_option maxHeartbeats 2000000 in
theorem implTokenOk_any (k : Int) (s : ByteArray) (w : World) (hs : s.size ≤ 281474976710656) :
    Calls Tryz.prog 129 #[.agg #[.int .i64 k, .string s]] w fun e w' => e = .returned (.bool (tokOk k s)) ∧ Below w.heap.size w w' := by
  have hL := fun W => implLex_any s W hs
  have HA : Hid ((lexF s 0 []).1.length = 1 → tokOk k s = eqT (tk (lexF s 0 []).1 0) (ts (lexF s 0 []).1 0) k s) := tok_self
  have HN : Hid ((lexF s 0 []).1.length ≠ 1 → tokOk k s = false) := tok_none
  obtain ⟨r, hr⟩ : ∃ r, Hid (lexF s 0 [] = r) := ⟨_, rfl⟩
  rw [hr.out] at HA HN
  simp only [hr.out] at hL
  go_enter Tryz.func129, Tryz.ntmps129
  go_wp2_with fail
  refine (hL _).mono ?_
  rintro e w1 ⟨v, rfl, hne, hown, hB⟩
  rw [rowL_K] at hown
  obtain ⟨a, c, rfl, hv, -⟩ := tview_of_own hown
  have hC := hB.mono (show w.heap.size + 1 ≤ _ by simp)
  have c0 : w1.cell? ⟨w.heap.size, 0, none⟩ = some (.int .i64 k) := by rw [hC.cell (by simp)]; simp [go_sem]
  have c1 : w1.cell? ⟨w.heap.size, 1, none⟩ = some (.string s) := by rw [hC.cell (by simp)]; simp [go_sem]
  have HB : Hid (Below w.heap.size w w1) := ((Below.refl _ _).alloc (Nat.le_refl _) _).trans (hB.mono (by simp))
  clear hL hown hB hC hne
  by_cases h1 : r.1.length = 1
  · have HE0 := HA.out h1
    have hd : ((r.1.length : Int) == 1) = true := by simp; omega
    obtain ⟨b, off, rfl, hb, hcs⟩ := hv.cells (by omega)
    obtain ⟨x0, x1⟩ := hcs 0 (by omega)
    simp only [Nat.zero_mul, Nat.add_zero] at x0 x1
    rw [h1]
    have hq := eqTok_run (tk r.1 0) (ts r.1 0) k s
    clear HA HN hv hcs h1 hd
    generalize tk r.1 0 = p0 at *
    generalize ts r.1 0 = p1 at *
    have HE : Hid (tokOk k s = eqT p0 p1 k s) := HE0
    clear HE0
    go_wp2_with fail
    go_quiet (fail)
    go_wp2
    go_ret
    exact ⟨by rw [HE.out]; rfl, HB.out.trans ⟨rfl, rfl, rfl, Nat.le_refl _, fun _ _ => rfl⟩⟩
  · have HE : Hid (tokOk k s = false) := HN.out h1
    have hd : ((r.1.length : Int) == 1) = false := by simp; omega
    clear HA HN hv
    go_wp2_with fail
    go_quiet (fail)
    go_wp2
    go_ret
    exact ⟨by rw [HE.out]; rfl, HB.out.trans ⟨rfl, rfl, rfl, Nat.le_refl _, fun _ _ => rfl⟩⟩
end Go.Proofs.YtkakkjnbhklfpaaGreatDoor

/-
  slices.Grow of no texts, for n of them: a row of the call's own with room.
-/
namespace Go.Proofs.YtkakkjnbhklfpaaGreatDoor
open Go.RowKit
set_option maxRecDepth 4000

set_option maxHeartbeats 2000000 in
theorem growStr_any (n : Nat) (w : World) (h0 : 0 < n) (hn : n ≤ 4194304) :
    Calls Tryz.prog 127 #[.slice none 0 0, .int .i64 n] w fun e w' => ∃ g c, e = .returned (.slice (some ⟨g, 0, none⟩) 0 c) ∧ w'.ownsRow w.heap.size 9 1 (.slice (some ⟨g, 0, none⟩) 0 c) 0 [] ∧ Below w.heap.size w w' := by
  obtain ⟨i0, hi, hz0, hz1, hz2⟩ := infoStr
  have h1 : ¬ ((n : Int) < 0) := by omega
  have h2 : wrap64 ((0 : Int) - (0 : Int)) = 0 := by unfold wrap64; omega
  have h3 : wrap64 ((n : Int) - 0) = (n : Int) := by unfold wrap64; omega
  have h4 : (n : Int) > 0 := by omega
  have hrz := fun ty => Lib.run_append_nil_zeros (P := Tryz.prog) w 116 3 ty 9 i0 (.string ⟨#[]⟩) .i64 .i64 Tryz.underlying116 Tryz.underlying3 hi hz0 n h0 (by omega) (by omega) (by rw [hz2]; omega)
  have hG1 : n ≤ grownCap w n 0 9 := grownCap_ge w _ _ _
  have hG2 : grownCap w n 0 9 ≤ maxLen := grownCap_le_maxLen w n 0 9 (by unfold maxLen; omega)
  obtain ⟨G, hG⟩ : ∃ G, G = grownCap w n 0 9 := ⟨_, rfl⟩
  rw [← hG] at hG1 hG2
  simp only [← hG] at hrz
  have hzc : (Value.string ⟨#[]⟩).cells.size = 1 := rfl
  have HS : Hid ((Builtin.zeroCells (Value.string ⟨#[]⟩).cells n ++ Builtin.zeroCells (Value.string ⟨#[]⟩).cells (G - n)).size = G) := by
    show _ = _
    simp [Builtin.zeroCells, Value.cells]
    omega
  obtain ⟨cs, hcs⟩ : ∃ cs, Hid (Builtin.zeroCells (Value.string ⟨#[]⟩).cells n ++ Builtin.zeroCells (Value.string ⟨#[]⟩).cells (G - n) = cs) := ⟨_, rfl⟩
  rw [hcs.out] at HS
  simp only [hcs.out] at hrz
  have HB : Hid (Below w.heap.size w (w.drew.alloc (.cells cs 9))) := ((Below.refl _ _).drew).alloc (by simp) _
  have HO : Hid ((w.drew.alloc (.cells cs 9)).ownsRow w.heap.size 9 1 (.slice (some ⟨w.heap.size, 0, none⟩) 0 G) 0 []) := by
    refine ⟨rfl, .inr ⟨w.heap.size, G, cs, rfl, Nat.le_refl _, ?_, Nat.zero_le _, hG2, by rw [HS.out]; omega, by simp⟩⟩
    exact heap_alloc_new w.drew (.cells cs 9)
  have hGz : (0 : Int) ≤ (G : Int) := by omega
  unfold maxLen at hG2
  clear hcs hz0 hz1 hz2 hi hG hzc
  go_enter Tryz.func127, Tryz.ntmps127
  go_wp2_with (at_builtin; refine Lib.wpList_append_run _ rfl _ _ _ _ rfl _ _ rfl rfl _ _ (hrz _) ?_)
  go_ret
  exact ⟨_, _, rfl, HO.out, HB.out⟩
end Go.Proofs.YtkakkjnbhklfpaaGreatDoor

/-
  slices.Concat of three rows of texts: a row of the call's own, one behind the other.
-/
namespace Go.Proofs.YtkakkjnbhklfpaaGreatDoor
open Go.RowKit
set_option maxRecDepth 4000

theorem rowS_len (f : Nat → ByteArray) (n : Nat) : (rowG (encS f) n).length = n := by
  rw [rowG_len (c := 1) (fun _ => rfl)]; omega
theorem rowS_get {f : Nat → ByteArray} {n j : Nat} {u : Value} (h : (rowG (encS f) n)[j]? = some u) : j < n ∧ u = .string (f j) := by
  have hj : j < n := by
    have := (List.getElem?_eq_some_iff.1 h).1
    rwa [rowS_len] at this
  have h1 := rowG_get (enc := encS f) (c := 1) (fun _ => rfl) n j 0 hj (by decide)
  rw [Nat.mul_one, Nat.add_zero, h] at h1
  exact ⟨hj, (Option.some.inj h1)⟩
theorem rowS_one {f : Nat → ByteArray} {n : Nat} : ∀ u ∈ rowG (encS f) n, u.oneCell' = true := by
  intro u hu
  obtain ⟨j, hj⟩ := List.mem_iff_getElem?.1 hu
  obtain ⟨_, rfl⟩ := rowS_get hj
  rfl
/-- What is appended, where it lies. -/
theorem sview_cells {W : World} {g n c : Nat} {f : Nat → ByteArray} (h : SView W (some ⟨g, 0, none⟩) n c f) : ∀ j u, (rowG (encS f) n)[j]? = some u → W.cell? ((⟨g, 0, none⟩ : Addr).add j) = some u := by
  intro j u hj
  obtain ⟨hlt, rfl⟩ := rowS_get hj
  obtain ⟨b, off, e, _, hc⟩ := h.cells (by omega)
  cases e
  have := hc j hlt
  have e : (⟨g, 0, none⟩ : Addr).add j = ⟨g, 0 + j, none⟩ := by unfold Addr.add; split <;> simp_all
  rw [e]; exact this
theorem sview_of_row {W : World} {base g n c : Nat} {f : Nat → ByteArray} (h : W.ownsRow base 9 1 (.slice (some ⟨g, 0, none⟩) n c) n (rowG (encS f) n)) : SView W (some ⟨g, 0, none⟩) n c f := by
  obtain ⟨a, k, e, hv, _⟩ := sview_of_own h
  cases e
  exact hv

/-- Two rows, one behind the other. -/
def catF (f0 : Nat → ByteArray) (n0 : Nat) (f1 : Nat → ByteArray) (i : Nat) : ByteArray := if i < n0 then f0 i else f1 (i - n0)
theorem rowS_cat (f0 : Nat → ByteArray) (n0 : Nat) (f1 : Nat → ByteArray) : ∀ n1, rowG (encS f0) n0 ++ rowG (encS f1) n1 = rowG (encS (catF f0 n0 f1)) (n0 + n1)
  | 0 => by
    rw [rowG, List.append_nil]
    exact rowG_congr (fun i hi => by simp [encS, catF, hi])
  | n1 + 1 => by
    rw [rowG, ← List.append_assoc, rowS_cat f0 n0 f1 n1]
    show _ = rowG (encS (catF f0 n0 f1)) (n0 + n1) ++ encS (catF f0 n0 f1) (n0 + n1)
    simp [encS, catF, show ¬ n0 + n1 < n0 by omega]
/-- A row that was put behind a row of the call's own. -/
theorem grown9 {w W W' : World} {T c n m g k : Nat} {v : Value} {xs ys : List Value} (hb : Below w.heap.size w W) (hO : W.ownsRow w.heap.size T c (.slice (some ⟨g, 0, none⟩) n k) n xs) (hO2 : W'.ownsRow w.heap.size T c v m ys) (hgr : W.grownBy W' (Value.slice (some ⟨g, 0, none⟩) n k).ownBlock)
    (hnil : ¬ v = .slice none 0 0) : (∃ g' k', v = .slice (some ⟨g', 0, none⟩) m k') ∧ Below w.heap.size w W' := by
  refine ⟨?_, hb.grown hgr hb.size (own_ge9 hO)⟩
  rcases hO2.2 with ⟨e, _⟩ | ⟨g', k', _, e, _⟩
  · exact absurd e hnil
  · exact ⟨g', k', e⟩

set_option maxHeartbeats 4000000 in
theorem concat3_any (B g0 n0 c0 g1 n1 c1 g2 n2 c2 : Nat) (f0 f1 f2 : Nat → ByteArray) (w : World)
    (x0 : w.cell? ⟨B, 0, none⟩ = some (.slice (some ⟨g0, 0, none⟩) n0 c0)) (x1 : w.cell? ⟨B, 1, none⟩ = some (.slice (some ⟨g1, 0, none⟩) n1 c1)) (x2 : w.cell? ⟨B, 2, none⟩ = some (.slice (some ⟨g2, 0, none⟩) n2 c2)) (hB : B < w.heap.size)
    (v0 : SView w (some ⟨g0, 0, none⟩) n0 c0 f0) (v1 : SView w (some ⟨g1, 0, none⟩) n1 c1 f1) (v2 : SView w (some ⟨g2, 0, none⟩) n2 c2 f2) (h0 : 0 < n0) (l0 : n0 ≤ 1048576) (l1 : n1 ≤ 1048576) (l2 : n2 ≤ 1048576) :
    Calls Tryz.prog 93 #[.slice (some ⟨B, 0, none⟩) 3 3] w fun e w' => ∃ g c, e = .returned (.slice (some ⟨g, 0, none⟩) (n0 + n1 + n2) c) ∧ w'.ownsRow w.heap.size 9 1 (.slice (some ⟨g, 0, none⟩) (n0 + n1 + n2) c) (n0 + n1 + n2) (rowG (encS f0) n0 ++ rowG (encS f1) n1 ++ rowG (encS f2) n2) ∧ Below w.heap.size w w' := by
  obtain ⟨i0, hi, hz0, hz1, hz2⟩ := infoStr
  have hG := growStr_any (n0 + n1 + n2) w (by omega) (by omega)
  have e1 : ((n0 + n1 + n2 : Nat) : Int) = (n0 : Int) + n1 + n2 := by omega
  rw [e1] at hG
  have k1 : ¬ ((0 : Int) + n0 < 0) := by omega
  have k2 : ¬ ((n0 : Int) + n1 < 0) := by omega
  have k3 : ¬ ((n0 : Int) + n1 + n2 < 0) := by omega
  go_enter Tryz.func93, Tryz.ntmps93
  go_wp2
  refine wp_loop_rounds 4 ?_
  rw [rounds_succ]
  go_wp2
  rw [rounds_succ]
  go_wp2
  rw [rounds_succ]
  go_wp2
  rw [rounds_succ]
  go_wp2_with fail
  refine hG.mono ?_
  rintro e w1 ⟨g, c, rfl, hO1, hb1⟩
  have s1 := hb1.size
  rw [← hb1.cell (p := ⟨B, 0, none⟩) hB] at x0
  rw [← hb1.cell (p := ⟨B, 1, none⟩) hB] at x1
  rw [← hb1.cell (p := ⟨B, 2, none⟩) hB] at x2
  have HX : Hid (w1.cell? ⟨B, 1, none⟩ = some (.slice (some ⟨g1, 0, none⟩) n1 c1) ∧ w1.cell? ⟨B, 2, none⟩ = some (.slice (some ⟨g2, 0, none⟩) n2 c2)) := ⟨x1, x2⟩
  have hV0 := sview_cells (v0.below hb1)
  clear hG k1 k2 k3 x1 x2
  go_wp2
  refine wp_loop_rounds 4 ?_
  rw [rounds_succ]
  go_wp2_with (at_builtin; refine wpList_append_own _ rfl (.tmp 31) (.tmp 32) 116 rfl w.heap.size 9 i0 (.string ⟨#[]⟩) 1 16 Tryz.underlying116 hi hz0 hz1 hz2 rfl (by decide) _ _ _ rfl hO1 ⟨g0, 0, none⟩ n0 c0 (rowG (encS f0) n0) rfl (by rw [rowS_len]; omega) hV0 rowS_one (by unfold maxLen; omega) (by omega) (by omega) ?_)
  intro u2 w2 hO2 hgr2 hnil2
  obtain ⟨⟨g2', k2', rfl⟩, hb2⟩ := grown9 hb1 hO1 hO2 hgr2 hnil2
  have s2 := hb2.size
  have x1 : w2.cell? ⟨B, 1, none⟩ = some (.slice (some ⟨g1, 0, none⟩) n1 c1) := by rw [hb2.cell (p := ⟨B, 1, none⟩) hB, ← hb1.cell (p := ⟨B, 1, none⟩) hB]; exact HX.out.1
  have hV1 := sview_cells (v1.below hb2)
  have HX2 : Hid (w.cell? ⟨B, 2, none⟩ = some (.slice (some ⟨g2, 0, none⟩) n2 c2)) := by
    have := HX.out.2
    rw [hb1.cell (p := ⟨B, 2, none⟩) hB] at this
    exact this
  clear hV0 hO1 hgr2 hnil2 x0 HX hb1 s1 v0 v1
  go_wp2
  rw [rounds_succ]
  go_wp2_with (at_builtin; refine wpList_append_own _ rfl (.tmp 31) (.tmp 32) 116 rfl w.heap.size 9 i0 (.string ⟨#[]⟩) 1 16 Tryz.underlying116 hi hz0 hz1 hz2 rfl (by decide) _ _ _ rfl hO2 ⟨g1, 0, none⟩ n1 c1 (rowG (encS f1) n1) rfl (by rw [rowS_len]; omega) hV1 rowS_one (by unfold maxLen; omega) (by omega) (by omega) ?_)
  intro u3 w3 hO3 hgr3 hnil3
  obtain ⟨⟨g3', k3', rfl⟩, hb3⟩ := grown9 hb2 hO2 hO3 hgr3 hnil3
  have s3 := hb3.size
  have x2 : w3.cell? ⟨B, 2, none⟩ = some (.slice (some ⟨g2, 0, none⟩) n2 c2) := by rw [hb3.cell (p := ⟨B, 2, none⟩) hB]; exact HX2.out
  have hV2 := sview_cells (v2.below hb3)
  clear hV1 hO2 hgr3 hnil3 x1 HX2 hb2 s2 v2
  go_wp2
  rw [rounds_succ]
  go_wp2_with (at_builtin; refine wpList_append_own _ rfl (.tmp 31) (.tmp 32) 116 rfl w.heap.size 9 i0 (.string ⟨#[]⟩) 1 16 Tryz.underlying116 hi hz0 hz1 hz2 rfl (by decide) _ _ _ rfl hO3 ⟨g2, 0, none⟩ n2 c2 (rowG (encS f2) n2) rfl (by rw [rowS_len]; omega) hV2 rowS_one (by unfold maxLen; omega) (by omega) (by omega) ?_)
  intro u4 w4 hO4 hgr4 hnil4
  obtain ⟨⟨g4', k4', rfl⟩, hb4⟩ := grown9 hb3 hO3 hO4 hgr4 hnil4
  have HR : Hid (w4.ownsRow w.heap.size 9 1 (.slice (some ⟨g4', 0, none⟩) (n0 + n1 + n2) k4') (n0 + n1 + n2) (rowG (encS f0) n0 ++ rowG (encS f1) n1 ++ rowG (encS f2) n2) ∧ Below w.heap.size w w4) := ⟨by rw [List.append_assoc]; exact hO4, hb4⟩
  clear hV2 hO3 hO4 hgr4 hnil4 x2 hb3 hb4 s3
  go_wp2
  rw [rounds_succ]
  go_wp2
  go_ret
  exact ⟨_, _, rfl, HR.out.1, HR.out.2⟩
end Go.Proofs.YtkakkjnbhklfpaaGreatDoor

