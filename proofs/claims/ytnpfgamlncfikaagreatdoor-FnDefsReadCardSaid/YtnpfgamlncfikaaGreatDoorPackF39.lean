/-
  Together: DrawParse10, NeTok, LawDefsRead
-/
import Derived.Test.YtnpfgamlncfikaaGreatDoorPackF33
import Derived.Test.YtnpfgamlncfikaaGreatDoorDrawStrOf
import Derived.Test.YtnpfgamlncfikaaGreatDoorPackF37
import Derived.Test.YtnpfgamlncfikaaGreatDoorPackF15
import Derived.Deep.RegionHeld3
import Derived.Test.YtnpfgamlncfikaaGreatDoorPackF2
import Derived.Test.YtnpfgamlncfikaaGreatDoorPackF25
import Derived.Test.YtnpfgamlncfikaaGreatDoorPackF36
import Derived.Test.YtnpfgamlncfikaaGreatDoorPackF38
import Derived.Deep.LoopGhost
/-
  spec.DrawParseDefs, walked: some text.
-/
namespace Go.Proofs.YtnpfgamlncfikaaGreatDoor
open Go.RowKit
set_option maxRecDepth 4000

def txL10 : List ByteArray := [(⟨#[]⟩ : ByteArray), (⟨#[116, 97, 98, 108, 101, 32, 116, 123, 105, 100, 32, 105, 110, 116, 59, 112, 114, 105, 109, 97, 114, 121, 32, 105, 100, 59, 125]⟩ : ByteArray), (⟨#[116, 97, 98, 108, 101, 32, 116, 32, 123, 32, 112, 114, 105, 109, 97, 114, 121, 32, 105, 100, 59, 32, 125]⟩ : ByteArray), (⟨#[116, 97, 98, 108, 101, 32, 116, 32, 123, 32, 105, 100, 32, 105, 110, 116, 59, 32, 125]⟩ : ByteArray), (⟨#[116, 97, 98, 108, 101, 32, 116, 32, 123, 32, 105, 100, 32, 105, 110, 116, 59, 32, 112, 114, 105, 109, 97, 114, 121, 32, 105, 100, 32, 100, 101, 115, 99, 44, 32, 105, 100, 59, 32, 125]⟩ : ByteArray), (⟨#[116, 97, 98, 108, 101, 32, 116, 32, 123, 32, 105, 100, 32, 105, 110, 116, 32, 110, 117, 108, 108, 59, 32, 112, 114, 105, 109, 97, 114, 121, 32, 105, 100, 59, 32, 125]⟩ : ByteArray), (⟨#[116, 97, 98, 108, 101, 32, 116, 32, 123, 32, 105, 100, 32, 105, 110, 116, 59, 32, 112, 114, 105, 109, 97, 114, 121, 32, 120, 59, 32, 125]⟩ : ByteArray), (⟨#[116, 97, 98, 108, 101, 32, 116, 32, 123, 32, 105, 100, 32, 105, 110, 116, 59, 32, 112, 114, 105, 109, 97, 114, 121, 32, 105, 100, 59, 32, 117, 110, 105, 113, 117, 101, 32, 117, 32, 105, 100, 59, 32, 105, 110, 100, 101, 120, 32, 117, 32, 105, 100, 59, 32, 125]⟩ : ByteArray), (⟨#[116, 97, 98, 108, 101]⟩ : ByteArray), (⟨#[116, 97, 98, 108, 101, 32, 116, 32, 123, 32, 105, 100, 32, 105, 110, 116, 59, 32, 112, 114, 105, 109, 97, 114, 121, 32, 105, 100, 59, 32, 125, 32, 120]⟩ : ByteArray)]
def txL6 : List ByteArray := [(⟨#[32]⟩ : ByteArray), (⟨#[59]⟩ : ByteArray), (⟨#[44]⟩ : ByteArray), (⟨#[120]⟩ : ByteArray), (⟨#[110, 117, 108, 108, 32]⟩ : ByteArray), (⟨#[123]⟩ : ByteArray)]
theorem tx10_size {z : ByteArray} (h : z ∈ txL10) : z.size ≤ 1000 := by
  have : ∀ y ∈ txL10, y.size ≤ 1000 := by decide
  exact this z h
theorem tx6_size {z : ByteArray} (h : z ∈ txL6) : z.size ≤ 1000 := by
  have : ∀ y ∈ txL6, y.size ≤ 1000 := by decide
  exact this z h

set_option maxRecDepth 20000 in
set_option maxHeartbeats 8000000 in
theorem drawParse_any (ao : Option Addr) (n cap : Nat) (f : Nat → Int) (w : World) (hn : n ≤ 1048576) (hv : View w ao n cap f) :
    Calls Tryz.prog 16 #[.slice ao n cap] w fun e w' => ∃ s : ByteArray, e = .returned (.string s) ∧ s.size ≤ 1048576 ∧ Below w.heap.size w w' := by
  obtain ⟨g, hg⟩ : ∃ x, Hid (w.heap.size = x) := ⟨_, rfl⟩
  go_enter Tryz.func16, Tryz.ntmps16
  go_wp2_with fail
  refine (l1New_any ao n cap f w hn hv).mono ?_
  rintro e w1 ⟨rfl, hC1, hb1⟩
  rw [hg.out] at hC1 ⊢
  have hD := l10Draw_any g ao n cap f w1 hn hC1
  go_wp2_with fail
  refine hD.mono ?_
  rintro e w2 ⟨ds, b, k, rfl, T2, R2, hl2⟩
  have HL2 : Hid (Below w.heap.size w w2) := hb1.trans (R2.but.below (Nat.le_of_eq hg.out) hb1.size)
  obtain ⟨a', k', e, hV2⟩ := T2.view
  cases e
  have hS := specTexts_any _ ds.length k (atD ds) w2 hV2 (T2.fine (by omega))
  have hts := defsT_size (atD ds) ds.length
  have HC2 : Hid (Cur w2 g ao n cap f) := R2.cur
  obtain ⟨tx, htx⟩ : ∃ x, Hid (defsT (atD ds) ds.length = x) := ⟨_, rfl⟩
  rw [htx.out] at hS hts
  have htz : tx.size ≤ 5000 := by omega
  clear hD T2 R2 hV2 hC1 hb1 hts hv
  go_wp2_with fail
  refine hS.mono ?_
  rintro e w3 ⟨rfl, hb3⟩
  have hC3 := HC2.out.below hb3
  have HL3 : Hid (Below w.heap.size w w3) := HL2.out.trans (hb3.mono HL2.out.size)
  clear hS hb3 HC2 HL2
  go_wp2_with fail
  refine (l1Below_any g ao n cap f 6 w3 hn (by omega) (by omega) hC3).mono ?_
  rintro e w4 ⟨x, rfl, hx0, hx6, hC4, hO4⟩
  have HL4 : Hid (Below w.heap.size w w4) := HL3.out.trans ((But.ofOnly hO4).below (Nat.le_of_eq hg.out) HL3.out.size)
  have hgle := HL4.out.size
  clear hC3 hO4 HL3
  have hxx : x = 0 ∨ x = 1 ∨ x = 2 ∨ 3 ≤ x := by omega
  rcases hxx with rfl | rfl | rfl | hx3
  · have hSt := l1Str_mem g ao n cap f txL10 w4.heap.size w4 rfl hn (by decide) (by decide) hC4
    unfold txL10 at hSt
    clear hC4
    go_wp2_with fail
    refine hSt.mono ?_
    rintro e w6 ⟨z, rfl, hz, hCx, hBx⟩
    have HR : Hid (z.size ≤ 1048576 ∧ Below w.heap.size w w6) := ⟨by have := tx10_size hz; omega, HL4.out.trans (hBx.below (Nat.le_of_eq hg.out) HL4.out.size)⟩
    clear hSt hz hCx hBx
    go_wp2
    go_ret
    exact ⟨z, rfl, HR.out.1, HR.out.2⟩
  · have hBl := l1Below_any g ao n cap f ((tx.size : Int) + 1) w4 hn (by omega) (by omega) hC4
    clear hC4
    go_wp2_with fail
    refine hBl.mono ?_
    rintro e w5 ⟨y, rfl, hy0, hy1, hC5, hO5⟩
    have HL5 : Hid (Below w.heap.size w w5) := HL4.out.trans ((But.ofOnly hO5).below (Nat.le_of_eq hg.out) HL4.out.size)
    obtain ⟨m, rfl⟩ : ∃ m : Nat, y = (m : Int) := ⟨y.toNat, by omega⟩
    have hm : m ≤ tx.size := by omega
    clear hBl hO5 HL4
    go_wp2_with fail
    have hCd := hC5.below (Below.drew (Below.refl w5.heap.size w5))
    have HLd : Hid (Below w.heap.size w w5.drew) := HL5.out.trans ((Below.drew (Below.refl w5.heap.size w5)).mono HL5.out.size)
    refine wp_region_held_drew (S := (fun _ => True)) (by kernel_rfl) trivial (fun hHeld => ?_)
    obtain ⟨wq, hwq⟩ : ∃ wq, Hid (wq = w5.drew) := ⟨_, rfl⟩
    rw [← hwq.out] at hCd HLd ⊢
    clear hC5 HL5 hwq
    refine' wpAnyH_take (i := 0) (v := _) rfl (by kernel_rfl) (by kernel_rfl) (by kernel_rfl) (fun _ _ _ h => h) (Or.inl ⟨by kernel_rfl, ?hdp1⟩) (by assumption) ?rdp1
    case hdp1 => intro W hW; go_simp; all_goals with_reducible rfl
    change wpAnyH _ _ _ _ _ _ _ (Act.put _ (some 25) _) _
    simp only [Act.put, List.setIfInBounds_toArray, List.set_cons_zero, List.set_cons_succ]
    refine' wpAnyH_take (i := 1) (v := _) rfl (by kernel_rfl) (by kernel_rfl) (by kernel_rfl) (fun _ _ _ h => h) (Or.inl ⟨by kernel_rfl, ?hdp2⟩) (by assumption) ?rdp2
    case hdp2 => intro W hW; go_simp; all_goals with_reducible rfl
    change wpAnyH _ _ _ _ _ _ _ (Act.put _ (some 26) _) _
    simp only [Act.put, List.setIfInBounds_toArray, List.set_cons_zero, List.set_cons_succ]
    refine' wpAnyH_take (i := 2) (v := _) rfl (by kernel_rfl) (by kernel_rfl) (by kernel_rfl) (fun _ _ _ h => h) (Or.inl ⟨by kernel_rfl, ?hdp3⟩) (by assumption) ?rdp3
    case hdp3 => intro W hW; go_simp; all_goals with_reducible rfl
    change wpAnyH _ _ _ _ _ _ _ (Act.put _ (some 27) _) _
    simp only [Act.put, List.setIfInBounds_toArray, List.set_cons_zero, List.set_cons_succ]
    refine' wpAnyH_take (i := 3) (v := _) rfl (by kernel_rfl) (by kernel_rfl) (by kernel_rfl) (fun _ _ _ h => h) (Or.inl ⟨by kernel_rfl, ?hdp4⟩) (by assumption) ?rdp4
    case hdp4 => intro W hW; go_simp; all_goals with_reducible rfl
    change wpAnyH _ _ _ _ _ _ _ (Act.put _ (some 28) _) _
    simp only [Act.put, List.setIfInBounds_toArray, List.set_cons_zero, List.set_cons_succ]
    refine' wpAnyH_take (i := 7) (v := _) rfl (by kernel_rfl) (by kernel_rfl) (by kernel_rfl) (fun _ _ _ h => h) (Or.inl ⟨by kernel_rfl, ?hdp5⟩) (by assumption) ?rdp5
    case hdp5 => intro W hW; go_simp; all_goals with_reducible rfl
    change wpAnyH _ _ _ _ _ _ _ (Act.put _ (some 32) _) _
    simp only [Act.put, List.setIfInBounds_toArray, List.set_cons_zero, List.set_cons_succ]
    refine' wpAnyH_take (i := 8) (v := _) rfl (by kernel_rfl) (by kernel_rfl) (by kernel_rfl) (fun _ _ _ h => h) (Or.inl ⟨by kernel_rfl, ?hdp6⟩) (by assumption) ?rdp6
    case hdp6 => intro W hW; go_simp; all_goals with_reducible rfl
    change wpAnyH _ _ _ _ _ _ _ (Act.put _ (some 33) _) _
    simp only [Act.put, List.setIfInBounds_toArray, List.set_cons_zero, List.set_cons_succ]
    refine' wpAnyH_take (i := 9) (v := _) rfl (by kernel_rfl) (by kernel_rfl) (by kernel_rfl) (fun _ _ _ h => h) (Or.inl ⟨by kernel_rfl, ?hdp7⟩) (by assumption) ?rdp7
    case hdp7 => intro W hW; go_simp; all_goals with_reducible rfl
    change wpAnyH _ _ _ _ _ _ _ (Act.put _ (some 34) _) _
    simp only [Act.put, List.setIfInBounds_toArray, List.set_cons_zero, List.set_cons_succ]
    refine wpAnyH_ready (rs := [4]) (by kernel_rfl) (by simp) ?_
    refine AllReadyH.cons rfl (fun KK hK => ?_) AllReadyH.nil
    go_simp
    refine hK.out _ _ trivial (fun hHeld => ?_)
    clear hK KK
    try simp only [Act.put, List.setIfInBounds_toArray, List.set_cons_zero, List.set_cons_succ]
    refine wpAnyH_ready (rs := [5]) (by kernel_rfl) (by simp) ?_
    refine AllReadyH.cons rfl (fun KK hK => ?_) AllReadyH.nil
    go_simp
    have hSt := l1Str_mem g ao n cap f txL6 wq.heap.size wq rfl hn (by decide) (by decide) hCd
    unfold txL6 at hSt
    refine hSt.mono ?_
    rintro e w6 ⟨z, rfl, hz, hCx, hBx⟩
    have hzs := tx6_size hz
    have HL6 : Hid (Below w.heap.size w w6) := HLd.out.trans (hBx.below (Nat.le_of_eq hg.out) HLd.out.size)
    have hs1 : (tx.extract 0 m).size ≤ 5000 := by rw [ByteArray.size_extract]; omega
    have hs2 : (tx.extract m tx.size).size ≤ 5000 := by rw [ByteArray.size_extract]; omega
    have hs3 : (tx.extract 0 m ++ z).size ≤ 6000 := by rw [ByteArray.size_append]; omega
    have hcc1 : ¬ (9223372036854775807 < m + z.size) := by omega
    have hcc2 : ¬ (9223372036854775807 < m + z.size + (tx.size - m)) := by omega
    clear hSt hz hCx hBx
    go_wp2_with fail
    refine hK.out _ _ trivial (fun hHeld => ?_)
    clear hK KK
    try simp only [Act.put, List.setIfInBounds_toArray, List.set_cons_zero, List.set_cons_succ]
    refine' wpAnyH_take (i := 6) (v := _) rfl (by kernel_rfl) (by kernel_rfl) (by kernel_rfl) (fun _ _ _ h => h) (Or.inl ⟨by kernel_rfl, ?hdp8⟩) (by assumption) ?rdp8
    case hdp8 => intro W hW; go_simp; all_goals with_reducible rfl
    change wpAnyH _ _ _ _ _ _ _ (Act.put _ (some 31) _) _
    simp only [Act.put, List.setIfInBounds_toArray, List.set_cons_zero, List.set_cons_succ]
    refine' wpAnyH_take (i := 10) (v := _) rfl (by kernel_rfl) (by kernel_rfl) (by kernel_rfl) (fun _ _ _ h => h) (Or.inl ⟨by kernel_rfl, ?hdp9⟩) (by assumption) ?rdp9
    case hdp9 => intro W hW; go_simp; all_goals with_reducible rfl
    change wpAnyH _ _ _ _ _ _ _ (Act.put _ (some 35) _) _
    simp only [Act.put, List.setIfInBounds_toArray, List.set_cons_zero, List.set_cons_succ]
    refine' wpAnyH_take (i := 11) (v := _) rfl (by kernel_rfl) (by kernel_rfl) (by kernel_rfl) (fun _ _ _ h => h) (Or.inl ⟨by kernel_rfl, ?hdp10⟩) (by assumption) ?rdp10
    case hdp10 => intro W hW; go_simp; all_goals with_reducible rfl
    change wpAnyH _ _ _ _ _ _ _ (Act.put _ (some 2) _) _
    simp only [Act.put, List.setIfInBounds_toArray, List.set_cons_zero, List.set_cons_succ]
    refine wpAnyH_done (by kernel_rfl) ?_ _
    have HZ : Hid ((tx.extract 0 m ++ z ++ tx.extract m tx.size).size ≤ 1048576) := by show _ ≤ _; rw [ByteArray.size_append]; omega
    go_wp2
    go_ret
    exact ⟨_, rfl, HZ.out, HL6.out⟩
  · have hBl := l1Below_any g ao n cap f ((tx.size : Int) + 1) w4 hn (by omega) (by omega) hC4
    clear hC4
    go_wp2_with fail
    refine hBl.mono ?_
    rintro e w5 ⟨y, rfl, hy0, hy1, hC5, hO5⟩
    have HL5 : Hid (Below w.heap.size w w5) := HL4.out.trans ((But.ofOnly hO5).below (Nat.le_of_eq hg.out) HL4.out.size)
    obtain ⟨m, rfl⟩ : ∃ m : Nat, y = (m : Int) := ⟨y.toNat, by omega⟩
    have hm : m ≤ tx.size := by omega
    clear hBl hO5 HL4 hC5
    have hsz : (tx.extract 0 m).size ≤ 1048576 := by rw [ByteArray.size_extract]; omega
    go_wp2
    go_ret
    exact ⟨_, rfl, hsz, HL5.out⟩
  · have h0 : (x == 0) = false := by simp; omega
    have h1 : (x == 1) = false := by simp; omega
    have h2 : (x == 2) = false := by simp; omega
    clear hC4
    go_wp2
    go_ret
    exact ⟨tx, rfl, by omega, HL4.out⟩
end Go.Proofs.YtnpfgamlncfikaaGreatDoor

/-
  A token is like itself.
-/
namespace Go.Proofs.YtnpfgamlncfikaaGreatDoor
open Go.RowKit
set_option maxRecDepth 4000

theorem neTok_run (k : Int) (s : ByteArray) (W : World) : (binOp .neq 41 (.agg #[.int .i64 k, .string s]) (.agg #[.int .i64 k, .string s])).run Tryz.prog W = .ok (.bool false) W := by
  simp [go_sem]
end Go.Proofs.YtnpfgamlncfikaaGreatDoor

/-
  The law FnDefsRead, walked.
-/
namespace Go.Proofs.YtnpfgamlncfikaaGreatDoor
open Go.RowKit
set_option maxRecDepth 4000

set_option maxHeartbeats 8000000 in
theorem lawDefsRead (ao : Option Addr) (N cap : Nat) (f : Nat → Int) (w : World) (hv0 : View w ao N cap f) (hlen : N ≤ 9223372036854775807) (hgE : ErrT w) (hty : TyN w) (hu : ErrU w) :
    Calls Tryz.prog 4 #[.slice ao N cap] w fun e w' => e = .returned (.bool true) ∧ Below w.heap.size w w' := by
  have hCk : ∀ (W : World) (v : Value) (D : PDef), Below w.heap.size w W → DView W v D → DFine D → Calls Tryz.prog 29 #[v] W fun e w' => e = .returned (.int .i64 (checkF D)) ∧ Below W.heap.size W w' := fun W v D hb hD hf => implCheck_any v D W hD hf (hgE.below hb)
  have hTx : ∀ (W : World) (v : Value) (D : PDef), Below w.heap.size w W → DView W v D → DFine D → Calls Tryz.prog 27 #[v] W fun e w' => e = .returned (.string (defText D)) ∧ Below W.heap.size W w' := fun W v D hb hD hf => implText_any v D W hD hf (hgE.below hb) (hty.below hb)
  by_cases hbig : (1048576 : Int) < (N : Int)
  · have hd : decide ((1048576 : Int) < (N : Int)) = true := decide_eq_true hbig
    clear hv0 hCk hTx
    go_enter Tryz.func4, Tryz.ntmps4
    go_wp2_with fail
    refine (big_any ao N cap w hlen).mono ?_
    rintro e w1 ⟨rfl, rfl⟩
    rw [hd]
    go_wp2
    go_ret
    exact ⟨rfl, Below.refl _ _⟩
  have hN : N ≤ 1048576 := by omega
  have hd : decide ((1048576 : Int) < (N : Int)) = false := decide_eq_false hbig
  go_enter Tryz.func4, Tryz.ntmps4
  go_wp2_with fail
  refine (big_any ao N cap w hlen).mono ?_
  rintro e w0 ⟨rfl, rfl⟩
  rw [hd]
  go_wp2_with fail
  refine (drawParse_any ao N cap f w hN hv0).mono ?_
  rintro e w1 ⟨s, rfl, hs, hb1⟩
  have hP := implParse_any s w1 (by omega) (hu.below hb1) (hty.below hb1) (fun W v D hb hD hf => hCk W v D (hb1.trans (hb.mono hb1.size)) hD hf)
  go_wp2_with fail
  refine hP.mono ?_
  rintro e w2 ⟨v, wB, rfl, hb2, hwB, hT2, h3, a2, k2, rfl⟩
  have hB2 := hb1.trans (hb2.mono hb1.size)
  have hQ := specParse_any s w2 (by omega)
  have HSP : Hid (∀ ds, parseF s = some ds → lexF (defsT (atD ds) ds.length) 0 [] = ((lexF s 0 []).1, -1) ∧ firstF (atD ds) ds.length = -1 ∧ (lexF s 0 []).2 = -1) := fun ds h => ⟨parse_toks h, (parse_first h).1, (parse_first h).2.2⟩
  obtain ⟨o, ho⟩ : ∃ x, Hid (parseF s = x) := ⟨_, rfl⟩
  simp only [ho.out] at HSP hT2 h3 hQ
  rw [ho.out]
  have hV2 := hT2.tabs.view
  have hF2 := hT2.tabs.fine (by omega)
  obtain ⟨av, kv, ev, hV2⟩ := hV2
  cases ev
  clear hP hT2 hwB hb2 hb1 ho
  go_wp2_with fail
  refine hQ.mono ?_
  rintro e w3 ⟨a3, k3, rfl, -, hb3⟩
  have hB3 := hB2.trans (hb3.mono hB2.size)
  have hV3 := hV2.below hb3
  clear hQ hV2 hb3 hB2
  cases o with
  | none =>
    have HB : Hid (Below w.heap.size w w3) := hB3
    clear hCk hTx hV3 hF2 HSP hB3 hv0 hgE hty hu
    go_wp2
    go_ret
    exact ⟨rfl, HB.out⟩
  | some ds =>
    obtain ⟨hl1, hl2, hl3⟩ := HSP.out ds rfl
    have hL := implLex_any s w3 (by omega)
    have hr5 : (lexF s 0 []).1.length ≤ 500 := lexF_few s 0 [] (by simp)
    obtain ⟨⟨L, p⟩, hr⟩ : ∃ r, Hid (lexF s 0 [] = r) := ⟨_, rfl⟩
    simp only [hr.out] at hl1 hl3 hL hr5
    subst hl3
    have hV3' : LView w3 (some ⟨a2, 0, none⟩) ds.length k2 (atD ds) := hV3
    have hF2' : LFine ds.length (atD ds) := hF2
    have HE : Hid ((Option.getD (some ds) []).length = ds.length) := rfl
    rw [HE.out]
    obtain ⟨n1, hn1⟩ : ∃ n1, Hid (L.length = n1) := ⟨_, rfl⟩
    obtain ⟨fk, hfk⟩ : ∃ fk, Hid (tk L = fk) := ⟨_, rfl⟩
    obtain ⟨fs, hfs⟩ : ∃ fs, Hid (ts L = fs) := ⟨_, rfl⟩
    obtain ⟨m, hm⟩ : ∃ m, Hid (ds.length = m) := ⟨_, rfl⟩
    have hLX := fun t W (h : t = defsT (atD ds) ds.length) (h2 : t.size ≤ 281474976710656) => implLex_any t W h2
    unfold LexTo at hL
    simp only [rowL_K, hn1.out, hfk.out, hfs.out] at hL
    rw [hn1.out] at hr5
    clear HSP hV3 hF2
    go_wp2_with fail
    refine hL.mono ?_
    rintro e w4 ⟨v4, rfl, -, hO4, hb4⟩
    obtain ⟨a4, c4, rfl, hT4, -⟩ := tview_of_own hO4
    have hB4 := hB3.trans (hb4.mono hB3.size)
    have hV4 := hV3'.below hb4
    have hTs := implTexts_any _ ds.length k2 (atD ds) w4 hV4 hF2' (fun W v D hb hD hf => hTx W v D (hB4.trans (hb.mono hB4.size)) hD hf)
    have hds := defsT_size (atD ds) ds.length
    have hF3 : ds.length ≤ 3 := h3
    clear hL hO4 hb4 hB3 hV3' hTx
    obtain ⟨tx, htx⟩ : ∃ tx, Hid (defsT (atD ds) ds.length = tx) := ⟨_, rfl⟩
    rw [htx.out] at hTs hds hl1
    have hLb := fun W => implLex_any tx W (by omega)
    simp only [hl1] at hLb
    unfold LexTo at hLb
    simp only [rowL_K, hn1.out, hfk.out, hfs.out] at hLb
    rw [hm.out] at hTs ⊢
    go_wp2_with fail
    refine hTs.mono ?_
    rintro e w5 ⟨rfl, hb5⟩
    have hB5 := hB4.trans (hb5.mono hB4.size)
    have hT5 := hT4.below hb5
    have hV5 := hV4.below hb5
    clear hTs hb5 hB4 hT4 hV4
    go_wp2_with fail
    refine (hLb _).mono ?_
    rintro e w6 ⟨v6, rfl, -, hO6, hb6⟩
    obtain ⟨a6, c6, rfl, hT6x, -⟩ := tview_of_own hO6
    have hT6 := hT5.below hb6
    have hB6 := hB5.trans (hb6.mono hB5.size)
    have hV6 := hV5.below hb6
    have hFi := implFirst_any _ ds.length k2 (atD ds) w6 hV6 hF2' (fun W v D hb hD hf => hCk W v D (hB6.trans (hb.mono hB6.size)) hD hf)
    rw [hl2, hm.out] at hFi
    have hqn : ((n1 : Int) != (n1 : Int)) = false := bne_self_eq_false _
    clear hLb hO6 hb6 hB5 hT5 hV5 hV6 hCk hF2'
    go_wp2_with fail
    refine hFi.mono ?_
    rintro e w7 ⟨rfl, hb7⟩
    have hB7 := hB6.trans (hb7.mono hB6.size)
    have hT7 := hT6.below hb7
    have hT7x := hT6x.below hb7
    clear hFi hb7 hB6 hT6 hT6x hgE hty hu hv0
    go_wp2
    go_loopg [12] n1 (fun q i wr => ∃ k : Nat, k ≤ n1 ∧ q = n1 - k ∧ i = .int .i64 k ∧ Below w.heap.size w wr ∧ TView wr a4 n1 c4 fk fs ∧ TView wr a6 n1 c6 fk fs)
    case atStart => exact ⟨0, Nat.zero_le _, rfl, rfl, hB7, hT7, hT7x⟩
    case round =>
      clear hB7 hT7 hT7x
      obtain ⟨k, hk, rfl, rfl, hB, hA, hC⟩ := hrel
      by_cases hlt : k < n1
      · have hkz : (k : Int) < (n1 : Int) := by omega
        obtain ⟨b1, o1, rfl, -, hc1⟩ := hA.cells (by omega)
        obtain ⟨b2, o2, rfl, -, hc2⟩ := hC.cells (by omega)
        obtain ⟨x0, x1⟩ := hc1 k hlt
        obtain ⟨y0, y1⟩ := hc2 k hlt
        obtain ⟨p0, hp0⟩ : ∃ x, Hid (fk k = x) := ⟨_, rfl⟩
        obtain ⟨p2, hp2⟩ : ∃ x, Hid (fs k = x) := ⟨_, rfl⟩
        rw [hp0.out] at x0 y0
        rw [hp2.out] at x1 y1
        have hq := neTok_run p0 p2
        have HK : Hid (∀ n, Below w.heap.size w (wr.drewN n) ∧ TView (wr.drewN n) (some ⟨b1, o1, none⟩) n1 c4 fk fs ∧ TView (wr.drewN n) (some ⟨b2, o2, none⟩) n1 c6 fk fs) := fun n => ⟨below_drewN hB n, hA.below (below_drewN (Below.refl _ _) n), hC.below (below_drewN (Below.refl _ _) n)⟩
        clear hc1 hc2 hA hC hB
        go_wp2_with fail
        go_quiet (fail)
        go_wp2
        go_roundg (n1 - (k + 1))
        case measure => omega
        case rel => exact ⟨k + 1, by omega, rfl, by go_num, (HK.out _).1, (HK.out _).2.1, (HK.out _).2.2⟩
      · have hkz : ¬ (k : Int) < (n1 : Int) := by omega
        clear hA hC
        go_wp2
        go_ret
        exact ⟨rfl, hB⟩
end Go.Proofs.YtnpfgamlncfikaaGreatDoor

