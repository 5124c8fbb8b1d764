/-
  Together: MIs, MName, TextSpec9
-/
import Derived.Test.YtnpfgamlncfikaaGreatDoorPackF10
import Derived.Test.YtnpfgamlncfikaaGreatDoorPackF5
import Derived.BigQuiet
import Derived.WalkSmall
import Derived.Test.YtnpfgamlncfikaaGreatDoorPackF11
import Derived.Test.YtnpfgamlncfikaaGreatDoorPackF16
import Derived.Test.YtnpfgamlncfikaaGreatDoorPackF4
import Derived.Deep.LoopGhost
import Derived.Deep.RegionHeld3
import Derived.Deep.QuietTactic
/-
  spec.l10Is, l10Must, l10Name, walked.
-/
namespace Go.Proofs.YtnpfgamlncfikaaGreatDoor
open Go.RowKit
set_option maxRecDepth 4000

set_option maxHeartbeats 2000000 in
theorem l10Is_any {g : Nat} {S : Src} {st : Option (List Tok)} {w : World} (s : ByteArray) (h : MR g S st w) :
    Calls Tryz.prog 82 #[.pointer (some ⟨g, 0, none⟩), .string s] w fun e w' => e = .returned (.bool (isO s st).1) ∧ MR g S (isO s st).2 w' ∧ But g w w' := by
  obtain ⟨i, hv, hi⟩ := h.row
  obtain ⟨c0, c1, c2⟩ := hv.cells
  have hfew := h.few
  cases st with
  | none =>
    have HM : Hid (MR g S none w) := h
    have c2' : w.cell? ⟨g, 2, none⟩ = some (.bool true) := c2
    clear h hv hi c2
    go_enter Tryz.func82, Tryz.ntmps82
    go_wp2_with fail
    go_quiet (fail)
    go_wp2
    go_ret
    exact ⟨rfl, HM.out.drewN _, (But.refl _ _).drewN _⟩
  | some l =>
    obtain ⟨hil, rfl⟩ := hi l rfl
    have c2' : w.cell? ⟨g, 2, none⟩ = some (.bool false) := c2
    have HM : Hid (MR g S (some (S.L.drop i)) w) := h
    have HV : Hid (V3 w g 79 (.slice (some ⟨S.tb, 0, none⟩) S.L.length S.cap) (.int .i64 (i : Int)) (.bool false)) := hv
    have hfz := hv.fz.2.1
    have HT : Hid (TView w (some ⟨S.tb, 0, none⟩) S.L.length S.cap (tk S.L) (ts S.L)) := h.toks
    clear h hv hi c2
    by_cases hlt : i < S.L.length
    · have hd : ¬ ((S.L.length : Int) ≤ (i : Int)) := by omega
      have hd2 : (i : Int) < (S.L.length : Int) := by omega
      have HD := src_at hlt
      obtain ⟨b', o', e', -, hc⟩ := HT.out.cells (by omega)
      cases e'
      obtain ⟨-, x1⟩ := hc i hlt
      have x1' : w.cell? ⟨S.tb, i * 2 + 1, none⟩ = some (.string (ts S.L i)) := by simpa using x1
      obtain ⟨u, hu⟩ : ∃ u, Hid (ts S.L i = u) := ⟨_, rfl⟩
      rw [hu.out] at HD x1'
      have HDD : Hid (S.L.drop i = (tk S.L i, u) :: S.L.drop (i + 1)) := HD
      obtain ⟨tb, htb⟩ : ∃ x, Hid (S.tb = x) := ⟨_, rfl⟩
      obtain ⟨N, hN⟩ : ∃ x, Hid (S.L.length = x) := ⟨_, rfl⟩
      rw [htb.out, hN.out] at c0
      rw [htb.out] at x1'
      rw [hN.out] at hlt hd hd2 hfew
      clear hc x1 HD HT
      by_cases he : u = s
      · have hq := bytes_eq he
        have HR : Hid ((isR s (S.L.drop i)) = (true, S.L.drop (i + 1))) := by show _ = _; rw [HDD.out, he]; exact isR_hit _ _ _
        have HS : Hid (∀ n, (w.drewN n).setCell ⟨g, 1, none⟩ (.int .i64 ((i : Int) + 1)) = ((w.drewN n).setCell ⟨g, 1, none⟩ (.int .i64 ((i + 1 : Nat) : Int)))) := by
          intro n; rfl
        go_enter Tryz.func82, Tryz.ntmps82
        go_wp2_with fail
        go_quiet (fail)
        go_wp2
        go_ret
        refine ⟨by show _ = Ending.returned (.bool (isR s (S.L.drop i)).1); rw [HR.out]; rfl, ?_, ?_⟩
        · show MR g S (some (isR s (S.L.drop i)).2) _
          rw [HR.out]
          refine HM.out.put ?_ ⟨i + 1, ?_, fun l hl => ?_⟩
          · exact ((But.refl _ _).drewN _).set _ _
          · exact ((HV.out.block (w' := w.drewN _) rfl).set1 _)
          · cases hl; exact ⟨by rw [hN.out]; omega, rfl⟩
        · exact ((But.refl _ _).drewN _).set _ _
      · have hq := bytes_ne he
        have HR : Hid ((isR s (S.L.drop i)) = (false, S.L.drop i)) := by show _ = _; rw [HDD.out]; exact isR_miss he _
        go_enter Tryz.func82, Tryz.ntmps82
        go_wp2_with fail
        go_quiet (fail)
        go_wp2
        go_ret
        refine ⟨by show _ = Ending.returned (.bool (isR s (S.L.drop i)).1); rw [HR.out]; rfl, ?_, (But.refl _ _).drewN _⟩
        show MR g S (some (isR s (S.L.drop i)).2) _
        rw [HR.out]
        exact HM.out.drewN _
    · have hd : ((S.L.length : Int) ≤ (i : Int)) := by omega
      have HR : Hid ((isR s (S.L.drop i)) = (false, S.L.drop i)) := by
        show _ = _
        rw [List.drop_eq_nil_of_le (by omega)]; rfl
      obtain ⟨N, hN⟩ : ∃ x, Hid (S.L.length = x) := ⟨_, rfl⟩
      rw [hN.out] at c0 hd
      clear HT
      go_enter Tryz.func82, Tryz.ntmps82
      go_wp2_with fail
      go_quiet (fail)
      go_wp2
      go_ret
      refine ⟨by show _ = Ending.returned (.bool (isR s (S.L.drop i)).1); rw [HR.out]; rfl, ?_, (But.refl _ _).drewN _⟩
      show MR g S (some (isR s (S.L.drop i)).2) _
      rw [HR.out]
      exact HM.out.drewN _

set_option maxHeartbeats 1000000 in
theorem l10Must_any {g : Nat} {S : Src} {st : Option (List Tok)} {w : World} (s : ByteArray) (h : MR g S st w) :
    Calls Tryz.prog 80 #[.pointer (some ⟨g, 0, none⟩), .string s] w fun e w' => e = .returned (.tuple #[]) ∧ MR g S (mustO s st) w' ∧ But g w w' := by
  have hI := l10Is_any s h
  have HO : Hid (mustO s st = if (isO s st).1 then (isO s st).2 else none) := mustO_is s st
  obtain ⟨⟨b, st'⟩, hb⟩ : ∃ x, Hid (isO s st = x) := ⟨_, rfl⟩
  rw [hb.out] at hI HO
  clear h
  go_enter Tryz.func80, Tryz.ntmps80
  go_wp2_with fail
  refine hI.mono ?_
  rintro e w1 ⟨rfl, hM, hB⟩
  cases b with
  | true =>
    have HR : Hid (MR g S (mustO s st) w1 ∧ But g w w1) := ⟨by rw [HO.out]; exact hM, hB⟩
    clear hI hM hB
    go_wp2
    go_end0
    exact ⟨rfl, HR.out.1, HR.out.2⟩
  | false =>
    obtain ⟨i, hv, -⟩ := hM.row
    obtain ⟨-, -, c2⟩ := hv.cells
    obtain ⟨-, -, f2⟩ := hv.fz
    have HR : Hid (MR g S (mustO s st) (w1.setCell ⟨g, 2, none⟩ (.bool true)) ∧ But g w (w1.setCell ⟨g, 2, none⟩ (.bool true))) := by
      refine ⟨?_, hB.set _ _⟩
      rw [HO.out]
      refine hM.put ((But.refl _ _).set _ _) ⟨i, hv.set2 _, fun l hl => ?_⟩
      simp at hl
    clear hI hM hB hv
    go_wp2
    go_end0
    exact ⟨rfl, HR.out.1, HR.out.2⟩
end Go.Proofs.YtnpfgamlncfikaaGreatDoor

/-
  spec.l10Name, walked.
-/
namespace Go.Proofs.YtnpfgamlncfikaaGreatDoor
open Go.RowKit
set_option maxRecDepth 4000

set_option maxHeartbeats 2000000 in
theorem l10Name_any {g : Nat} {S : Src} {st : Option (List Tok)} {w : World} (h : MR g S st w) :
    Calls Tryz.prog 81 #[.pointer (some ⟨g, 0, none⟩)] w fun e w' => e = .returned (.string (nameO st).1) ∧ MR g S (nameO st).2 w' ∧ But g w w' := by
  obtain ⟨i, hv, hi⟩ := h.row
  obtain ⟨c0, c1, c2⟩ := hv.cells
  have hfew := h.few
  cases st with
  | none =>
    have HM : Hid (∀ n, MR g S none ((w.drewN n).setCell ⟨g, 2, none⟩ (.bool true))) := fun n => (h.drewN n).put ((But.refl _ _).set _ _) ⟨i, (hv.block (w' := w.drewN n) rfl).set2 _, fun l hl => by simp at hl⟩
    have c2' : w.cell? ⟨g, 2, none⟩ = some (.bool true) := c2
    have f2 := hv.fz.2.2
    clear h hv hi c2
    go_enter Tryz.func81, Tryz.ntmps81
    go_wp2_with fail
    go_quiet (fail)
    go_wp2
    go_ret
    exact ⟨rfl, HM.out _, ((But.refl _ _).drewN _).set _ _⟩
  | some l =>
    obtain ⟨hil, rfl⟩ := hi l rfl
    have c2' : w.cell? ⟨g, 2, none⟩ = some (.bool false) := c2
    have HM : Hid (MR g S (some (S.L.drop i)) w) := h
    have HV : Hid (V3 w g 79 (.slice (some ⟨S.tb, 0, none⟩) S.L.length S.cap) (.int .i64 (i : Int)) (.bool false)) := hv
    have hfz := hv.fz.2.1
    have f2 := hv.fz.2.2
    have HT : Hid (TView w (some ⟨S.tb, 0, none⟩) S.L.length S.cap (tk S.L) (ts S.L)) := h.toks
    have HBAD : Hid (∀ n, MR g S none ((w.drewN n).setCell ⟨g, 2, none⟩ (.bool true))) := fun n => (h.drewN n).put ((But.refl _ _).set _ _) ⟨i, (hv.block (w' := w.drewN n) rfl).set2 _, fun l hl => by simp at hl⟩
    clear h hv hi c2
    by_cases hlt : i < S.L.length
    · have hd : ¬ ((S.L.length : Int) ≤ (i : Int)) := by omega
      have hd2 : (i : Int) < (S.L.length : Int) := by omega
      have HD := src_at hlt
      obtain ⟨b', o', e', -, hc⟩ := HT.out.cells (by omega)
      cases e'
      obtain ⟨x0, x1⟩ := hc i hlt
      have x0' : w.cell? ⟨S.tb, i * 2, none⟩ = some (.int .i64 (tk S.L i)) := by simpa using x0
      have x1' : w.cell? ⟨S.tb, i * 2 + 1, none⟩ = some (.string (ts S.L i)) := by simpa using x1
      obtain ⟨u, hu⟩ : ∃ u, Hid (ts S.L i = u) := ⟨_, rfl⟩
      obtain ⟨k, hk⟩ : ∃ k, Hid (tk S.L i = k) := ⟨_, rfl⟩
      rw [hu.out, hk.out] at HD
      rw [hu.out] at x1'
      rw [hk.out] at x0'
      have HDD : Hid (S.L.drop i = (k, u) :: S.L.drop (i + 1)) := HD
      obtain ⟨tb, htb⟩ : ∃ x, Hid (S.tb = x) := ⟨_, rfl⟩
      obtain ⟨N, hN⟩ : ∃ x, Hid (S.L.length = x) := ⟨_, rfl⟩
      have HNE : Hid (tb ≠ g) := by show _ ≠ _; rw [← htb.out]; exact HM.out.ne
      rw [htb.out, hN.out] at c0
      rw [htb.out] at x1' x0'
      rw [hN.out] at hlt hd hd2 hfew
      clear hc x1 x0 HD HT
      by_cases he : k = 1
      · have hq : (k != 1) = false := by simp [he]
        have HR : Hid (nameO (some (S.L.drop i)) = (u, some (S.L.drop (i + 1)))) := by show nameO _ = _; unfold nameO; rw [HDD.out]; simp [nameR, he]
        have hy : ∀ n, ((w.drewN n).setCell ⟨g, 1, none⟩ (.int .i64 ((i : Int) + 1))).cell? ⟨tb, i * 2 + 1, none⟩ = some (.string u) := fun n => by
          rw [World.cell?_of_block (w := w.drewN n) (a := ⟨tb, i * 2 + 1, none⟩) (Below.heap_setCell _ _ _ _ HNE.out)]; exact x1'
        have hy1 : (i : Int) + 1 - 1 = (i : Int) := by omega
        have hwr : wrap64 ((i : Int) + 1) = (i : Int) + 1 := by unfold wrap64; omega
        go_enter Tryz.func81, Tryz.ntmps81
        go_wp2_with fail
        go_quiet (fail)
        go_wp2_with fail
        go_quiet (fail)
        go_wp2
        go_ret
        rw [HR.out]
        refine ⟨rfl, ?_, ?_⟩
        · refine (HM.out.put ?_ ⟨i + 1, ?_, fun l hl => ?_⟩)
          · exact (((But.refl _ _).drewN _).set _ _).drewN _
          · exact ((HV.out.block (w' := w.drewN _) rfl).set1 _).block rfl
          · cases hl; exact ⟨by rw [hN.out]; omega, rfl⟩
        · exact (((But.refl _ _).drewN _).set _ _).drewN _
      · have hq : (k != 1) = true := by simpa using he
        have HR : Hid (nameO (some (S.L.drop i)) = (⟨#[]⟩, none)) := by show nameO _ = _; unfold nameO; rw [HDD.out]; simp [nameR, he]
        go_enter Tryz.func81, Tryz.ntmps81
        go_wp2_with fail
        go_quiet (fail)
        go_wp2
        go_ret
        rw [HR.out]
        exact ⟨rfl, HBAD.out _, ((But.refl _ _).drewN _).set _ _⟩
    · have hd : ((S.L.length : Int) ≤ (i : Int)) := by omega
      have HR : Hid (nameO (some (S.L.drop i)) = (⟨#[]⟩, none)) := by
        show nameO _ = _
        rw [List.drop_eq_nil_of_le (by omega)]; rfl
      obtain ⟨N, hN⟩ : ∃ x, Hid (S.L.length = x) := ⟨_, rfl⟩
      rw [hN.out] at c0 hd
      clear HT
      go_enter Tryz.func81, Tryz.ntmps81
      go_wp2_with fail
      go_quiet (fail)
      go_wp2
      go_ret
      rw [HR.out]
      exact ⟨rfl, HBAD.out _, ((But.refl _ _).drewN _).set _ _⟩
end Go.Proofs.YtnpfgamlncfikaaGreatDoor

/-
  The model's l9Type, l9PartsText come to the plain ones.
-/
namespace Go.Proofs.YtnpfgamlncfikaaGreatDoor
open Go.RowKit
set_option maxRecDepth 4000

set_option maxHeartbeats 1000000 in
theorem l9Type_any (t : Int) (w : World) (h1 : 1 ≤ t) (h4 : t ≤ 4) :
    Calls Tryz.prog 72 #[.int .i64 t] w fun e w' => e = .returned (.string (typeW t)) ∧ Below w.heap.size w w' := by
  have hcase : t = 1 ∨ t = 2 ∨ t = 3 ∨ t = 4 := by omega
  rcases hcase with rfl | rfl | rfl | rfl
  all_goals
    go_enter Tryz.func72, Tryz.ntmps72
    go_wp2
    go_ret
    exact ⟨rfl, (Below.refl _ _).alloc (Nat.le_refl _) _⟩

set_option maxHeartbeats 2000000 in
theorem l9PartsText_any (v : Value) (D : PDef) (a : Option Addr) (n c : Nat) (f : Nat → PBy) (w : World) (h : DView w v D) (hv : BView w a n c f) (hn : n ≤ 1048576) (hnc : D.nc ≤ 1048576)
    (hin : ∀ i, i < n → 0 ≤ (f i).col ∧ (f i).col < D.nc) (hz : ∀ i, i < D.nc → (D.col i).name.size ≤ 1048576) :
    Calls Tryz.prog 73 #[v, .slice a n c] w fun e w' => e = .returned (.string (partsE D.col n f)) ∧ Below w.heap.size w w' := by
  have HZ : Hid (∀ k, k ≤ n → (partsT D.col f k).size ≤ 1099520016384) := fun k hk => by
    have := partsT_size (B := 1048576) (col := D.col) (f := f) (n := n) (fun i hi => hz _ (by have := hin i hi; omega)) k hk
    have h2 : k * (1048576 + 7) ≤ 1048576 * (1048576 + 7) := Nat.mul_le_mul_right _ (by omega)
    omega
  obtain ⟨ac, cc, ap, cp, ai, ci, rfl, hc, -, -⟩ := h.is
  clear h
  go_enter Tryz.func73, Tryz.ntmps73
  go_wp2
  go_loopg [5, 6] n (fun q s i wr => ∃ k : Nat, k ≤ n ∧ q = n - k ∧ i = .int .i64 k ∧ s = .string (partsT D.col f k) ∧ Below (w.heap.size + 1) (w.alloc (.cells #[.string D.name, .slice ac D.nc cc, .slice ap D.np cp, .slice ai D.ni ci] 35)) wr)
  case atStart => exact ⟨0, Nat.zero_le _, rfl, rfl, rfl, Below.refl _ _⟩
  case round =>
    obtain ⟨k, hk, rfl, rfl, rfl, hB⟩ := hrel
    obtain ⟨x0, x1, x2, x3⟩ := box4 hB
    obtain ⟨hBw, hsz⟩ := box4_below hB
    by_cases hlt : k < n
    · have hkz : (k : Int) < (n : Int) := by omega
      obtain ⟨q0, q1⟩ := hin k hlt
      obtain ⟨m, hm⟩ := Int.eq_ofNat_of_zero_le q0
      obtain ⟨b2, o2, rfl, hb2, hcs⟩ := (hv.below hBw).cells (by omega)
      obtain ⟨y0, y1⟩ := hcs k hlt
      rw [hm] at y0 q1
      obtain ⟨b1, o1, rfl, hb1, hcc⟩ := (hc.below hBw).cells (by omega)
      obtain ⟨z0, -, -⟩ := hcc m (by omega)
      have hzm := hz m (by omega)
      have HN : Hid (partsT D.col f (k + 1) = (let s := (if 0 < k then partsT D.col f k ++ (⟨#[44, 32]⟩ : ByteArray) else partsT D.col f k) ++ (D.col m).name; if (f k).desc then s ++ (⟨#[32, 100, 101, 115, 99]⟩ : ByteArray) else s)) := by
        show _ = _
        rw [partsT, hm]; rfl
      have hjz := HZ.out k hk
      obtain ⟨J, hJ⟩ : ∃ J, Hid (partsT D.col f k = J) := ⟨_, rfl⟩
      obtain ⟨p, hp⟩ : ∃ p, Hid ((D.col m).name = p) := ⟨_, rfl⟩
      obtain ⟨ds, hds⟩ : ∃ ds, Hid ((f k).desc = ds) := ⟨_, rfl⟩
      rw [hJ.out] at HN hjz ⊢
      rw [hp.out] at HN z0 hzm
      rw [hds.out] at HN y1
      have HB : Hid (Below (w.heap.size + 1) (w.alloc (.cells #[.string D.name, .slice (some ⟨b1, o1, none⟩) D.nc cc, .slice ap D.np cp, .slice ai D.ni ci] 35)) wr) := hB
      have e1 : (⟨#[44, 32]⟩ : ByteArray).size = 2 := rfl
      have e2 : (⟨#[32, 100, 101, 115, 99]⟩ : ByteArray).size = 5 := rfl
      clear hcs hcc hc hv hB hBw hm q0 hin hz HZ
      by_cases h0 : 0 < k
      · have h0z : (0 : Int) < (k : Int) := by omega
        have s1 : ¬ (J.size + 2 > 9223372036854775807) := by omega
        have s3 : (J ++ (⟨#[44, 32]⟩ : ByteArray)).size = J.size + 2 := by rw [ByteArray.size_append]; rfl
        have s2 : ¬ (J.size + 2 + p.size > 9223372036854775807) := by omega
        have s4 : ((J ++ (⟨#[44, 32]⟩ : ByteArray)) ++ p).size = J.size + 2 + p.size := by rw [ByteArray.size_append, s3]
        have s5 : ¬ (J.size + 2 + p.size + 5 > 9223372036854775807) := by omega
        cases ds with
        | true =>
          have HN' : Hid (partsT D.col f (k + 1) = ((J ++ (⟨#[44, 32]⟩ : ByteArray)) ++ p) ++ (⟨#[32, 100, 101, 115, 99]⟩ : ByteArray)) := by show _ = _; rw [HN.out, if_pos h0]; rfl
          clear HN
          go_wp2_with fail
          go_quiet (fail)
          go_wp2
          go_roundg (n - (k + 1))
          case measure => omega
          case rel => exact ⟨k + 1, by omega, rfl, by go_num, by rw [HN'.out], HB.out.trans ⟨rfl, rfl, rfl, Nat.le_refl _, fun _ _ => rfl⟩⟩
        | false =>
          have HN' : Hid (partsT D.col f (k + 1) = (J ++ (⟨#[44, 32]⟩ : ByteArray)) ++ p) := by show _ = _; rw [HN.out, if_pos h0]; rfl
          clear HN
          go_wp2_with fail
          go_quiet (fail)
          go_wp2
          go_roundg (n - (k + 1))
          case measure => omega
          case rel => exact ⟨k + 1, by omega, rfl, by go_num, by rw [HN'.out], HB.out.trans ⟨rfl, rfl, rfl, Nat.le_refl _, fun _ _ => rfl⟩⟩
      · have h0z : ¬ (0 : Int) < (k : Int) := by omega
        have s2 : ¬ (J.size + p.size > 9223372036854775807) := by omega
        have s4 : (J ++ p).size = J.size + p.size := by rw [ByteArray.size_append]
        have s5 : ¬ (J.size + p.size + 5 > 9223372036854775807) := by omega
        cases ds with
        | true =>
          have HN' : Hid (partsT D.col f (k + 1) = (J ++ p) ++ (⟨#[32, 100, 101, 115, 99]⟩ : ByteArray)) := by show _ = _; rw [HN.out, if_neg h0]; rfl
          clear HN
          go_wp2_with fail
          go_quiet (fail)
          go_wp2
          go_roundg (n - (k + 1))
          case measure => omega
          case rel => exact ⟨k + 1, by omega, rfl, by go_num, by rw [HN'.out], HB.out.trans ⟨rfl, rfl, rfl, Nat.le_refl _, fun _ _ => rfl⟩⟩
        | false =>
          have HN' : Hid (partsT D.col f (k + 1) = J ++ p) := by show _ = _; rw [HN.out, if_neg h0]; rfl
          clear HN
          go_wp2_with fail
          go_quiet (fail)
          go_wp2
          go_roundg (n - (k + 1))
          case measure => omega
          case rel => exact ⟨k + 1, by omega, rfl, by go_num, by rw [HN'.out], HB.out.trans ⟨rfl, rfl, rfl, Nat.le_refl _, fun _ _ => rfl⟩⟩
    · have hkz : ¬ (k : Int) < (n : Int) := by omega
      obtain rfl : k = n := by omega
      have hjz := HZ.out k hk
      have HE : Hid (partsE D.col k f = partsT D.col f k ++ (⟨#[59, 32]⟩ : ByteArray)) := rfl
      obtain ⟨J, hJ⟩ : ∃ J, Hid (partsT D.col f k = J) := ⟨_, rfl⟩
      rw [hJ.out] at HE hjz ⊢
      have s1 : ¬ (J.size + 2 > 9223372036854775807) := by omega
      have e1 : (⟨#[59, 32]⟩ : ByteArray).size = 2 := rfl
      have HBw : Hid (Below w.heap.size w wr) := hBw
      clear hc hv hB hBw hin hz HZ
      go_wp2
      go_ret
      exact ⟨by rw [HE.out]; rfl, HBw.out⟩
end Go.Proofs.YtnpfgamlncfikaaGreatDoor

