/-
  Together: SumImpl, OkFKinds, RowOkImpl, KeyOfImpl, KeyBytesImpl, EncMore, KeyAllImpl, KeyLen11, SameImpl, RowImpl, Before, PartLessImpl
-/
import Derived.Test.YtkakkjnbhklfpaaGreatDoorPackR14
import Derived.Test.YtkakkjnbhklfpaaGreatDoorPackR2
import Derived.Test.YtkakkjnbhklfpaaGreatDoorPackR6
import Derived.Test.YtkakkjnbhklfpaaGreatDoorPackR1
import Derived.Laws.BytesArg
import Derived.Test.YtkakkjnbhklfpaaGreatDoorPackR10
import Derived.Test.YtkakkjnbhklfpaaGreatDoorPackR9
import Derived.Test.YtkakkjnbhklfpaaGreatDoorPackR13
import Derived.Deep.RegionHeld3
import Derived.Test.YtkakkjnbhklfpaaGreatDoorPackR3
import Derived.Deep.LoopGhost
import Derived.Lib.BytesEntry
/-
  The program's PutSum: what was there, and behind it the four bytes of its sum, in memory of its own.
-/
namespace Go.Proofs.YtkakkjnbhklfpaaGreatDoor
open Go.RowKit
set_option maxRecDepth 4000

set_option maxHeartbeats 1000000 in
theorem putSum_impl (b off n cap : Nat) (f : Nat → Int) (w : World) (hv : View w (some ⟨b, off, none⟩) n cap f) (hn : n ≤ 35184372088832) :
    Calls Tryz.prog 112 #[.slice (some ⟨b, off, none⟩) n cap] w fun e w' => ∃ g c, e = .returned (.slice (some ⟨g, 0, none⟩) (n + 4) c) ∧ w.heap.size ≤ g ∧ n + 4 ≤ c ∧ Row 5 w' g (n + 4) (fun i => (lof n f ++ sumL (crc n f)).getD i 0) ∧ Below w.heap.size w w' := by
  have hlt := crc_lt hv.byte
  obtain ⟨c, hc⟩ : ∃ c, Hid (crc n f = c) := ⟨_, rfl⟩
  rw [hc.out] at hlt
  have hcz : (c : Int) < 4294967296 := by omega
  have hw : ∀ x : Int, IntKind.u8.wrap x = x % 256 := u8_wrap
  go_enter Tryz.func112, Tryz.ntmps112
  go_wp2_with fail
  refine (crc_impl' _ n cap f w hc hv (by omega)).mono ?_
  rintro e _ ⟨rfl, rfl⟩
  go_wp2_with fail
  have hb1 : Below w.heap.size w (w.alloc (.cells #[.int .u8 ((c : Int) / 16777216 % 256), .int .u8 ((c : Int) / 65536 % 256), .int .u8 ((c : Int) / 256 % 256), .int .u8 ((c : Int) % 256)] 5)) := (Below.refl _ _).alloc (Nat.le_refl _) _
  have hr : Row 5 (w.alloc (.cells #[.int .u8 ((c : Int) / 16777216 % 256), .int .u8 ((c : Int) / 65536 % 256), .int .u8 ((c : Int) / 256 % 256), .int .u8 ((c : Int) % 256)] 5)) w.heap.size 4 (fun i => (sumL c).getD i 0) := newRow w (sumL c) 5
  refine (putBytes_any b off n cap f (some ⟨w.heap.size, 0, none⟩) 4 4 (fun i => (sumL c).getD i 0) _ (hv.below hb1) (hr.view (by omega) (bytes_of_list (sumL_byte c))) (by intro h; cases h) (by omega)).mono ?_
  rintro e w2 ⟨rfl, hown, hb2⟩
  rw [lof_sumL] at hown
  rw [show (w.alloc (.cells #[.int .u8 ((c : Int) / 16777216 % 256), .int .u8 ((c : Int) / 65536 % 256), .int .u8 ((c : Int) / 256 % 256), .int .u8 ((c : Int) % 256)] 5)).heap.size = w.heap.size + 1 from by simp] at hown
  go_wp2
  go_ret
  rw [hc.out]
  exact ⟨_, n + 4, rfl, by simp, by omega, row_of_owned hown, hb1.trans (hb2.mono hb1.size)⟩

end Go.Proofs.YtkakkjnbhklfpaaGreatDoor

/-
  Right values, kind by kind.
-/
namespace Go.Proofs.YtkakkjnbhklfpaaGreatDoor
open Go.RowKit
set_option maxRecDepth 4000

theorem okF_kinds {k n : Int} {s : ByteArray} (h : okF k n s = true) : (k = 0 ∧ n = 0 ∧ s = noBytes) ∨ (k = 1 ∧ (-2147483648 ≤ n ∧ n ≤ 2147483647) ∧ s = noBytes) ∨ (k = 2 ∧ (-1000000000000000 ≤ n ∧ n ≤ 1000000000000000) ∧ s = noBytes) ∨ (k = 3 ∧ n = 0 ∧ s.size ≤ 30) ∨ (k = 4 ∧ (0 ≤ n ∧ n ≤ 1) ∧ s = noBytes) := by
  by_cases h0 : k = 0
  · subst h0; rw [okF_spec0] at h; simp at h; exact .inl ⟨rfl, h⟩
  by_cases h1 : k = 1
  · subst h1; rw [okF_spec1] at h; simp at h; exact .inr (.inl ⟨rfl, h⟩)
  by_cases h2 : k = 2
  · subst h2; rw [okF_spec2] at h; simp at h; exact .inr (.inr (.inl ⟨rfl, h⟩))
  by_cases h3 : k = 3
  · subst h3; rw [okF_spec3] at h; simp at h; exact .inr (.inr (.inr (.inl ⟨rfl, h.2, h.1⟩)))
  by_cases h4 : k = 4
  · subst h4; rw [okF_spec4] at h; simp at h; exact .inr (.inr (.inr (.inr ⟨rfl, h⟩)))
  · rw [okF_specX n s h0 h1 h2 h3 h4] at h; cases h
end Go.Proofs.YtkakkjnbhklfpaaGreatDoor

/-
  The program's RowOk: as the model's.
-/
namespace Go.Proofs.YtkakkjnbhklfpaaGreatDoor
open Go.RowKit
set_option maxRecDepth 4000

theorem implRowOk_any (a : Option Addr) (n cap : Nat) (fc ft : Nat → Int) (fu fd : Nat → Bool) (a2 : Option Addr) (m c2 : Nat) (fk fn : Nat → Int) (fs : Nat → ByteArray) (w : World) (hp : PView w a n cap fc ft fu fd) (hq : VView w a2 m c2 fk fn fs) (hn : n ≤ 281474976710656) (_hm : m ≤ 281474976710656) :
    Calls Tryz.prog 64 #[.slice a n cap, .slice a2 m c2] w fun e w' => e = .returned (.bool (rowOk n fc ft fu m fk fn fs)) ∧ Below w.heap.size w w' := by
  obtain ⟨o, ho⟩ : ∃ o, Hid (rowOk n fc ft fu m fk fn fs = o) := ⟨_, rfl⟩
  rw [ho.out]
  go_enter Tryz.func64, Tryz.ntmps64
  go_wp2_with fail
  refine (implPlanOk_any a n cap fc ft fu fd w hp).mono ?_
  cases hpk : planOk n fc ft with
  | false =>
    have e : o = false := by rw [← ho.out]; unfold rowOk; rw [hpk]; rfl
    subst e
    rintro e w1 ⟨rfl, hb⟩
    go_wp2
    go_ret
    exact ⟨rfl, hb⟩
  | true =>
    rintro e w1 ⟨rfl, hb⟩
    by_cases hmn : m = n
    · subst hmn
      have e : fitsAllI m m ft fu fk fn fs = o := by rw [fitsAllI_ok hpk, ← ho.out]; unfold rowOk; rw [hpk]; simp
      have HE : Hid (fitsAllI m m ft fu fk fn fs = o) := e
      clear e ho
      replace hp := hp.below hb
      replace hq := hq.below hb
      go_wp2_with fail
      refine (implFitsAll_any a m cap fc ft fu fd a2 m c2 fk fn fs _ hp hq (by omega) (by omega)).mono ?_
      rw [HE.out]
      rintro e w2 ⟨rfl, hb2⟩
      replace hb := hb.trans (hb2.mono hb.size)
      clear hb2 hp hq
      go_wp2
      go_ret
      exact ⟨rfl, hb⟩
    · have e : o = false := by rw [← ho.out]; unfold rowOk; rw [hpk]; simp [hmn]
      subst e
      have hz : ¬ (m : Int) = (n : Int) := by omega
      have hz' : ¬ (n : Int) = (m : Int) := by omega
      clear hp hq
      go_wp2
      go_ret
      exact ⟨rfl, hb⟩
end Go.Proofs.YtkakkjnbhklfpaaGreatDoor

/-
  The program's HeadOf and KeyOf come to the plain ones.
-/
namespace Go.Proofs.YtkakkjnbhklfpaaGreatDoor
open Go.RowKit
set_option maxRecDepth 4000

set_option maxHeartbeats 4000000 in
theorem implHead_any (a : Option Addr) (n cap : Nat) (f : Nat → PDef) (t i : Int) (w : World) (h : LView w a n cap f) (hf : LFine n f) (hI : ChkI w) :
    Calls Tryz.prog 12 #[.slice a n cap, .int .i64 t, .int .i64 i] w (ByTo w (headB f n t i)) := by
  have hK := keyPlanOf_any a n cap f t i w h hf hI
  clear h hI
  go_enter Tryz.func12, Tryz.ntmps12
  go_wp2_with fail
  refine hK.mono ?_
  rintro e w1 ⟨hb1, hcase⟩
  clear hK
  rcases hcase with ⟨hT, g, c, rfl, -⟩ | ⟨hT, rfl⟩
  · have HL : Hid (headB f n t i = [t + 1, i + 1]) := by show _ = _; unfold headB; rw [if_pos hT]
    have ht : 0 ≤ t ∧ t ≤ 2 := by have := (firstF_none hT.1).1; have := hT.2; omega
    have hi : -1 ≤ i ∧ i ≤ 1 := by
      have h1 := (firstF_none hT.1).2.1 t.toNat (by have := hT.2; omega)
      have h2 := (checkF_good h1).2.2.2.1
      have := hT.2
      omega
    obtain ⟨N, hN⟩ : ∃ x, Hid (planN (f t.toNat) i = x) := ⟨_, rfl⟩
    rw [hN.out]
    have hb2 : Below w1.heap.size w1 (w1.alloc (.cells #[.slice (some ⟨g, 0, none⟩) N c, .int .u8 (t + 1), .int .u8 (i + 1)] 71)) := (Below.refl _ _).alloc (Nat.le_refl _) _
    have hv : View (w1.alloc (.cells #[.slice (some ⟨g, 0, none⟩) N c, .int .u8 (t + 1), .int .u8 (i + 1)] 71)) (some ⟨w1.heap.size, 1, none⟩) 2 2 (fun q => if q = 0 then t + 1 else i + 1) := by
      refine ⟨Nat.le_refl _, fun q hq => ?_, fun _ => ⟨_, _, rfl, by simp, fun q hq => ?_⟩⟩
      · by_cases e : q = 0
        · simp only [e, if_true]; omega
        · simp only [e, if_false]; omega
      · have hq' : q = 0 ∨ q = 1 := by omega
        rcases hq' with rfl | rfl <;> simp [go_sem]
    have hP := putBytes_any w1.heap.size 1 2 2 _ none 0 0 (fun _ => 0) _ hv ⟨Nat.le_refl _, fun _ hi => absurd hi (Nat.not_lt_zero _), fun h => absurd h (Nat.lt_irrefl _)⟩ (fun _ => ⟨rfl, rfl⟩) (by omega)
    have HB2 : Hid (Below w.heap.size w (w1.alloc (.cells #[.slice (some ⟨g, 0, none⟩) N c, .int .u8 (t + 1), .int .u8 (i + 1)] 71))) := hb1.trans (hb2.mono hb1.size)
    clear hv hb2 hb1
    go_wp2_with fail
    refine hP.mono ?_
    rintro e w3 ⟨rfl, hO, hb3⟩
    have HR : Hid (ByTo w (headB f n t i) (.returned (.slice (some ⟨(w1.alloc (.cells #[.slice (some ⟨g, 0, none⟩) N c, .int .u8 (t + 1), .int .u8 (i + 1)] 71)).heap.size, 0, none⟩) (2 + 0) (2 + 0))) w3) := by
      show ByTo _ _ _ _
      rw [HL.out]
      exact ByTo.low ⟨_, _, rfl, by simpa [lof, List.range_succ] using hO, hb3⟩ HB2.out
    clear hP hO hb3
    go_wp2
    go_ret
    simpa using HR.out
  · have HL : Hid (headB f n t i = []) := by show _ = _; unfold headB; rw [if_neg hT]
    have hb2 : Below w1.heap.size w1 (w1.alloc (.cells #[.slice none 0 0, .int .u8 0, .int .u8 0] 71)) := (Below.refl _ _).alloc (Nat.le_refl _) _
    have HR : Hid (ByTo w (headB f n t i) (.returned (.slice (some ⟨(w1.alloc (.cells #[.slice none 0 0, .int .u8 0, .int .u8 0] 71)).heap.size, 0, none⟩) 0 0)) ((w1.alloc (.cells #[.slice none 0 0, .int .u8 0, .int .u8 0] 71)).alloc (.cells #[] 5))) := by
      show ByTo _ _ _ _
      rw [HL.out]
      exact (ByTo.nil _).low (hb1.trans (hb2.mono hb1.size))
    clear hb1 hb2
    go_wp2
    go_ret
    simpa using HR.out
end Go.Proofs.YtkakkjnbhklfpaaGreatDoor

/-
  The program's rowPlanOf, takes and keyBytes come to the plain ones.
-/
namespace Go.Proofs.YtkakkjnbhklfpaaGreatDoor
open Go.RowKit
set_option maxRecDepth 4000

theorem rowIs_belowK {w w' : World} {b : Nat} {t : TypeId} {m : Nat} {f : Nat → Value} (h : w.rowIs b t m f) (hb : Below w.heap.size w w') (hlt : b < w.heap.size) : w'.rowIs b t m f := h.of_block (hb.block b hlt)

set_option maxHeartbeats 4000000 in
theorem rowPlanOf_any (v : Value) (D : PDef) (w : World) (h : DView w v D) (hf : DFine D) (hI : ChkI w) :
    Calls Tryz.prog 35 #[v] w fun e w' => ∃ g c, e = .returned (.agg #[.slice (some ⟨g, 0, none⟩) (rowN D) c]) ∧ w'.ownsRow w.heap.size 50 4 (.slice (some ⟨g, 0, none⟩) (rowN D) c) (rowN D) (rowG (encQ (plF D.col allL)) (rowN D)) ∧ Below w.heap.size w w' := by
  have hv := h
  obtain ⟨ac, cc, ap, cp, ai, ci, rfl, -, -, -⟩ := h.is
  clear h
  have hb0 : Below w.heap.size w ((w.alloc (.cells #[.string D.name, .slice ac D.nc cc, .slice ap D.np cp, .slice ai D.ni ci] 36)).alloc (.cells #[.slice none 0 0] 75)) := ((Below.refl _ _).alloc (Nat.le_refl _) _).alloc (by simp) _
  have V0 := World.rowIs_alloc (w.alloc (.cells #[.string D.name, .slice ac D.nc cc, .slice ap D.np cp, .slice ai D.ni ci] 36)) #[.slice none 0 0] 75 (fun _ => .slice none 0 0) (fun i hi => by
    have : i = 0 := by simpa using hi
    subst this; rfl)
  rw [alloc_size9] at V0
  have hG := implRowPlan_any _ D _ (hv.below hb0) hf (hI.below hb0)
  have x0 : ((w.alloc (.cells #[.string D.name, .slice ac D.nc cc, .slice ap D.np cp, .slice ai D.ni ci] 36)).alloc (.cells #[.slice none 0 0] 75)).cell? ⟨w.heap.size, 0, none⟩ = some (.string D.name) := by simp [go_sem]
  have x1 : ((w.alloc (.cells #[.string D.name, .slice ac D.nc cc, .slice ap D.np cp, .slice ai D.ni ci] 36)).alloc (.cells #[.slice none 0 0] 75)).cell? ⟨w.heap.size, 1, none⟩ = some (.slice ac D.nc cc) := by simp [go_sem]
  have x2 : ((w.alloc (.cells #[.string D.name, .slice ac D.nc cc, .slice ap D.np cp, .slice ai D.ni ci] 36)).alloc (.cells #[.slice none 0 0] 75)).cell? ⟨w.heap.size, 2, none⟩ = some (.slice ap D.np cp) := by simp [go_sem]
  have x3 : ((w.alloc (.cells #[.string D.name, .slice ac D.nc cc, .slice ap D.np cp, .slice ai D.ni ci] 36)).alloc (.cells #[.slice none 0 0] 75)).cell? ⟨w.heap.size, 3, none⟩ = some (.slice ai D.ni ci) := by simp [go_sem]
  obtain ⟨W0, hW0⟩ : ∃ W, Hid ((w.alloc (.cells #[.string D.name, .slice ac D.nc cc, .slice ap D.np cp, .slice ai D.ni ci] 36)).alloc (.cells #[.slice none 0 0] 75) = W) := ⟨_, rfl⟩
  rw [hW0.out] at hb0 V0 hG x0 x1 x2 x3
  obtain ⟨N, hN⟩ : ∃ x, Hid (rowN D = x) := ⟨_, rfl⟩
  rw [hN.out] at hG
  rw [hN.out]
  clear hI hf hv
  go_enter Tryz.func35, Tryz.ntmps35
  go_wp2_with (rw [hW0.out])
  refine hG.mono ?_
  rintro e w1 ⟨g, c, rfl, hO, hb1⟩
  have hlt := V0.lt
  have V1 := rowIs_belowK V0 hb1 hlt
  have z0 := V1.cell (i := 0) (by simp)
  have f0 := V1.frozen 0
  have V2 := V1.set 0 (.slice (some ⟨g, 0, none⟩) N c)
  have z1 := V2.cell (i := 0) (by simp)
  simp only [if_true] at z1
  have hg := own_ge9 hO g (by simp [Value.ownBlock])
  have HR : Hid (Below w.heap.size w (w1.setCell ⟨w.heap.size + 1, 0, none⟩ (.slice (some ⟨g, 0, none⟩) N c)) ∧ (w1.setCell ⟨w.heap.size + 1, 0, none⟩ (.slice (some ⟨g, 0, none⟩) N c)).ownsRow w.heap.size 50 4 (.slice (some ⟨g, 0, none⟩) N c) N (rowG (encQ (plF D.col allL)) N)) := by
    refine ⟨(hb0.trans (hb1.mono hb0.size)).setCell (p := ⟨w.heap.size + 1, 0, none⟩) (by simp) _, ?_⟩
    have h1 := own_low hO hb0.size
    refine ⟨h1.1, ?_⟩
    rcases h1.2 with ⟨e, h0⟩ | ⟨g', k', cur, e, hb0', hg', hr'⟩
    · cases e
    · cases e
      exact .inr ⟨g, c, cur, rfl, hb0', (Below.heap_setCell _ _ _ _ (show g ≠ w.heap.size + 1 by omega)).trans hg', hr'⟩
  clear hG hO hb1 V0 V1 V2 hb0
  go_wp2
  refine bodyPost_ret (v := .agg #[.slice (some ⟨g, 0, none⟩) N c]) (by simp [results, Tryz.results35, go_sem, z1]) rfl ⟨g, c, rfl, HR.out.2, HR.out.1⟩

set_option maxHeartbeats 2000000 in
theorem takes_any (a : Option Addr) (n cap : Nat) (P : Nat → PPart) (a2 : Option Addr) (m c2 : Nat) (fk fn : Nat → Int) (fs : Nat → ByteArray) (w : World) (hp : QView w a n cap P) (hq : VView w a2 m c2 fk fn fs) (hn : n ≤ 1048576) (hm : m ≤ 1048576) :
    Calls Tryz.prog 36 #[.slice a n cap, .slice a2 m c2] w fun e w' => e = .returned (.bool (rowOk n (fun i => (P i).col) (fun i => (P i).type) (fun i => (P i).null) m fk fn fs)) ∧ Below w.heap.size w w' := by
  have hR := implRowOk_any a n cap _ _ _ _ a2 m c2 fk fn fs w hp hq (by omega) (by omega)
  obtain ⟨r, hr⟩ : ∃ r, Hid (rowOk n (fun i => (P i).col) (fun i => (P i).type) (fun i => (P i).null) m fk fn fs = r) := ⟨_, rfl⟩
  rw [hr.out] at hR
  rw [hr.out]
  clear hp hq
  go_enter Tryz.func36, Tryz.ntmps36
  go_wp2_with fail
  refine hR.mono ?_
  rintro e w1 ⟨rfl, hb⟩
  have HB : Hid (Below w.heap.size w w1) := hb
  clear hR hb
  go_wp2
  go_ret
  exact ⟨rfl, HB.out⟩

set_option maxHeartbeats 2000000 in
theorem keyBytes_any (a : Option Addr) (n cap : Nat) (P : Nat → PPart) (a2 : Option Addr) (m c2 : Nat) (fk fn : Nat → Int) (fs : Nat → ByteArray) (w : World) (hp : QView w a n cap P) (hq : VView w a2 m c2 fk fn fs) (hn : n ≤ 1048576) (hm : m ≤ 1048576) (hs : ∀ i, i < m → (fs i).size ≤ 1048576) :
    Calls Tryz.prog 38 #[.slice a n cap, .slice a2 m c2] w fun e w' => ∃ g cg, e = .returned (.slice (some ⟨g, 0, none⟩) (keyQ n P m fk fn fs).length cg) ∧ EncTo w w' g cg (keyQ n P m fk fn fs) := by
  have hR := implPick_any a n cap _ _ _ _ a2 m c2 fk fn fs w hp hq hn (by omega) (fun i hi => by have := hs i hi; omega)
  have HE : Hid (∀ (W : World) (a3 : Option Addr) (c3 : Nat), Below w.heap.size w W → VView W a3 n c3 (pickK (fun i => (P i).col) m fk) (pickK (fun i => (P i).col) m fn) (pickS (fun i => (P i).col) m fs) → Calls Tryz.prog 65 #[.slice a n cap, .slice a3 n c3] W fun e w' => ∃ g cg, e = .returned (.slice (some ⟨g, 0, none⟩) (keyQ n P m fk fn fs).length cg) ∧ EncTo W w' g cg (keyQ n P m fk fn fs)) := fun W a3 c3 hb hv => implEncodeKey_any a n cap _ _ _ _ a3 n c3 _ _ _ W (PView.below hp hb) hv (by omega) (by omega)
  obtain ⟨L, hL⟩ : ∃ L, Hid (keyQ n P m fk fn fs = L) := ⟨_, rfl⟩
  simp only [hL.out] at HE
  rw [hL.out]
  clear hp hq hs
  go_enter Tryz.func38, Tryz.ntmps38
  go_wp2_with fail
  refine hR.mono ?_
  rintro e w1 ⟨v, rfl, hne, hO, hb⟩
  obtain ⟨a3, c3, rfl, hv3, -⟩ := vview_of_own hO
  have hE := HE.out w1 a3 c3 hb hv3
  have HB : Hid (Below w.heap.size w w1) := hb
  clear hR hO hb hv3 hne HE
  go_wp2_with fail
  refine hE.mono ?_
  rintro e w2 ⟨g, cg, rfl, hT⟩
  have HR : Hid (EncTo w w2 g cg L) := ⟨hT.row, Nat.le_trans HB.out.size hT.new, hT.le, HB.out.trans (hT.below.mono HB.out.size)⟩
  clear hE hT
  go_wp2
  go_ret
  exact ⟨g, cg, rfl, HR.out⟩
end Go.Proofs.YtkakkjnbhklfpaaGreatDoor

/-
  What putting behind bytes comes to.
-/
namespace Go.Proofs.YtkakkjnbhklfpaaGreatDoor
open Go.RowKit
set_option maxRecDepth 4000

theorem EncTo.byte {w wr : World} {g cg : Nat} {L : List Int} (h : EncTo w wr g cg L) (hb : ∀ y ∈ L, 0 ≤ y ∧ y ≤ 255) : View wr (some ⟨g, 0, none⟩) L.length cg (fun i => L.getD i 0) :=
  h.row.view h.le (fun i hi => by
    have e : L.getD i 0 = L[i] := by simp [List.getD, List.getElem?_eq_getElem hi]
    show 0 ≤ L.getD i 0 ∧ L.getD i 0 ≤ 255
    rw [e]; exact hb _ (List.getElem_mem hi))
/-- What putting behind L comes to. -/
def EncMore (w W : World) (L : List Int) (e : Ending) (w' : World) : Prop := ∃ g c, e = .returned (.slice (some ⟨g, 0, none⟩) L.length c) ∧ EncTo w w' g c L ∧ Below W.heap.size W w'
theorem own_baseE {w : World} {base base' : Nat} {t : TypeId} {size : Nat} {v : Value} {n : Nat} {l : List Value} (h : w.ownsRow base t size v n l) (hb : base' ≤ base) : w.ownsRow base' t size v n l := by
  obtain ⟨hl, h⟩ := h
  rcases h with h | ⟨g, c, cur, e, hg, r⟩
  · exact ⟨hl, .inl h⟩
  · exact ⟨hl, .inr ⟨g, c, cur, e, Nat.le_trans hb hg, r⟩⟩
end Go.Proofs.YtkakkjnbhklfpaaGreatDoor

/-
  The program's KeyOf comes to the plain one.
-/
namespace Go.Proofs.YtkakkjnbhklfpaaGreatDoor
open Go.RowKit
set_option maxRecDepth 4000

theorem rp_field (g N c : Nat) (W : World) : (Instr.field 75 (.agg #[.slice (some ⟨g, 0, none⟩) N c]) 0).run Tryz.prog W = .ok (.slice (some ⟨g, 0, none⟩) N c) W := by kernel_rfl
set_option maxHeartbeats 4000000 in
theorem implKey_any (a : Option Addr) (n cap : Nat) (f : Nat → PDef) (t i : Int) (a2 : Option Addr) (m c2 : Nat) (fk fn : Nat → Int) (fs : Nat → ByteArray) (w : World) (h : LView w a n cap f) (hf : LFine n f) (hq : VView w a2 m c2 fk fn fs) (hm : m ≤ 1048576) (hs : ∀ i, i < m → (fs i).size ≤ 1048576) (hI : ChkI w) :
    Calls Tryz.prog 11 #[.slice a n cap, .int .i64 t, .int .i64 i, .slice a2 m c2] w (ByTo w (keyB f n t i m fk fn fs)) := by
  have hK := keyPlanOf_any a n cap f t i w h hf hI
  have HVL : Hid (∀ W, Below w.heap.size w W → LView W a n cap f) := fun W hb => h.below hb
  have HRP : Hid (∀ (W : World) (v : Value) (j : Nat), Below w.heap.size w W → j < n → DView W v (f j) → Calls Tryz.prog 35 #[v] W fun e w' => ∃ g c, e = .returned (.agg #[.slice (some ⟨g, 0, none⟩) (rowN (f j)) c]) ∧ w'.ownsRow W.heap.size 50 4 (.slice (some ⟨g, 0, none⟩) (rowN (f j)) c) (rowN (f j)) (rowG (encQ (plF (f j).col allL)) (rowN (f j))) ∧ Below W.heap.size W w') := fun W v j hb hj hd => rowPlanOf_any v (f j) W hd (hf.at_ j hj) (hI.below hb)
  have HTK : Hid (∀ (W : World) (g c : Nat) (N : Nat) (P : Nat → PPart), Below w.heap.size w W → QView W (some ⟨g, 0, none⟩) N c P → N ≤ 6 → Calls Tryz.prog 36 #[.slice (some ⟨g, 0, none⟩) N c, .slice a2 m c2] W fun e w' => e = .returned (.bool (rowOk N (fun i => (P i).col) (fun i => (P i).type) (fun i => (P i).null) m fk fn fs)) ∧ Below W.heap.size W w') := fun W g c N P hb hp hN => takes_any _ N c P a2 m c2 fk fn fs W hp (hq.below hb) (by omega) hm
  have HKB : Hid (∀ (W : World) (g c : Nat) (N : Nat) (P : Nat → PPart), Below w.heap.size w W → QView W (some ⟨g, 0, none⟩) N c P → N ≤ 6 → Calls Tryz.prog 38 #[.slice (some ⟨g, 0, none⟩) N c, .slice a2 m c2] W fun e w' => ∃ g2 cg, e = .returned (.slice (some ⟨g2, 0, none⟩) (keyQ N P m fk fn fs).length cg) ∧ EncTo W w' g2 cg (keyQ N P m fk fn fs)) := fun W g c N P hb hp hN => keyBytes_any _ N c P a2 m c2 fk fn fs W hp (hq.below hb) (by omega) hm hs
  clear h hf hq hs hI
  go_enter Tryz.func11, Tryz.ntmps11
  go_wp2_with fail
  refine hK.mono ?_
  rintro e w1 ⟨hb1, hcase⟩
  clear hK
  rcases hcase with ⟨hT, g, c, rfl, hO⟩ | ⟨hT, rfl⟩
  · obtain ⟨ht, hi⟩ := hT.small
    have hN6 := planN_le (f t.toNat) i
    obtain ⟨j, rfl⟩ : ∃ j : Nat, t = j := ⟨t.toNat, by omega⟩
    have hjn : j < n := by have := hT.2.2.1; omega
    simp only [Int.toNat_natCast] at hO hN6 ⊢
    have HKY : Hid (∀ r, rowOkD (f j) m fk fn fs = r → keyB f n (j : Int) i m fk fn fs = if r = true then [(j : Int) + 1, i + 1] ++ keyQ (planN (f j) i) (plF (f j).col (planL (f j) i)) m fk fn fs else []) := by
      rintro r rfl
      unfold keyB
      simp only [Int.toNat_natCast]
      by_cases e : rowOkD (f j) m fk fn fs = true
      · rw [if_pos ⟨hT, e⟩, if_pos e]
      · rw [if_neg (fun h => e h.2), if_neg e]
    obtain ⟨N, hN⟩ : ∃ x, Hid (planN (f j) i = x) := ⟨_, rfl⟩
    obtain ⟨P, hP⟩ : ∃ x, Hid (plF (f j).col (planL (f j) i) = x) := ⟨_, rfl⟩
    simp only [hN.out, hP.out] at hO hN6 HKY
    rw [hN.out]
    have hb2 : Below w1.heap.size w1 (w1.alloc (.cells #[.slice (some ⟨g, 0, none⟩) N c, .int .u8 ((j : Int) + 1), .int .u8 (i + 1)] 71)) := (Below.refl _ _).alloc (Nat.le_refl _) _
    have V2 := V3.new w1 71 (.slice (some ⟨g, 0, none⟩) N c) (.int .u8 ((j : Int) + 1)) (.int .u8 (i + 1))
    have hO2 := own_belowG hO hb2
    have hB2 : Below w.heap.size w (w1.alloc (.cells #[.slice (some ⟨g, 0, none⟩) N c, .int .u8 ((j : Int) + 1), .int .u8 (i + 1)] 71)) := hb1.trans (hb2.mono hb1.size)
    obtain ⟨w2, hw2⟩ : ∃ W, Hid (w1.alloc (.cells #[.slice (some ⟨g, 0, none⟩) N c, .int .u8 ((j : Int) + 1), .int .u8 (i + 1)] 71) = W) := ⟨_, rfl⟩
    obtain ⟨X, hX⟩ : ∃ x, Hid (w1.heap.size = x) := ⟨_, rfl⟩
    rw [hw2.out] at V2 hO2 hB2
    rw [hX.out] at V2
    obtain ⟨b1, o1, rfl, hbb, hc1⟩ := (HVL.out w2 hB2).cells (by omega)
    obtain ⟨y1, y2, y3, x0, x1, x2, x3, hv⟩ := hc1 j hjn
    have hjz : (j : Int) < (n : Int) := by omega
    have hjz0 : ¬ (j : Int) < 0 := by omega
    have hR := HRP.out w2 _ j hB2 hjn hv
    obtain ⟨p0, hp0⟩ : ∃ x, Hid ((f j).name = x) := ⟨_, rfl⟩
    simp only [hp0.out] at x0 hR
    clear hO hb1 hb2 hc1 hv HVL HRP
    go_wp2_with (rw [hX.out, hw2.out])
    refine hR.mono ?_
    rintro e w3 ⟨g3, c3, rfl, hO3, hb3⟩
    have hV3 := V2.below hb3
    have hOp := own_belowG hO2 hb3
    have hB3 := hB2.trans (hb3.mono hB2.size)
    have hTk := HTK.out w3 g3 c3 _ _ hB3 (qview_of_own hO3) (rowN6 (f j))
    have HRO : Hid (rowOk (rowN (f j)) (fun i => (plF (f j).col allL i).col) (fun i => (plF (f j).col allL i).type) (fun i => (plF (f j).col allL i).null) m fk fn fs = rowOkD (f j) m fk fn fs) := rfl
    obtain ⟨r, hr⟩ : ∃ r, Hid (rowOkD (f j) m fk fn fs = r) := ⟨_, rfl⟩
    rw [HRO.out, hr.out] at hTk
    obtain ⟨RN, hRN⟩ : ∃ x, Hid (rowN (f j) = x) := ⟨_, rfl⟩
    rw [hRN.out] at hTk ⊢
    have hfd := fun W => rp_field g3 RN c3 W
    clear hR hO3 hb3 V2 hO2 hB2 HTK x0 x1 x2 x3 HRO
    go_wp2_with fail
    refine hTk.mono ?_
    rintro e w4 ⟨rfl, hb4⟩
    have V4' := hV3.below hb4
    have hO4 := own_belowG hOp hb4
    have hB4 := hB3.trans (hb4.mono hB3.size)
    clear hTk hb4 hV3 hOp hB3 hfd
    cases r with
    | false =>
      have HR : Hid (ByTo w (keyB f n (j : Int) i m fk fn fs) (.returned (.slice (some ⟨w4.heap.size, 0, none⟩) 0 0)) (w4.alloc (.cells #[] 5))) := by
        show ByTo _ _ _ _
        rw [HKY.out false hr.out, if_neg (by decide)]
        exact (ByTo.nil w4).low hB4
      clear V4' hO4 hB4 HKB
      go_wp2
      go_ret
      exact HR.out
    | true =>
      have HKK : Hid (keyB f n (j : Int) i m fk fn fs = [(j : Int) + 1, i + 1] ++ keyQ N P m fk fn fs) := by show _ = _; rw [HKY.out true hr.out, if_pos rfl]
      have hKB := fun (W : World) (hb : Below w4.heap.size w4 W) => HKB.out W g c N P (hB4.trans (hb.mono hB4.size)) (PView.below (qview_of_own hO4) hb) hN6
      have HQB : Hid ((∀ y ∈ keyQ N P m fk fn fs, 0 ≤ y ∧ y ≤ 255) ∧ (keyQ N P m fk fn fs).length ≤ 414) := ⟨keyL_byte _ _ _ _ _ _ _ _ _, keyL_len _ _ _ _ _ _ _ _ _⟩
      obtain ⟨L, hL⟩ : ∃ x, Hid (keyQ N P m fk fn fs = x) := ⟨_, rfl⟩
      simp only [hL.out] at hKB HKK HQB
      have hL4 := HQB.out.2
      have HWK : Hid (∀ W, Below w4.heap.size w4 W → V3 W X 71 (.slice (some ⟨g, 0, none⟩) N c) (.int .u8 ((j : Int) + 1)) (.int .u8 (i + 1))) := fun W hb => V4'.below hb
      obtain ⟨q0, q1, q2⟩ := V4'.cells
      have hPB := fun (W : World) (g2 cg : Nat) (hb : Below w4.heap.size w4 W) (hv2 : View W (some ⟨g2, 0, none⟩) L.length cg (fun q => L.getD q 0)) => putBytes_any X 1 2 2 (fun q => if q = 0 then (j : Int) + 1 else i + 1) (some ⟨g2, 0, none⟩) L.length cg (fun q => L.getD q 0) W (by
        obtain ⟨e0, e1, e2⟩ := (V4'.below hb).cells
        refine ⟨Nat.le_refl _, fun q hq => ?_, fun _ => ⟨_, _, rfl, (V4'.below hb).lt, fun q hq => ?_⟩⟩
        · by_cases e : q = 0
          · simp only [e, if_true]; omega
          · simp only [e, if_false]; omega
        · have hq' : q = 0 ∨ q = 1 := by omega
          rcases hq' with rfl | rfl
          · simpa using e1
          · simpa using e2) hv2 (fun e => by cases e) (by omega)
      have HB4 : Hid (Below w.heap.size w w4) := hB4
      clear hO4 hB4 HKB V4'
      go_wp2_with fail
      go_region_held3 (fun WW => WW.cell? ⟨X, 0, none⟩ = some (.slice (some ⟨g, 0, none⟩) N c)) (first | assumption | go_keep) (first
        | (go_at_call 38; refine (hKB _ (by repeat (first | exact Below.refl _ _ | refine Below.drew ?_))).mono ?_; rintro e w5 ⟨g5, c5, rfl, hE5⟩; have hb5 : Below w4.heap.size w4 w5 := Below.trans (by repeat (first | exact Below.refl _ _ | refine Below.drew ?_)) hE5.below; have hv5 := hE5.byte HQB.out.1; have hcells := (HWK.out _ hb5).cells.1)
        | (go_at_call 37; refine (hPB _ g5 c5 (by repeat (first | exact hb5 | refine Below.drew ?_)) (by first | exact hv5 | exact hv5.below (Below.refl _ _).drew)).mono ?_; rintro e w6 ⟨rfl, hO6, hB6⟩; have hb6 : Below w4.heap.size w4 w6 := Below.trans hb5 (Below.trans (by repeat (first | exact Below.refl _ _ | refine Below.drew ?_)) (hB6.mono (by have := hb5.size; exact this))); have hcells6 := (HWK.out _ hb6).cells.1))
      all_goals
        have HR : Hid (∀ g', (.slice (some ⟨g', 0, none⟩) (2 + L.length) (2 + L.length) : Value) = .slice (some ⟨w5.heap.size, 0, none⟩) (2 + L.length) (2 + L.length) → ByTo w (keyB f n (j : Int) i m fk fn fs) (.returned (.slice (some ⟨g', 0, none⟩) (2 + L.length) (2 + L.length))) w6) := by
          intro g' e
          cases e
          rw [HKK.out]
          have e2 : lof 2 (fun q => if q = 0 then (j : Int) + 1 else i + 1) ++ lof L.length (fun q => L.getD q 0) = [(j : Int) + 1, i + 1] ++ L := by
            rw [lof_self]; simp [lof, List.range_succ]
          have e3 : ([(j : Int) + 1, i + 1] ++ L).length = 2 + L.length := by simp; omega
          refine ByTo.low (w := w4) ?_ HB4.out
          refine ⟨w5.heap.size, 2 + L.length, by rw [e3], ?_, hb6⟩
          rw [e3, ← e2]
          first | exact own_low hO6 (by have := hb5.size; exact this) | exact own_low (by simpa using hO6) (by have := hb5.size; exact this)
        clear hb5 hb6 hB6 hO6 hv5 hE5 hcells hcells6 hKB hPB HWK
        go_wp2
        go_ret
        exact HR.out _ rfl
  · have HL : Hid (keyB f n t i m fk fn fs = []) := by show _ = _; unfold keyB; rw [if_neg (fun h => hT h.1)]
    have hb2 : Below w1.heap.size w1 (w1.alloc (.cells #[.slice none 0 0, .int .u8 0, .int .u8 0] 71)) := (Below.refl _ _).alloc (Nat.le_refl _) _
    have HR : Hid (ByTo w (keyB f n t i m fk fn fs) (.returned (.slice (some ⟨(w1.alloc (.cells #[.slice none 0 0, .int .u8 0, .int .u8 0] 71)).heap.size, 0, none⟩) 0 0)) ((w1.alloc (.cells #[.slice none 0 0, .int .u8 0, .int .u8 0] 71)).alloc (.cells #[] 5))) := by
      show ByTo _ _ _ _
      rw [HL.out]
      exact (ByTo.nil _).low (hb1.trans (hb2.mono hb1.size))
    clear hb1 hb2 HVL HRP HTK HKB
    go_wp2
    go_ret
    simpa using HR.out
end Go.Proofs.YtkakkjnbhklfpaaGreatDoor

/-
  A key's bytes are few.
-/
namespace Go.Proofs.YtkakkjnbhklfpaaGreatDoor
open Go.RowKit
set_option maxRecDepth 4000

theorem keyB_len (f : Nat → PDef) (n : Nat) (j : Nat) (i : Int) (m : Nat) (fk fn : Nat → Int) (fs : Nat → ByteArray) : (keyB f n (j : Int) i m fk fn fs).length ≤ 416 := by
  unfold keyB
  split
  · rw [List.length_append]
    have := keyL_len (planN (f (j : Int).toNat) i) (fun q => (plF (f (j : Int).toNat).col (planL (f (j : Int).toNat) i) q).col) (fun q => (plF (f (j : Int).toNat).col (planL (f (j : Int).toNat) i) q).type) (fun q => (plF (f (j : Int).toNat).col (planL (f (j : Int).toNat) i) q).null) (fun q => (plF (f (j : Int).toNat).col (planL (f (j : Int).toNat) i) q).desc) (planN (f (j : Int).toNat) i) (pickK (fun q => (plF (f (j : Int).toNat).col (planL (f (j : Int).toNat) i) q).col) m fk) (pickK (fun q => (plF (f (j : Int).toNat).col (planL (f (j : Int).toNat) i) q).col) m fn) (pickS (fun q => (plF (f (j : Int).toNat).col (planL (f (j : Int).toNat) i) q).col) m fs)
    show 2 + _ ≤ 416
    unfold keyQ
    omega
  · simp
end Go.Proofs.YtkakkjnbhklfpaaGreatDoor

/-
  The program's SameVal: whether two values are alike.
-/
namespace Go.Proofs.YtkakkjnbhklfpaaGreatDoor
open Go.RowKit
set_option maxRecDepth 4000

set_option maxHeartbeats 1000000 in
theorem sameVal_impl (k n : Int) (s : ByteArray) (k' n' : Int) (s' : ByteArray) (w : World) :
    Calls Tryz.prog 28 #[.agg #[.int .i64 k, .int .i64 n, .string s], .agg #[.int .i64 k', .int .i64 n', .string s']] w fun e w' => e = .returned (.bool (eqV k n s k' n' s')) ∧ Below w.heap.size w w' := by
  have q := eqVal_run k n s k' n' s'
  go_enter Tryz.func28, Tryz.ntmps28
  go_wp2
  go_ret
  refine ⟨rfl, ?_⟩
  repeat (first | exact Below.refl _ _ | refine Below.alloc ?_ (by simp <;> omega) _ | refine Below.drew ?_)

end Go.Proofs.YtkakkjnbhklfpaaGreatDoor

/-
  The program's SameRow.
-/
namespace Go.Proofs.YtkakkjnbhklfpaaGreatDoor
open Go.RowKit
set_option maxRecDepth 4000

set_option maxHeartbeats 2000000 in
theorem equalFunc_any (a1 a2 : Option Addr) (n m c1 c2 : Nat) (fk fn : Nat → Int) (fs : Nat → ByteArray) (gk gn : Nat → Int) (gs : Nat → ByteArray) (w : World) (h1 : VView w a1 n c1 fk fn fs) (h2 : VView w a2 m c2 gk gn gs) (hn : n ≤ 281474976710656) (hm : m ≤ 281474976710656) :
    Calls Tryz.prog 27 #[.slice a1 n c1, .slice a2 m c2, .func (.func 28) #[] #[]] w fun e w' => e = .returned (.bool (rowEq n m fk fn fs gk gn gs)) ∧ Below w.heap.size w w' := by
  by_cases e : n = m
  case neg =>
    have e1 : ((n : Int) != (m : Int)) = true := by simp; omega
    have er : rowEq n m fk fn fs gk gn gs = false := by unfold rowEq; rw [decide_eq_false e]; rfl
    rw [er]
    go_enter Tryz.func27, Tryz.ntmps27
    go_wp2
    go_ret
    exact ⟨rfl, Below.refl _ _⟩
  subst e
  have er : rowEq n n fk fn fs gk gn gs = allEq fk fn fs gk gn gs n := by unfold rowEq; simp
  rw [er]
  clear er
  go_enter Tryz.func27, Tryz.ntmps27
  go_wp2
  go_loopg [17] n (fun q i wr => ∃ k : Nat, k ≤ n ∧ q = n - k ∧ i = .int .i64 k ∧ Below w.heap.size w wr ∧ allEq fk fn fs gk gn gs k = true)
  case atStart => exact ⟨0, Nat.zero_le _, rfl, rfl, Below.refl _ _, rfl⟩
  case round =>
    obtain ⟨k, hk, rfl, rfl, hB, hA⟩ := hrel
    by_cases hlt : k < n
    · obtain ⟨b1, o1, rfl, hb1, hc1⟩ := (h1.below hB).cells (by omega)
      obtain ⟨b2, o2, rfl, hb2, hc2⟩ := (h2.below hB).cells (by omega)
      obtain ⟨x0, x1, x2⟩ := hc1 k hlt
      obtain ⟨y0, y1, y2⟩ := hc2 k hlt
      have hkz : (k : Int) < (n : Int) := by omega
      have hV := fun W => sameVal_impl (fk k) (fn k) (fs k) (gk k) (gn k) (gs k) W
      have hS : Hid (allEq fk fn fs gk gn gs (k + 1) = eqV (fk k) (fn k) (fs k) (gk k) (gn k) (gs k)) := by
        show allEq fk fn fs gk gn gs (k + 1) = _
        simp only [allEq, hA, Bool.true_and]
      have hbad : Hid (eqV (fk k) (fn k) (fs k) (gk k) (gn k) (gs k) = false → allEq fk fn fs gk gn gs n = false) := fun h => allEq_bad h n hlt
      clear hc1 hc2 h1 h2 hA
      generalize eqV (fk k) (fn k) (fs k) (gk k) (gn k) (gs k) = z at *
      generalize fk k = p0 at *
      generalize fn k = p1 at *
      generalize fs k = p2 at *
      generalize gk k = r0 at *
      generalize gn k = r1 at *
      generalize gs k = r2 at *
      go_wp2_with fail
      refine (hV _).mono ?_
      rintro e w2 ⟨rfl, hB2⟩
      have hB3 : Below w.heap.size w w2 := ((hB.alloc hB.size _).alloc (by have := hB.size; simp; omega) _).trans (hB2.mono (by have := hB.size; simp; omega))
      clear hB2 hV x0 x1 x2 y0 y1 y2 hb1 hb2
      cases z
      · have hbad2 : Hid (allEq fk fn fs gk gn gs n = false) := hbad.out rfl
        clear hbad
        go_wp2
        go_ret
        exact ⟨by rw [hbad2.out]; rfl, hB3⟩
      · go_wp2
        go_roundg (n - (k + 1))
        case measure => omega
        case rel => exact ⟨k + 1, by omega, rfl, by go_num, hB3, hS.out⟩
    · have hkn : k = n := by omega
      have hA : Hid (allEq fk fn fs gk gn gs n = true) := by rw [← hkn]; exact hA
      go_wp2
      go_ret
      exact ⟨by rw [hA.out]; rfl, hB⟩
set_option maxHeartbeats 2000000 in
theorem sameRow_impl (a1 a2 : Option Addr) (n m c1 c2 : Nat) (fk fn : Nat → Int) (fs : Nat → ByteArray) (gk gn : Nat → Int) (gs : Nat → ByteArray) (w : World) (h1 : VView w a1 n c1 fk fn fs) (h2 : VView w a2 m c2 gk gn gs) (hn : n ≤ 281474976710656) (hm : m ≤ 281474976710656) :
    Calls Tryz.prog 7 #[.slice a1 n c1, .slice a2 m c2] w fun e w' => e = .returned (.bool (rowEq n m fk fn fs gk gn gs)) ∧ Below w.heap.size w w' := by
  have hE := equalFunc_any a1 a2 n m c1 c2 fk fn fs gk gn gs w h1 h2 hn hm
  clear h1 h2
  generalize rowEq n m fk fn fs gk gn gs = z at *
  go_enter Tryz.func7, Tryz.ntmps7
  go_wp2_with fail
  refine hE.mono ?_
  rintro e w1 ⟨rfl, hB⟩
  go_wp2
  go_ret
  exact ⟨rfl, hB⟩

end Go.Proofs.YtkakkjnbhklfpaaGreatDoor

/-
  Before, the program's: whether bytes are ahead of others, as texts are.
-/
namespace Go.Proofs.YtkakkjnbhklfpaaGreatDoor
open Go.RowKit
set_option maxRecDepth 4000

theorem cmp_lt : ∀ a b : List UInt8, decide (Lib.compareBytes a b < 0) = Op.bytesLess a b
  | [], [] => by simp [Lib.compareBytes, Op.bytesLess]
  | [], _ :: _ => by simp [Lib.compareBytes, Op.bytesLess]
  | _ :: _, [] => by simp [Lib.compareBytes, Op.bytesLess]
  | x :: xs, y :: ys => by
    have ih := cmp_lt xs ys
    simp only [Lib.compareBytes, Op.bytesLess]
    by_cases h1 : x < y
    · simp [h1]
    · by_cases h2 : y < x
      · have hne : (x == y) = false := by
          simp only [beq_eq_false_iff_ne, ne_eq]
          intro e; subst e; exact h1 h2
        simp [h1, h2, hne]
      · have he : x = y := by
          apply UInt8.toNat_inj.1
          simp only [UInt8.lt_iff_toNat_lt] at h1 h2
          omega
        subst he
        simp [h1, ih]

theorem bytes_view {w : World} {b off n cap : Nat} {f : Nat → Int} (hv : View w (some ⟨b, off, none⟩) n cap f) :
    (Extern.Bytes.bytesOf (.slice (some ⟨b, off, none⟩) n cap)).run Tryz.prog w = .ok (strOfNums (lof n f)) w := by
  have hl := Lib.run_loadBytesX (P := Tryz.prog) w (lof n f) ⟨b, off, none⟩ .empty (fun j x hj => by
    have hjl : j < (lof n f).length := (List.getElem?_eq_some_iff.1 hj).1
    rw [lof_len] at hjl
    obtain ⟨b', off', e', _, hc⟩ := hv.cells (by omega)
    simp only [Option.some.injEq, Addr.mk.injEq, and_true] at e'
    obtain ⟨rfl, rfl⟩ := e'
    have e : (⟨b, off, none⟩ : Addr).add j = ⟨b, off + j, none⟩ := by unfold Addr.add; split <;> simp_all
    rw [e, hc j hjl]
    have hg : (lof n f).getD j 0 = x := by rw [List.getD_eq_getElem?_getD, hj]; rfl
    rw [← hg, lof_get n f j hjl])
  rw [lof_len] at hl
  have he : (⟨ByteArray.empty.data ++ (Lib.bytesOf (lof n f)).toArray⟩ : ByteArray) = strOfNums (lof n f) := by
    apply ByteArray.ext
    show (#[] : Array UInt8) ++ (Lib.bytesOf (lof n f)).toArray = (strOfNums (lof n f)).data
    simp [strOfNums, Lib.bytesOf]
  rw [he] at hl
  exact hl

theorem run_compareS {w : World} {b1 o1 n c1 : Nat} {f : Nat → Int} {b2 o2 m c2 : Nat} {g : Nat → Int} (h1 : View w (some ⟨b1, o1, none⟩) n c1 f) (h2 : View w (some ⟨b2, o2, none⟩) m c2 g) :
    (Extern.BytealgCompare.compare #[.slice (some ⟨b1, o1, none⟩) n c1, .slice (some ⟨b2, o2, none⟩) m c2]).run Tryz.prog w = .ok (.int .i64 (Lib.compareBytes (strOfNums (lof n f)).data.toList (strOfNums (lof m g)).data.toList)) w := by
  change Sem.run Tryz.prog (do pure (goInt (Extern.BytealgCompare.cmp (← Extern.Bytes.bytesOf (.slice (some ⟨b1, o1, none⟩) n c1)) (← Extern.Bytes.bytesOf (.slice (some ⟨b2, o2, none⟩) m c2))))) w = _
  simp only [Sem.run_bind, Sem.run_pure, bytes_view h1, bytes_view h2, Result.andThen]
  rw [Lib.cmp_eq]
  rfl

theorem cmpBytes_any (b1 o1 n c1 : Nat) (f : Nat → Int) (b2 o2 m c2 : Nat) (g : Nat → Int) (w : World) (h1 : View w (some ⟨b1, o1, none⟩) n c1 f) (h2 : View w (some ⟨b2, o2, none⟩) m c2 g) :
    Calls Tryz.prog 39 #[.slice (some ⟨b1, o1, none⟩) n c1, .slice (some ⟨b2, o2, none⟩) m c2] w fun e w' => e = .returned (.int .i64 (Lib.compareBytes (strOfNums (lof n f)).data.toList (strOfNums (lof m g)).data.toList)) ∧ w = w' := by
  have q := run_compareS h1 h2
  have q2 : (callFunc 66 #[.slice (some ⟨b1, o1, none⟩) n c1, .slice (some ⟨b2, o2, none⟩) m c2]).run Tryz.prog w = .ok (.value (.int .i64 (Lib.compareBytes (strOfNums (lof n f)).data.toList (strOfNums (lof m g)).data.toList))) w := by
    rw [run_callFunc_extern (e := Extern.BytealgCompare.compare) Tryz.func66 (by kernel_rfl) (by kernel_rfl) (by kernel_rfl) (by kernel_rfl), q]
    rfl
  go_enter Tryz.func39, Tryz.ntmps39
  go_wp2
  go_ret
  exact ⟨rfl, rfl⟩



theorem before_impl (b1 o1 n c1 : Nat) (f : Nat → Int) (b2 o2 m c2 : Nat) (g : Nat → Int) (w : World) (h1 : View w (some ⟨b1, o1, none⟩) n c1 f) (h2 : View w (some ⟨b2, o2, none⟩) m c2 g) :
    Calls Tryz.prog 14 #[.slice (some ⟨b1, o1, none⟩) n c1, .slice (some ⟨b2, o2, none⟩) m c2] w fun e w' => e = .returned (.bool (ahead (lof n f) (lof m g))) ∧ w = w' := by
  have he : ahead (lof n f) (lof m g) = decide (Lib.compareBytes (strOfNums (lof n f)).data.toList (strOfNums (lof m g)).data.toList < 0) := by
    unfold ahead
    rw [cmp_lt, toList_data, toList_data]
  rw [he]
  go_enter Tryz.func14, Tryz.ntmps14
  go_wp2_with fail
  refine (cmpBytes_any b1 o1 n c1 f b2 o2 m c2 g w h1 h2).mono ?_
  rintro e _ ⟨rfl, rfl⟩
  go_wp2
  go_ret
  exact ⟨rfl, rfl⟩
end Go.Proofs.YtkakkjnbhklfpaaGreatDoor

/-
  The program's LessPart: values as they stand, the other way round where it is asked.
-/
namespace Go.Proofs.YtkakkjnbhklfpaaGreatDoor
open Go.RowKit
set_option maxRecDepth 4000

set_option maxHeartbeats 1000000 in
theorem implLessPart_any (c t : Int) (nul d : Bool) (k n : Int) (s : ByteArray) (k' n' : Int) (s' : ByteArray) (w : World) :
    Calls Tryz.prog 40 #[.agg #[.int .i64 c, .int .i64 t, .bool nul, .bool d], .agg #[.int .i64 k, .int .i64 n, .string s], .agg #[.int .i64 k', .int .i64 n', .string s']] w fun e w' => e = .returned (.bool (lessP d k n s k' n' s')) ∧ Below w.heap.size w w' := by
  have hb0 : ∀ o o' o'', Below w.heap.size w (((w.alloc o).alloc o').alloc o'') := fun o o' o'' => (((Below.refl _ _).alloc (Nat.le_refl _) _).alloc (by simp) _).alloc (by simp; omega) _
  cases d with
  | true =>
    go_enter Tryz.func40, Tryz.ntmps40
    go_wp2_with fail
    refine (lessVal_impl k' n' s' k n s _).mono ?_
    rintro e w1 ⟨rfl, hb1⟩
    have HB : Hid (Below w.heap.size w w1) := (hb0 _ _ _).trans (hb1.mono (by simp; omega))
    clear hb1 hb0
    go_wp2
    go_ret
    exact ⟨rfl, HB.out⟩
  | false =>
    go_enter Tryz.func40, Tryz.ntmps40
    go_wp2_with fail
    refine (lessVal_impl k n s k' n' s' _).mono ?_
    rintro e w1 ⟨rfl, hb1⟩
    have HB : Hid (Below w.heap.size w w1) := (hb0 _ _ _).trans (hb1.mono (by simp; omega))
    clear hb1 hb0
    go_wp2
    go_ret
    exact ⟨rfl, HB.out⟩
end Go.Proofs.YtkakkjnbhklfpaaGreatDoor

