/-
  Together: SameImpl9, TokName, WordSpec, NamesSpec, TypesSpec, OnceSpec, PartsSpec, CheckSpec, TextSpec9
-/
import Derived.Test.YtfjlmkphncigladGreatDoorPack6
import Derived.Test.YtfjlmkphncigladGreatDoorPack1
import Derived.Test.YtfjlmkphncigladGreatDoorProg
import Derived.WalkMore
import Derived.Deep.LoopGhost
import Derived.Deep.Strs
import Derived.Test.YtfjlmkphncigladGreatDoorPack4
import Derived.Deep.RegionHeld3
import Derived.Deep.QuietTactic
import Derived.BigQuiet
/-
  The program's SameDef comes to the plain one.
-/
namespace Go.Proofs.YtfjlmkphncigladGreatDoor
open Go.RowKit
set_option maxRecDepth 4000

def sameColF (n : Nat) (f : Nat → PCol) (m : Nat) (g : Nat → PCol) : Bool := decide (n = m ∧ ∀ i, i < n → (f i).name = (g i).name ∧ (f i).type = (g i).type ∧ (f i).null = (g i).null)
def sameIdx (a b : PIdx) : Bool := decide (a.name = b.name ∧ a.uniq = b.uniq ∧ sameByF a.n a.part b.n b.part = true)
def sameIdxF (n : Nat) (f : Nat → PIdx) (m : Nat) (g : Nat → PIdx) : Bool := decide (n = m ∧ ∀ i, i < n → (f i).name = (g i).name ∧ (f i).uniq = (g i).uniq ∧ sameByF (f i).n (f i).part (g i).n (g i).part = true)


set_option maxHeartbeats 1000000 in
theorem equalBy_any (a1 a2 : Option Addr) (n c1 m c2 : Nat) (f g : Nat → PBy) (w : World) (h1 : BView w a1 n c1 f) (h2 : BView w a2 m c2 g) (hn : n ≤ 1048576) :
    Calls Tryz.prog 31 #[.slice a1 n c1, .slice a2 m c2] w fun e w' => e = .returned (.bool (sameByF n f m g)) ∧ Below w.heap.size w w' := by
  by_cases hnm : n = m
  · subst hnm
    have hq : ((n : Int) != (n : Int)) = false := bne_self_eq_false _
    go_enter Tryz.func31, Tryz.ntmps31
    go_wp2
    go_loopg [13] n (fun q i wr => ∃ k : Nat, k ≤ n ∧ q = n - k ∧ i = .int .i64 k ∧ Below w.heap.size w wr ∧ Hid (∀ i, i < k → (f i).col = (g i).col ∧ (f i).desc = (g i).desc))
    case atStart => exact ⟨0, Nat.zero_le _, rfl, rfl, Below.refl _ _, fun j hj => absurd hj (Nat.not_lt_zero _)⟩
    case round =>
      obtain ⟨k, hk, rfl, rfl, hB, HA⟩ := hrel
      by_cases hlt : k < n
      · have hkz : (k : Int) < (n : Int) := by omega
        obtain ⟨b1, o1, rfl, hb1, hcs⟩ := (h1.below hB).cells (by omega)
        obtain ⟨x0, x1⟩ := hcs k hlt
        obtain ⟨b2, o2, rfl, hb2, hcs2⟩ := (h2.below hB).cells (by omega)
        obtain ⟨y0, y1⟩ := hcs2 k hlt
        have hQ := neBy_run (f k) (g k)
        have HE : Hid (eqBy (f k) (g k) = true ↔ ((f k).col = (g k).col ∧ (f k).desc = (g k).desc)) := by show _ ↔ _; simp [eqBy]
        have HB : Hid (Below w.heap.size w wr) := hB
        obtain ⟨p0, hp0⟩ : ∃ x, Hid ((f k).col = x) := ⟨_, rfl⟩
        obtain ⟨r0, hr0⟩ : ∃ x, Hid ((g k).col = x) := ⟨_, rfl⟩
        obtain ⟨p1, hp1⟩ : ∃ x, Hid ((f k).desc = x) := ⟨_, rfl⟩
        obtain ⟨r1, hr1⟩ : ∃ x, Hid ((g k).desc = x) := ⟨_, rfl⟩
        obtain ⟨o, ho⟩ : ∃ x, Hid (eqBy (f k) (g k) = x) := ⟨_, rfl⟩
        simp only [hp0.out, hr0.out, hp1.out, hr1.out, ho.out] at hQ
        rw [hp0.out] at x0
        rw [hr0.out] at y0
        rw [hp1.out] at x1
        rw [hr1.out] at y1
        rw [ho.out] at HE
        clear hcs hcs2 h1 h2 hB hq
        cases o with
        | true =>
          have HN : Hid (∀ i, i < k + 1 → (f i).col = (g i).col ∧ (f i).desc = (g i).desc) := by
            intro i hi
            by_cases e : i < k
            · exact HA.out i e
            · obtain rfl : i = k := by omega
              exact HE.out.1 rfl
          clear HE HA
          go_wp2_with fail
          go_quiet (fail)
          go_wp2
          go_roundg (n - (k + 1))
          case measure => omega
          case rel => exact ⟨k + 1, by omega, rfl, by go_num, HB.out.trans ⟨rfl, rfl, rfl, Nat.le_refl _, fun _ _ => rfl⟩, HN⟩
        | false =>
          have HF : Hid (sameByF n f n g = false) := by
            show _ = _
            unfold sameByF
            exact decide_eq_false (fun h => by have := HE.out.2 (h.2 k hlt); cases this)
          clear HE HA
          go_wp2_with fail
          go_quiet (fail)
          go_wp2
          go_ret
          exact ⟨by rw [HF.out]; rfl, HB.out.trans ⟨rfl, rfl, rfl, Nat.le_refl _, fun _ _ => rfl⟩⟩
      · have hkz : ¬ (k : Int) < (n : Int) := by omega
        obtain rfl : k = n := by omega
        have HF : Hid (sameByF k f k g = true) := decide_eq_true ⟨rfl, HA.out⟩
        clear h1 h2
        go_wp2
        go_ret
        exact ⟨by rw [HF.out]; rfl, hB⟩
  · have hq : ((n : Int) != (m : Int)) = true := by simp; omega
    have HF : Hid (sameByF n f m g = false) := by
      show _ = _
      unfold sameByF
      exact decide_eq_false (fun h => hnm h.1)
    clear h1 h2 hnm
    go_enter Tryz.func31, Tryz.ntmps31
    go_wp2
    go_ret
    exact ⟨by rw [HF.out]; rfl, Below.refl _ _⟩

set_option maxHeartbeats 1000000 in
theorem equalCol_any (a1 a2 : Option Addr) (n c1 m c2 : Nat) (f g : Nat → PCol) (w : World) (h1 : CView w a1 n c1 f) (h2 : CView w a2 m c2 g) (hn : n ≤ 1048576) :
    Calls Tryz.prog 30 #[.slice a1 n c1, .slice a2 m c2] w fun e w' => e = .returned (.bool (sameColF n f m g)) ∧ Below w.heap.size w w' := by
  by_cases hnm : n = m
  · subst hnm
    have hq : ((n : Int) != (n : Int)) = false := bne_self_eq_false _
    go_enter Tryz.func30, Tryz.ntmps30
    go_wp2
    go_loopg [13] n (fun q i wr => ∃ k : Nat, k ≤ n ∧ q = n - k ∧ i = .int .i64 k ∧ Below w.heap.size w wr ∧ Hid (∀ i, i < k → (f i).name = (g i).name ∧ (f i).type = (g i).type ∧ (f i).null = (g i).null))
    case atStart => exact ⟨0, Nat.zero_le _, rfl, rfl, Below.refl _ _, fun j hj => absurd hj (Nat.not_lt_zero _)⟩
    case round =>
      obtain ⟨k, hk, rfl, rfl, hB, HA⟩ := hrel
      by_cases hlt : k < n
      · have hkz : (k : Int) < (n : Int) := by omega
        obtain ⟨b1, o1, rfl, hb1, hcs⟩ := (h1.below hB).cells (by omega)
        obtain ⟨x0, x1, x2⟩ := hcs k hlt
        obtain ⟨b2, o2, rfl, hb2, hcs2⟩ := (h2.below hB).cells (by omega)
        obtain ⟨y0, y1, y2⟩ := hcs2 k hlt
        have hQ := neCol_run (f k) (g k)
        have HE : Hid (eqCol (f k) (g k) = true ↔ ((f k).name = (g k).name ∧ (f k).type = (g k).type ∧ (f k).null = (g k).null)) := by show _ ↔ _; simp [eqCol, and_assoc]
        have HB : Hid (Below w.heap.size w wr) := hB
        obtain ⟨p0, hp0⟩ : ∃ x, Hid ((f k).name = x) := ⟨_, rfl⟩
        obtain ⟨r0, hr0⟩ : ∃ x, Hid ((g k).name = x) := ⟨_, rfl⟩
        obtain ⟨p1, hp1⟩ : ∃ x, Hid ((f k).type = x) := ⟨_, rfl⟩
        obtain ⟨r1, hr1⟩ : ∃ x, Hid ((g k).type = x) := ⟨_, rfl⟩
        obtain ⟨p2, hp2⟩ : ∃ x, Hid ((f k).null = x) := ⟨_, rfl⟩
        obtain ⟨r2, hr2⟩ : ∃ x, Hid ((g k).null = x) := ⟨_, rfl⟩
        obtain ⟨o, ho⟩ : ∃ x, Hid (eqCol (f k) (g k) = x) := ⟨_, rfl⟩
        simp only [hp0.out, hr0.out, hp1.out, hr1.out, hp2.out, hr2.out, ho.out] at hQ
        rw [hp0.out] at x0
        rw [hr0.out] at y0
        rw [hp1.out] at x1
        rw [hr1.out] at y1
        rw [hp2.out] at x2
        rw [hr2.out] at y2
        rw [ho.out] at HE
        clear hcs hcs2 h1 h2 hB hq
        cases o with
        | true =>
          have HN : Hid (∀ i, i < k + 1 → (f i).name = (g i).name ∧ (f i).type = (g i).type ∧ (f i).null = (g i).null) := by
            intro i hi
            by_cases e : i < k
            · exact HA.out i e
            · obtain rfl : i = k := by omega
              exact HE.out.1 rfl
          clear HE HA
          go_wp2_with fail
          go_quiet (fail)
          go_wp2
          go_roundg (n - (k + 1))
          case measure => omega
          case rel => exact ⟨k + 1, by omega, rfl, by go_num, HB.out.trans ⟨rfl, rfl, rfl, Nat.le_refl _, fun _ _ => rfl⟩, HN⟩
        | false =>
          have HF : Hid (sameColF n f n g = false) := by
            show _ = _
            unfold sameColF
            exact decide_eq_false (fun h => by have := HE.out.2 (h.2 k hlt); cases this)
          clear HE HA
          go_wp2_with fail
          go_quiet (fail)
          go_wp2
          go_ret
          exact ⟨by rw [HF.out]; rfl, HB.out.trans ⟨rfl, rfl, rfl, Nat.le_refl _, fun _ _ => rfl⟩⟩
      · have hkz : ¬ (k : Int) < (n : Int) := by omega
        obtain rfl : k = n := by omega
        have HF : Hid (sameColF k f k g = true) := decide_eq_true ⟨rfl, HA.out⟩
        clear h1 h2
        go_wp2
        go_ret
        exact ⟨by rw [HF.out]; rfl, hB⟩
  · have hq : ((n : Int) != (m : Int)) = true := by simp; omega
    have HF : Hid (sameColF n f m g = false) := by
      show _ = _
      unfold sameColF
      exact decide_eq_false (fun h => hnm h.1)
    clear h1 h2 hnm
    go_enter Tryz.func30, Tryz.ntmps30
    go_wp2
    go_ret
    exact ⟨by rw [HF.out]; rfl, Below.refl _ _⟩

set_option maxHeartbeats 2000000 in
theorem sameIndex_any (a b : PIdx) (a1 a2 : Option Addr) (c1 c2 : Nat) (w : World) (h1 : BView w a1 a.n c1 a.part) (h2 : BView w a2 b.n c2 b.part) (hn : a.n ≤ 1048576) :
    Calls Tryz.prog 33 #[.agg #[.string a.name, .bool a.uniq, .slice a1 a.n c1], .agg #[.string b.name, .bool b.uniq, .slice a2 b.n c2]] w fun e w' => e = .returned (.bool (sameIdx a b)) ∧ Below w.heap.size w w' := by
  have hA : Below w.heap.size w ((w.alloc (.cells #[.string a.name, .bool a.uniq, .slice a1 a.n c1] 60)).alloc (.cells #[.string b.name, .bool b.uniq, .slice a2 b.n c2] 60)) := ((Below.refl _ _).alloc (Nat.le_refl _) _).alloc (by simp) _
  have hS := equalBy_any a1 a2 a.n c1 b.n c2 a.part b.part _ (h1.below hA) (h2.below hA) hn
  have HA : Hid (Below w.heap.size w ((w.alloc (.cells #[.string a.name, .bool a.uniq, .slice a1 a.n c1] 60)).alloc (.cells #[.string b.name, .bool b.uniq, .slice a2 b.n c2] 60))) := hA
  have HO : Hid (sameIdx a b = true ↔ (a.name = b.name ∧ a.uniq = b.uniq ∧ sameByF a.n a.part b.n b.part = true)) := by show _ ↔ _; unfold sameIdx; exact decide_eq_true_iff
  have HNO : Hid (¬ (sameIdx a b = true) → sameIdx a b = false) := fun h => by cases e : sameIdx a b with | true => exact absurd e h | false => rfl
  clear h1 h2 hA hn
  obtain ⟨z, hz⟩ : ∃ z, Hid (sameIdx a b = z) := ⟨_, rfl⟩
  rw [hz.out] at HO HNO ⊢
  clear hz
  generalize sameByF a.n a.part b.n b.part = q at *
  obtain ⟨s0, s1, s2, s3⟩ := a
  obtain ⟨t0, t1, t2, t3⟩ := b
  by_cases p1 : s0 = t0
  · have m1 := bytes_eq p1
    by_cases p2 : s1 = t1
    · have p2' := p2
      subst p2'
      have m2 : (s1 == s1) = true := by cases s1 <;> rfl
      have HZ : Hid (z = q) := by
        cases q with
        | true => exact HO.out.2 ⟨p1, p2, rfl⟩
        | false => exact HNO.out (fun h => by have := (HO.out.1 h).2.2; cases this)
      clear HO HNO p1 p2
      go_enter Tryz.func33, Tryz.ntmps33
      go_wp2_with fail
      refine hS.mono ?_
      rintro e w1 ⟨rfl, hb1⟩
      have HB : Hid (Below w.heap.size w w1) := HA.out.trans (hb1.mono HA.out.size)
      clear hS hb1 HA
      go_wp2
      go_ret
      exact ⟨by rw [HZ.out]; rfl, HB.out⟩
    · have m2 : (s1 == t1) = false := by cases s1 <;> cases t1 <;> first | rfl | exact absurd rfl p2
      have HZ : Hid (z = false) := HNO.out (fun h => p2 (HO.out.1 h).2.1)
      clear HO HNO p1 p2 hS
      go_enter Tryz.func33, Tryz.ntmps33
      go_wp2
      go_ret
      exact ⟨by rw [HZ.out]; rfl, HA.out⟩
  · have m1 := bytes_ne p1
    have HZ : Hid (z = false) := HNO.out (fun h => p1 (HO.out.1 h).1)
    clear HO HNO p1 hS
    go_enter Tryz.func33, Tryz.ntmps33
    go_wp2
    go_ret
    exact ⟨by rw [HZ.out]; rfl, HA.out⟩

set_option maxHeartbeats 2000000 in
theorem equalIdx_any (a1 a2 : Option Addr) (n c1 m c2 : Nat) (f g : Nat → PIdx) (w : World) (h1 : IView w a1 n c1 f) (h2 : IView w a2 m c2 g) (hn : n ≤ 1048576) (HN : Hid (∀ i, i < n → (f i).n ≤ 1048576)) :
    Calls Tryz.prog 32 #[.slice a1 n c1, .slice a2 m c2, .func (.func 33) #[] #[]] w fun e w' => e = .returned (.bool (sameIdxF n f m g)) ∧ Below w.heap.size w w' := by
  by_cases hnm : n = m
  · subst hnm
    have hq : ((n : Int) != (n : Int)) = false := bne_self_eq_false _
    go_enter Tryz.func32, Tryz.ntmps32
    go_wp2
    go_loopg [17] n (fun q i wr => ∃ k : Nat, k ≤ n ∧ q = n - k ∧ i = .int .i64 k ∧ Below w.heap.size w wr ∧ Hid (∀ i, i < k → (f i).name = (g i).name ∧ (f i).uniq = (g i).uniq ∧ sameByF (f i).n (f i).part (g i).n (g i).part = true))
    case atStart => exact ⟨0, Nat.zero_le _, rfl, rfl, Below.refl _ _, fun j hj => absurd hj (Nat.not_lt_zero _)⟩
    case round =>
      obtain ⟨k, hk, rfl, rfl, hB, HA⟩ := hrel
      by_cases hlt : k < n
      · have hkz : (k : Int) < (n : Int) := by omega
        obtain ⟨b1, o1, rfl, hb1, hcs⟩ := (h1.below hB).cells (by omega)
        obtain ⟨b2, o2, rfl, hb2, hcs2⟩ := (h2.below hB).cells (by omega)
        obtain ⟨x0, x1, a3, c3, x2, hv3⟩ := hcs k hlt
        obtain ⟨y0, y1, a4, c4, y2, hv4⟩ := hcs2 k hlt
        have hV : ∀ W, Below wr.heap.size wr W → Calls Tryz.prog 33 #[.agg #[.string (f k).name, .bool (f k).uniq, .slice a3 (f k).n c3], .agg #[.string (g k).name, .bool (g k).uniq, .slice a4 (g k).n c4]] W fun e w' => e = .returned (.bool (sameIdx (f k) (g k))) ∧ Below W.heap.size W w' := fun W hb => sameIndex_any (f k) (g k) a3 a4 c3 c4 W (hv3.below hb) (hv4.below hb) (HN.out k hlt)
        have HE : Hid (sameIdx (f k) (g k) = true ↔ ((f k).name = (g k).name ∧ (f k).uniq = (g k).uniq ∧ sameByF (f k).n (f k).part (g k).n (g k).part = true)) := by show _ ↔ _; unfold sameIdx; exact decide_eq_true_iff
        have HB : Hid (Below w.heap.size w wr) := hB
        have HS := hB.size
        obtain ⟨o, ho⟩ : ∃ x, Hid (sameIdx (f k) (g k) = x) := ⟨_, rfl⟩
        simp only [ho.out] at hV
        rw [ho.out] at HE
        have HL : Hid (o = true → ∀ i, i < k + 1 → (f i).name = (g i).name ∧ (f i).uniq = (g i).uniq ∧ sameByF (f i).n (f i).part (g i).n (g i).part = true) := by
          intro h i hi
          by_cases e : i < k
          · exact HA.out i e
          · obtain rfl : i = k := by omega
            exact HE.out.1 h
        have HL2 : Hid (o = false → sameIdxF n f n g = false) := by
          intro h
          unfold sameIdxF
          exact decide_eq_false (fun h' => by have := HE.out.2 (h'.2 k hlt); rw [h] at this; cases this)
        clear HE HA ho
        generalize (f k).name = p0 at *
        generalize (f k).uniq = p1 at *
        generalize (f k).n = p2 at *
        generalize (g k).name = r0 at *
        generalize (g k).uniq = r1 at *
        generalize (g k).n = r2 at *
        clear hcs hcs2 h1 h2 hB hq hv3 hv4
        have hA1 : Below wr.heap.size wr ((wr.alloc (.cells #[.string p0, .bool p1, .slice a3 p2 c3] 60)).alloc (.cells #[.string r0, .bool r1, .slice a4 r2 c4] 60)) := ((Below.refl _ _).alloc (Nat.le_refl _) _).alloc (by simp) _
        have HA1 : Hid (Below wr.heap.size wr ((wr.alloc (.cells #[.string p0, .bool p1, .slice a3 p2 c3] 60)).alloc (.cells #[.string r0, .bool r1, .slice a4 r2 c4] 60))) := hA1
        have hS := hV _ hA1
        clear hV hA1
        go_wp2_with fail
        refine hS.mono ?_
        rintro e w2 ⟨rfl, hB2⟩
        have HB3 : Hid (Below w.heap.size w w2) := HB.out.trans ((HA1.out.trans (hB2.mono HA1.out.size)).mono HS)
        clear hB2 hS x0 x1 x2 y0 y1 y2 hb1 hb2 HA1
        cases o
        · have hbad2 : Hid (sameIdxF n f n g = false) := HL2.out rfl
          clear HL HL2
          go_wp2
          go_ret
          exact ⟨by rw [hbad2.out]; rfl, HB3.out⟩
        · have HN2 : Hid (∀ i, i < k + 1 → (f i).name = (g i).name ∧ (f i).uniq = (g i).uniq ∧ sameByF (f i).n (f i).part (g i).n (g i).part = true) := HL.out rfl
          clear HL HL2
          go_wp2
          go_roundg (n - (k + 1))
          case measure => omega
          case rel => exact ⟨k + 1, by omega, rfl, by go_num, HB3.out, HN2⟩
      · have hkz : ¬ (k : Int) < (n : Int) := by omega
        obtain rfl : k = n := by omega
        have HF : Hid (sameIdxF k f k g = true) := decide_eq_true ⟨rfl, HA.out⟩
        clear h1 h2
        go_wp2
        go_ret
        exact ⟨by rw [HF.out]; rfl, hB⟩
  · have hq : ((n : Int) != (m : Int)) = true := by simp; omega
    have HF : Hid (sameIdxF n f m g = false) := by
      show _ = _
      unfold sameIdxF
      exact decide_eq_false (fun h => hnm h.1)
    clear h1 h2 hnm
    go_enter Tryz.func32, Tryz.ntmps32
    go_wp2
    go_ret
    exact ⟨by rw [HF.out]; rfl, Below.refl _ _⟩

theorem sameF_split (D E : PDef) : sameF D E = (decide (D.name = E.name) && sameColF D.nc D.col E.nc E.col && sameByF D.np D.pri E.np E.pri && sameIdxF D.ni D.idx E.ni E.idx) := by
  cases h : (decide (D.name = E.name) && sameColF D.nc D.col E.nc E.col && sameByF D.np D.pri E.np E.pri && sameIdxF D.ni D.idx E.ni E.idx) with
  | true =>
    simp only [Bool.and_eq_true] at h
    obtain ⟨⟨⟨h1, h2⟩, h3⟩, h4⟩ := h
    unfold sameColF at h2
    unfold sameIdxF at h4
    have h1 := of_decide_eq_true h1
    have h2 := of_decide_eq_true h2
    have h4 := of_decide_eq_true h4
    unfold sameF
    exact decide_eq_true ⟨h1, h2.1, h4.1, h3, h2.2, h4.2⟩
  | false =>
    cases h0 : sameF D E with
    | false => rfl
    | true =>
      unfold sameF at h0
      obtain ⟨h1, h2, h3, h4, h5, h6⟩ := of_decide_eq_true h0
      have e2 : sameColF D.nc D.col E.nc E.col = true := decide_eq_true ⟨h2, h5⟩
      have e4 : sameIdxF D.ni D.idx E.ni E.idx = true := decide_eq_true ⟨h3, h6⟩
      rw [decide_eq_true h1, e2, h4, e4] at h
      cases h

set_option maxHeartbeats 4000000 in
theorem implSame_any (u v : Value) (D E : PDef) (w : World) (h1 : DView w u D) (h2 : DView w v E) (hf : DFine D) :
    Calls Tryz.prog 11 #[u, v] w fun e w' => e = .returned (.bool (sameF D E)) ∧ Below w.heap.size w w' := by
  have hnc := hf.nc
  have hni := hf.ni
  have hnp := hf.np
  have HIX : Hid (∀ i, i < D.ni → (D.idx i).n ≤ 1048576) := fun i hi => (hf.idx i hi).2
  clear hf
  obtain ⟨ac, cc, ap, cp, ai, ci, rfl, hc1, hp1, hi1⟩ := h1.is
  obtain ⟨bc, dc, bp, dp, bi, di, rfl, hc2, hp2, hi2⟩ := h2.is
  clear h1 h2
  have hB0 : Below (w.heap.size + 1 + 1) ((w.alloc (.cells #[.string D.name, .slice ac D.nc cc, .slice ap D.np cp, .slice ai D.ni ci] 28)).alloc (.cells #[.string E.name, .slice bc E.nc dc, .slice bp E.np dp, .slice bi E.ni di] 28)) ((w.alloc (.cells #[.string D.name, .slice ac D.nc cc, .slice ap D.np cp, .slice ai D.ni ci] 28)).alloc (.cells #[.string E.name, .slice bc E.nc dc, .slice bp E.np dp, .slice bi E.ni di] 28)) := Below.refl _ _
  obtain ⟨hBw0, -⟩ := box44_below hB0
  have hCC := fun W (hb : Below w.heap.size w W) => equalCol_any ac bc D.nc cc E.nc dc D.col E.col W (hc1.below hb) (hc2.below hb) hnc
  have hCB := fun W (hb : Below w.heap.size w W) => equalBy_any ap bp D.np cp E.np dp D.pri E.pri W (hp1.below hb) (hp2.below hb) hnp
  have hCI := fun W (hb : Below w.heap.size w W) => equalIdx_any ai bi D.ni ci E.ni di D.idx E.idx W (hi1.below hb) (hi2.below hb) hni HIX
  have HO := sameF_split D E
  rw [HO]
  clear HO hc1 hp1 hi1 hc2 hp2 hi2 hnc hni hnp HIX
  generalize sameColF D.nc D.col E.nc E.col = q2 at *
  generalize sameByF D.np D.pri E.np E.pri = q3 at *
  generalize sameIdxF D.ni D.idx E.ni E.idx = q4 at *
  by_cases q1 : D.name = E.name
  · have r1 := bytes_eq q1
    have e1 : decide (D.name = E.name) = true := decide_eq_true q1
    rw [e1, Bool.true_and]
    clear e1 q1
    go_enter Tryz.func11, Tryz.ntmps11
    go_wp2_with fail
    refine (hCC _ hBw0).mono ?_
    rintro e w1 ⟨rfl, hb1⟩
    have hB1 := box44_on hB0 hb1
    obtain ⟨hBw1, hs1⟩ := box44_below hB1
    obtain ⟨⟨x0, x1, x2, x3⟩, y0, y1, y2, y3⟩ := box44 hB1
    clear hCC hb1 hB0 hBw0
    cases q2
    · have HB : Hid (Below w.heap.size w w1) := hBw1
      clear hCB hCI hB1 hBw1
      go_wp2
      go_ret
      exact ⟨by simp, HB.out⟩
    have hS := hCB _ hBw1
    clear hCB
    go_wp2_with fail
    refine hS.mono ?_
    rintro e w2 ⟨rfl, hb2⟩
    have hB2 := box44_on hB1 hb2
    obtain ⟨hBw2, hs2⟩ := box44_below hB2
    clear x0 x1 x2 x3 y0 y1 y2 y3
    obtain ⟨⟨x0, x1, x2, x3⟩, y0, y1, y2, y3⟩ := box44 hB2
    clear hS hb2 hB1 hBw1 hs1
    cases q3
    · have HB : Hid (Below w.heap.size w w2) := hBw2
      clear hCI hB2 hBw2
      go_wp2
      go_ret
      exact ⟨by simp, HB.out⟩
    have hS := hCI _ hBw2
    clear hCI
    go_wp2_with fail
    refine hS.mono ?_
    rintro e w3 ⟨rfl, hb3⟩
    have HB : Hid (Below w.heap.size w w3) := (box44_below (box44_on hB2 hb3)).1
    clear hS hb3 hB2 hBw2 hs2 x0 x1 x2 x3 y0 y1 y2 y3
    go_wp2
    go_ret
    exact ⟨by simp, HB.out⟩
  · have r1 := bytes_ne q1
    have e1 : decide (D.name = E.name) = false := decide_eq_false q1
    rw [e1]
    clear hCC hCB hCI q1 e1
    go_enter Tryz.func11, Tryz.ntmps11
    go_wp2
    go_ret
    exact ⟨by simp, hBw0⟩
end Go.Proofs.YtfjlmkphncigladGreatDoor

/-
  The model's l8Name: whether a text is a name.
-/
namespace Go.Proofs.YtfjlmkphncigladGreatDoor
open Go.RowKit
set_option maxRecDepth 4000

theorem l1In_tok (x l m : Int) (w : World) :
    Calls Tryz.prog 55 #[.int .i64 x, .int .i64 l, .int .i64 m] w fun e w' => e = .returned (.bool (decide (l ≤ x) && decide (x ≤ m))) ∧ w = w' := by
  go_enter Tryz.func55, Tryz.ntmps55
  by_cases h : l ≤ x
  · have e1 : decide (l ≤ x) = true := by simpa using h
    go_wp2
    go_ret
    exact ⟨by simp [h], rfl⟩
  · have e1 : decide (l ≤ x) = false := by simpa using h
    go_wp2
    go_ret
    exact ⟨by simp, rfl⟩

theorem l8Small_any (c : Int) (w : World) (h0 : 0 ≤ c) (h1 : c ≤ 255) :
    Calls Tryz.prog 83 #[.int .u8 c] w fun e w' => e = .returned (.bool (small c)) ∧ w = w' := by
  have e : small c = (decide (97 ≤ c) && decide (c ≤ 122)) := by unfold small; simp
  rw [e]
  go_enter Tryz.func83, Tryz.ntmps83
  go_wp2_with fail
  refine (l1In_tok c 97 122 w).mono ?_
  rintro e w2 ⟨rfl, rfl⟩
  go_wp2
  go_ret
  exact ⟨rfl, rfl⟩
theorem l2Digit_tok (c : Int) (w : World) (h0 : 0 ≤ c) (h1 : c ≤ 255) :
    Calls Tryz.prog 84 #[.int .u8 c] w fun e w' => e = .returned (.bool (digit c)) ∧ w = w' := by
  have e : digit c = (decide (48 ≤ c) && decide (c ≤ 57)) := by unfold digit; simp
  rw [e]
  go_enter Tryz.func84, Tryz.ntmps84
  go_wp2_with fail
  refine (l1In_tok c 48 57 w).mono ?_
  rintro e w2 ⟨rfl, rfl⟩
  go_wp2
  go_ret
  exact ⟨rfl, rfl⟩

set_option maxHeartbeats 1000000 in
theorem l8Name_any (s : ByteArray) (w : World) (hs : s.size ≤ 281474976710656) :
    Calls Tryz.prog 74 #[.string s] w fun e w' => e = .returned (.bool (nameOk s)) ∧ w = w' := by
  go_enter Tryz.func74, Tryz.ntmps74
  go_wp2
  go_loopg [3] s.size (fun q i wr => ∃ k : Nat, k ≤ s.size ∧ q = s.size - k ∧ i = .int .i64 k ∧ wr = w ∧ (0 < k → small (bt s 0) = true) ∧ ∀ j, j < k → inName (bt s j) = true)
  case atStart => exact ⟨0, Nat.zero_le _, rfl, rfl, rfl, fun h => absurd h (Nat.lt_irrefl _), fun j hj => absurd hj (Nat.not_lt_zero _)⟩
  case round =>
    obtain ⟨k, hk, rfl, rfl, rfl, hs0, hall⟩ := hrel
    have HA : Hid ((0 < k → small (bt s 0) = true) ∧ ∀ j, j < k → inName (bt s j) = true) := ⟨hs0, hall⟩
    clear hs0 hall
    by_cases hlt : k < s.size
    · have hkz : (k : Int) < (s.size : Int) := by omega
      have hc := bt_at hlt
      have hbd := bt_bd s k
      obtain ⟨c, hcc⟩ : ∃ c, Hid (bt s k = c) := ⟨_, rfl⟩
      rw [hcc.out] at hc hbd
      have hS := l8Small_any c wr hbd.1 hbd.2
      have hD := l2Digit_tok c wr hbd.1 hbd.2
      go_wp2_with (rw [hc])
      refine hS.mono ?_
      cases hsm : small c with
      | true =>
        rintro e _ ⟨rfl, rfl⟩
        have HN : Hid ((0 < k + 1 → small (bt s 0) = true) ∧ ∀ j, j < k + 1 → inName (bt s j) = true) := by
          refine ⟨fun _ => ?_, fun j hj => ?_⟩
          · by_cases h0 : k = 0
            · subst h0; rw [hcc.out]; exact hsm
            · exact HA.out.1 (by omega)
          · by_cases e : j < k
            · exact HA.out.2 j e
            · obtain rfl : j = k := by omega
              rw [hcc.out]; unfold inName; rw [hsm]; rfl
        clear hS hD
        go_wp2
        go_roundg (s.size - (k + 1))
        case measure => omega
        case rel => exact ⟨k + 1, by omega, rfl, by go_num, rfl, HN.out.1, HN.out.2⟩
      | false =>
        rintro e _ ⟨rfl, rfl⟩
        by_cases h0 : k = 0
        · subst h0
          have HF : Hid (nameOk s = false) := by
            show _ = _
            unfold nameOk
            apply decide_eq_false
            rintro ⟨-, -, h, -⟩
            rw [hcc.out, hsm] at h; cases h
          clear hS hD
          go_wp2
          go_ret
          exact ⟨by rw [HF.out]; rfl, rfl⟩
        · have h0z : ((k : Int) == 0) = false := by simpa using h0
          clear hS
          go_wp2_with (rw [hc])
          refine hD.mono ?_
          cases hdg : digit c with
          | true =>
            rintro e _ ⟨rfl, rfl⟩
            have HN : Hid ((0 < k + 1 → small (bt s 0) = true) ∧ ∀ j, j < k + 1 → inName (bt s j) = true) := by
              refine ⟨fun _ => HA.out.1 (by omega), fun j hj => ?_⟩
              by_cases e : j < k
              · exact HA.out.2 j e
              · obtain rfl : j = k := by omega
                rw [hcc.out]; unfold inName; rw [hdg]; simp
            clear hD
            go_wp2
            go_roundg (s.size - (k + 1))
            case measure => omega
            case rel => exact ⟨k + 1, by omega, rfl, by go_num, rfl, HN.out.1, HN.out.2⟩
          | false =>
            rintro e _ ⟨rfl, rfl⟩
            have HF : Hid (nameOk s = false) := by
              show _ = _
              unfold nameOk
              apply decide_eq_false
              rintro ⟨-, -, -, h⟩
              have := h k hlt
              rw [hcc.out] at this
              unfold inName at this
              rw [hsm, hdg] at this; cases this
            clear hD
            go_wp2
            go_ret
            exact ⟨by rw [HF.out]; rfl, rfl⟩
    · have hkz : ¬ (k : Int) < (s.size : Int) := by omega
      obtain rfl : k = s.size := by omega
      have HF : Hid (nameOk s = (decide ((1 : Int) ≤ (s.size : Int)) && decide ((s.size : Int) ≤ 8))) := by
        show _ = _
        unfold nameOk
        by_cases h1 : 1 ≤ s.size
        · by_cases h2 : s.size ≤ 8
          · rw [decide_eq_true ⟨h1, h2, HA.out.1 (by omega), HA.out.2⟩]
            simp; omega
          · rw [decide_eq_false (fun h => h2 h.2.1)]
            simp; omega
        · rw [decide_eq_false (fun h => h1 h.1)]
          simp; omega
      go_wp2_with fail
      refine (l1In_tok _ 1 8 wr).mono ?_
      rintro e _ ⟨rfl, rfl⟩
      go_wp2
      go_ret
      exact ⟨by rw [HF.out]; rfl, rfl⟩

end Go.Proofs.YtfjlmkphncigladGreatDoor

/-
  The model's l9Has, l9Word: whether a text may be a name in a table.
-/
namespace Go.Proofs.YtfjlmkphncigladGreatDoor
open Go.RowKit
set_option maxRecDepth 4000

/-- The words that are no names, as texts. -/
def kwT : List ByteArray := kwords.map (fun l => ⟨l.toArray⟩)
theorem isKw_iff (s : ByteArray) : isKw s = true ↔ ∃ i, i < 10 ∧ kwT.getD i ⟨#[]⟩ = s := by
  have key : ∀ l : List UInt8, s.toList = l ↔ (⟨l.toArray⟩ : ByteArray) = s := by
    intro l
    rw [ByteArray.toList_eq]
    constructor
    · rintro rfl; rfl
    · rintro rfl; rfl
  unfold isKw
  rw [List.contains_iff_mem]
  constructor
  · intro h
    obtain ⟨i, hi, e⟩ := List.mem_iff_getElem.1 h
    refine ⟨i, hi, ?_⟩
    have : kwT.getD i ⟨#[]⟩ = ⟨(kwords[i]'hi).toArray⟩ := by simp [kwT, List.getD, hi]
    rw [this, ← key, e]
  · rintro ⟨i, hi, e⟩
    have hi' : i < kwords.length := hi
    have : kwT.getD i ⟨#[]⟩ = ⟨(kwords[i]'hi').toArray⟩ := by simp [kwT, List.getD, hi']
    rw [this, ← key] at e
    rw [e]
    exact List.getElem_mem _

set_option maxHeartbeats 1000000 in
theorem l9Has_kw (b : Nat) (s : ByteArray) (w : World) (hz : ∀ i, i < 10 → w.cell? ⟨b, i, none⟩ = some (.string (kwT.getD i ⟨#[]⟩))) :
    Calls Tryz.prog 75 #[.slice (some ⟨b, 0, none⟩) 10 10, .string s] w fun e w' => e = .returned (.bool (isKw s)) ∧ w = w' := by
  go_enter Tryz.func75, Tryz.ntmps75
  go_wp2
  go_loopg [5] 10 (fun q i wr => ∃ k : Nat, k ≤ 10 ∧ q = 10 - k ∧ i = .int .i64 k ∧ wr = w ∧ ∀ j, j < k → kwT.getD j ⟨#[]⟩ ≠ s)
  case atStart => exact ⟨0, Nat.zero_le _, rfl, rfl, rfl, fun j hj => absurd hj (Nat.not_lt_zero _)⟩
  case round =>
    obtain ⟨k, hk, rfl, rfl, rfl, hall⟩ := hrel
    have HA : Hid (∀ j, j < k → kwT.getD j ⟨#[]⟩ ≠ s) := hall
    clear hall
    by_cases hlt : k < 10
    · have hkz : (k : Int) < 10 := by omega
      have hc := hz k hlt
      obtain ⟨z, hzz⟩ : ∃ z, Hid (kwT.getD k ⟨#[]⟩ = z) := ⟨_, rfl⟩
      rw [hzz.out] at hc
      clear hz
      by_cases he : z = s
      · have HF : Hid (isKw s = true) := (isKw_iff s).2 ⟨k, hlt, hzz.out.trans he⟩
        subst he
        go_wp2
        go_ret
        exact ⟨by rw [HF.out]; rfl, rfl⟩
      · have HN : Hid (∀ j, j < k + 1 → kwT.getD j ⟨#[]⟩ ≠ s) := by
          intro j hj
          by_cases e : j < k
          · exact HA.out j e
          · obtain rfl : j = k := by omega
            rw [hzz.out]; exact he
        have hne : (z.toList == s.toList) = false := by
          cases h : (z.toList == s.toList) with
          | false => rfl
          | true =>
            have h2 := eq_of_beq h
            rw [ByteArray.toList_eq, ByteArray.toList_eq] at h2
            exact absurd (by obtain ⟨⟨x⟩⟩ := z; obtain ⟨⟨y⟩⟩ := s; simp only at h2; rw [h2]) he
        clear he
        go_wp2
        go_roundg (10 - (k + 1))
        case measure => omega
        case rel => exact ⟨k + 1, by omega, rfl, by go_num, rfl, HN.out⟩
    · have hkz : ¬ (k : Int) < 10 := by omega
      obtain rfl : k = 10 := by omega
      have HF : Hid (isKw s = false) := by
        show _ = _
        cases h : isKw s with
        | false => rfl
        | true =>
          obtain ⟨i, hi, e⟩ := (isKw_iff s).1 h
          exact absurd e (HA.out i hi)
      clear hz
      go_wp2
      go_ret
      exact ⟨by rw [HF.out]; rfl, rfl⟩

set_option maxHeartbeats 1000000 in
theorem l9Word_any (s : ByteArray) (w : World) (hs : s.size ≤ 281474976710656) :
    Calls Tryz.prog 54 #[.string s] w fun e w' => e = .returned (.bool (wordOk s)) ∧ Below w.heap.size w w' := by
  have hN := l8Name_any s w hs
  have HW : Hid (wordOk s = (nameOk s && !isKw s)) := rfl
  have hz : ∀ i, i < 10 → (w.alloc (.cells (kwT.map Value.string).toArray 9)).cell? ⟨w.heap.size, i, none⟩ = some (.string (kwT.getD i ⟨#[]⟩)) := by
    intro i hi
    rw [World.cell?, show (w.alloc (.cells (kwT.map Value.string).toArray 9)).heap[w.heap.size]? = some (.cells (kwT.map Value.string).toArray 9) from Deep.blk_alloc_new _ _]
    have : i < kwT.length := hi
    simp [this]
  have hH := l9Has_kw w.heap.size s _ hz
  cases hn : nameOk s with
  | true =>
    rw [hn] at hN
    go_enter Tryz.func54, Tryz.ntmps54
    go_wp2_with fail
    refine hN.mono ?_
    rintro e _ ⟨rfl, rfl⟩
    clear hN hz
    go_wp2_with fail
    refine hH.mono ?_
    rintro e _ ⟨rfl, rfl⟩
    go_wp2
    go_ret
    exact ⟨by rw [HW.out, hn]; rfl, (Below.refl _ _).alloc (Nat.le_refl _) _⟩
  | false =>
    rw [hn] at hN
    go_enter Tryz.func54, Tryz.ntmps54
    go_wp2_with fail
    refine hN.mono ?_
    rintro e _ ⟨rfl, rfl⟩
    clear hN hz hH
    go_wp2
    go_ret
    exact ⟨by rw [HW.out, hn]; rfl, Below.refl _ _⟩
end Go.Proofs.YtfjlmkphncigladGreatDoor

/-
  The model's l9Names and l9Types come to the plain ones.
-/
namespace Go.Proofs.YtfjlmkphncigladGreatDoor
open Go.RowKit
set_option maxRecDepth 4000

set_option maxHeartbeats 1000000 in
theorem l9Names_any (v : Value) (D : PDef) (w : World) (h : DView w v D) (hf : DFine D) :
    Calls Tryz.prog 19 #[v] w fun e w' => e = .returned (.bool (namesF D)) ∧ Below w.heap.size w w' := by
  obtain ⟨ac, cc, ap, cp, ai, ci, rfl, hc, -, hi⟩ := h.is
  clear h
  have hnc := hf.nc
  have hni := hf.ni
  have hW := fun s W (h : s.size ≤ 1048576) => l9Word_any s W (by omega)
  go_enter Tryz.func19, Tryz.ntmps19
  go_wp2
  go_loopg [3] D.nc (fun q i wr => ∃ k : Nat, k ≤ D.nc ∧ q = D.nc - k ∧ i = .int .i64 k ∧ Below (w.heap.size + 1) (w.alloc (.cells #[.string D.name, .slice ac D.nc cc, .slice ap D.np cp, .slice ai D.ni ci] 28)) wr ∧ Hid (∀ j, j < k → wordOk (D.col j).name = true))
  case atStart => exact ⟨0, Nat.zero_le _, rfl, rfl, Below.refl _ _, fun j hj => absurd hj (Nat.not_lt_zero _)⟩
  case round =>
    obtain ⟨k, hk, rfl, rfl, hB, HA⟩ := hrel
    obtain ⟨x0, x1, x2, x3⟩ := box4 hB
    obtain ⟨hBw, hsz⟩ := box4_below hB
    by_cases hlt : k < D.nc
    · have hkz : (k : Int) < (D.nc : Int) := by omega
      obtain ⟨b1, o1, rfl, hb1, hcs⟩ := (hc.below hBw).cells (by omega)
      obtain ⟨y0, -, -⟩ := hcs k hlt
      have hWk := hW (D.col k).name wr (hf.col k hlt)
      have HX : Hid (∀ b, wordOk (D.col k).name = b → (b = true → ∀ j, j < k + 1 → wordOk (D.col j).name = true) ∧ (b = false → namesF D = false)) := by
        intro b e
        refine ⟨fun hb j hj => ?_, fun hb => ?_⟩
        · by_cases hj' : j < k
          · exact HA.out j hj'
          · obtain rfl : j = k := by omega
            rw [e, hb]
        · unfold namesF
          exact decide_eq_false (fun h => by have := h.1 k hlt; rw [e, hb] at this; cases this)
      obtain ⟨z, hz⟩ : ∃ z, Hid ((D.col k).name = z) := ⟨_, rfl⟩
      rw [hz.out] at y0 hWk HX
      clear hcs hc hi hf hW HA
      go_wp2_with fail
      refine hWk.mono ?_
      cases hwk : wordOk z with
      | true =>
        rintro e w2 ⟨rfl, hb2⟩
        have HB2 : Hid (Below (w.heap.size + 1) _ w2) := box4_on hB hb2
        have HN := (HX.out _ hwk).1 rfl
        have HN' : Hid (∀ j, j < k + 1 → wordOk (D.col j).name = true) := HN
        clear hb2 hWk HN HX hwk
        go_wp2
        go_roundg (D.nc - (k + 1))
        case measure => omega
        case rel => exact ⟨k + 1, by omega, rfl, by go_num, HB2.out, HN'⟩
      | false =>
        rintro e w2 ⟨rfl, hb2⟩
        have HB2 : Hid (Below w.heap.size w w2) := (box4_below (box4_on hB hb2)).1
        have HF : Hid (namesF D = false) := (HX.out _ hwk).2 rfl
        clear hb2 hWk HX hwk
        go_wp2
        go_ret
        exact ⟨by rw [HF.out]; rfl, HB2.out⟩
    · have hkz : ¬ (k : Int) < (D.nc : Int) := by omega
      obtain rfl : k = D.nc := by omega
      go_wp2
      go_loopg [4] D.ni (fun q i wr => ∃ k : Nat, k ≤ D.ni ∧ q = D.ni - k ∧ i = .int .i64 k ∧ Below (w.heap.size + 1) (w.alloc (.cells #[.string D.name, .slice ac D.nc cc, .slice ap D.np cp, .slice ai D.ni ci] 28)) wr ∧ Hid (∀ j, j < k → wordOk (D.idx j).name = true))
      case atStart => exact ⟨0, Nat.zero_le _, rfl, rfl, hB, fun j hj => absurd hj (Nat.not_lt_zero _)⟩
      case round =>
        clear x0 x1 x2 x3 hBw hsz hB hkz hlt
        obtain ⟨k, hk, rfl, rfl, hB, HI⟩ := hrel
        obtain ⟨x0, x1, x2, x3⟩ := box4 hB
        obtain ⟨hBw, hsz⟩ := box4_below hB
        by_cases hlt : k < D.ni
        · have hkz : (k : Int) < (D.ni : Int) := by omega
          obtain ⟨b1, o1, rfl, hb1, hcs⟩ := (hi.below hBw).cells (by omega)
          obtain ⟨y0, -, -⟩ := hcs k hlt
          have hWk := hW (D.idx k).name wr (hf.idx k hlt).1
          have HX : Hid (∀ b, wordOk (D.idx k).name = b → (b = true → ∀ j, j < k + 1 → wordOk (D.idx j).name = true) ∧ (b = false → namesF D = false)) := by
            intro b e
            refine ⟨fun hb j hj => ?_, fun hb => ?_⟩
            · by_cases hj' : j < k
              · exact HI.out j hj'
              · obtain rfl : j = k := by omega
                rw [e, hb]
            · unfold namesF
              exact decide_eq_false (fun h => by have := h.2.1 k hlt; rw [e, hb] at this; cases this)
          obtain ⟨z, hz⟩ : ∃ z, Hid ((D.idx k).name = z) := ⟨_, rfl⟩
          rw [hz.out] at y0 hWk HX
          clear hcs hc hi hf hW HA HI
          go_wp2_with fail
          refine hWk.mono ?_
          cases hwk : wordOk z with
          | true =>
            rintro e w2 ⟨rfl, hb2⟩
            have HB2 : Hid (Below (w.heap.size + 1) _ w2) := box4_on hB hb2
            have HN := (HX.out _ hwk).1 rfl
            have HN' : Hid (∀ j, j < k + 1 → wordOk (D.idx j).name = true) := HN
            clear hb2 hWk HN HX hwk
            go_wp2
            go_roundg (D.ni - (k + 1))
            case measure => omega
            case rel => exact ⟨k + 1, by omega, rfl, by go_num, HB2.out, HN'⟩
          | false =>
            rintro e w2 ⟨rfl, hb2⟩
            have HB2 : Hid (Below w.heap.size w w2) := (box4_below (box4_on hB hb2)).1
            have HF : Hid (namesF D = false) := (HX.out _ hwk).2 rfl
            clear hb2 hWk HX hwk
            go_wp2
            go_ret
            exact ⟨by rw [HF.out]; rfl, HB2.out⟩
        · have hkz : ¬ (k : Int) < (D.ni : Int) := by omega
          obtain rfl : k = D.ni := by omega
          have hWk := hW D.name wr hf.name
          have HF : Hid (namesF D = wordOk D.name) := by
            show _ = _
            unfold namesF
            cases hn : wordOk D.name with
            | true => exact decide_eq_true ⟨HA.out, HI.out, rfl⟩
            | false => exact decide_eq_false (fun h => by cases h.2.2)
          clear hc hi hf hW HA HI
          go_wp2_with fail
          refine hWk.mono ?_
          rintro e w2 ⟨rfl, hb2⟩
          have HB2 : Hid (Below w.heap.size w w2) := (box4_below (box4_on hB hb2)).1
          clear hb2 hWk
          go_wp2
          go_ret
          exact ⟨by rw [HF.out]; rfl, HB2.out⟩
end Go.Proofs.YtfjlmkphncigladGreatDoor

/-
  The model's l9Types comes to the plain one.
-/
namespace Go.Proofs.YtfjlmkphncigladGreatDoor
open Go.RowKit
set_option maxRecDepth 4000

set_option maxHeartbeats 1000000 in
theorem l9Types_any (v : Value) (D : PDef) (w : World) (h : DView w v D) (hnc : D.nc ≤ 1048576) :
    Calls Tryz.prog 20 #[v] w fun e w' => e = .returned (.bool (typesF D)) ∧ Below w.heap.size w w' := by
  obtain ⟨ac, cc, ap, cp, ai, ci, rfl, hc, -, -⟩ := h.is
  clear h
  go_enter Tryz.func20, Tryz.ntmps20
  go_wp2
  go_loopg [3] D.nc (fun q i wr => ∃ k : Nat, k ≤ D.nc ∧ q = D.nc - k ∧ i = .int .i64 k ∧ Below (w.heap.size + 1) (w.alloc (.cells #[.string D.name, .slice ac D.nc cc, .slice ap D.np cp, .slice ai D.ni ci] 28)) wr ∧ Hid (∀ j, j < k → 1 ≤ (D.col j).type ∧ (D.col j).type ≤ 4))
  case atStart => exact ⟨0, Nat.zero_le _, rfl, rfl, Below.refl _ _, fun j hj => absurd hj (Nat.not_lt_zero _)⟩
  case round =>
    obtain ⟨k, hk, rfl, rfl, hB, HA⟩ := hrel
    obtain ⟨x0, x1, x2, x3⟩ := box4 hB
    obtain ⟨hBw, hsz⟩ := box4_below hB
    by_cases hlt : k < D.nc
    · have hkz : (k : Int) < (D.nc : Int) := by omega
      obtain ⟨b1, o1, rfl, hb1, hcs⟩ := (hc.below hBw).cells (by omega)
      obtain ⟨-, y1, -⟩ := hcs k hlt
      obtain ⟨t, ht⟩ : ∃ t, Hid ((D.col k).type = t) := ⟨_, rfl⟩
      rw [ht.out] at y1
      have hI := l1In_tok t 1 4 wr
      have HX : Hid ((1 ≤ t ∧ t ≤ 4 → ∀ j, j < k + 1 → 1 ≤ (D.col j).type ∧ (D.col j).type ≤ 4) ∧ (¬ (1 ≤ t ∧ t ≤ 4) → typesF D = false)) := by
        refine ⟨fun hb j hj => ?_, fun hb => ?_⟩
        · by_cases hj' : j < k
          · exact HA.out j hj'
          · obtain rfl : j = k := by omega
            rw [ht.out]; exact hb
        · unfold typesF
          exact decide_eq_false (fun h => by have := h.1 k hlt; rw [ht.out] at this; exact hb this)
      clear hcs hc HA
      by_cases hb : 1 ≤ t ∧ t ≤ 4
      · have hd : (decide (1 ≤ t) && decide (t ≤ 4)) = true := by simp [hb]
        rw [hd] at hI
        have HN : Hid (∀ j, j < k + 1 → 1 ≤ (D.col j).type ∧ (D.col j).type ≤ 4) := HX.out.1 hb
        have HB2 : Hid (Below (w.heap.size + 1) _ wr) := hB
        clear hd HX hb hB
        go_wp2_with fail
        refine hI.mono ?_
        rintro e _ ⟨rfl, rfl⟩
        clear hI
        go_wp2
        go_roundg (D.nc - (k + 1))
        case measure => omega
        case rel => exact ⟨k + 1, by omega, rfl, by go_num, HB2.out, HN⟩
      · have hd : (decide (1 ≤ t) && decide (t ≤ 4)) = false := by
          rw [Bool.eq_false_iff]; intro h; simp at h; exact hb h
        rw [hd] at hI
        have HF : Hid (typesF D = false) := HX.out.2 hb
        clear hd HX hb
        go_wp2_with fail
        refine hI.mono ?_
        rintro e _ ⟨rfl, rfl⟩
        clear hI
        go_wp2
        go_ret
        exact ⟨by rw [HF.out]; rfl, hBw⟩
    · have hkz : ¬ (k : Int) < (D.nc : Int) := by omega
      obtain rfl : k = D.nc := by omega
      have HF : Hid (typesF D = (decide ((1 : Int) ≤ (D.nc : Int)) && decide ((D.nc : Int) ≤ 6))) := by
        show _ = _
        unfold typesF
        rw [Bool.eq_iff_iff]
        simp only [decide_eq_true_eq, Bool.and_eq_true]
        exact ⟨fun h => ⟨by omega, by omega⟩, fun h => ⟨HA.out, by omega, by omega⟩⟩
      have hI := l1In_tok D.nc 1 6 wr
      clear hc HA
      go_wp2_with fail
      refine hI.mono ?_
      rintro e _ ⟨rfl, rfl⟩
      clear hI
      go_wp2
      go_ret
      exact ⟨by rw [HF.out]; rfl, hBw⟩
end Go.Proofs.YtfjlmkphncigladGreatDoor

/-
  The model's l9Col and l9Once come to the plain ones.
-/
namespace Go.Proofs.YtfjlmkphncigladGreatDoor
open Go.RowKit
set_option maxRecDepth 4000

/-- The place of the first column from the k-th on, of m, that has a name; -1: there is none. -/
def colFrom (f : Nat → PCol) (s : ByteArray) : Nat → Nat → Int
  | 0, _ => -1
  | m + 1, k => if (f k).name = s then (k : Int) else colFrom f s m (k + 1)
/-- The place of the first of n columns that has a name; -1: there is none. -/
def colAt (f : Nat → PCol) (n : Nat) (s : ByteArray) : Int := colFrom f s n 0
theorem colFrom_skip (f : Nat → PCol) (s : ByteArray) : ∀ (k n : Nat), k ≤ n → (∀ j, j < k → (f j).name ≠ s) → colAt f n s = colFrom f s (n - k) k
  | 0, _, _, _ => rfl
  | k + 1, n, hk, hn => by
    rw [colFrom_skip f s k n (by omega) (fun j hj => hn j (by omega)), show n - k = (n - (k + 1)) + 1 by omega, colFrom, if_neg (hn k (by omega))]
theorem colAt_first {f : Nat → PCol} {n k : Nat} {s : ByteArray} (hk : k < n) (he : (f k).name = s) (hn : ∀ j, j < k → (f j).name ≠ s) : colAt f n s = k := by
  rw [colFrom_skip f s k n (by omega) hn, show n - k = (n - k - 1) + 1 by omega, colFrom, if_pos he]
theorem colAt_none {f : Nat → PCol} {n : Nat} {s : ByteArray} (hn : ∀ j, j < n → (f j).name ≠ s) : colAt f n s = -1 := by
  rw [colFrom_skip f s n n (Nat.le_refl _) hn, Nat.sub_self]; rfl
/-- A column is the first of its name just if none ahead has it. -/
theorem colAt_self {f : Nat → PCol} {n k : Nat} (hk : k < n) : colAt f n (f k).name = k ↔ ∀ j, j < k → (f j).name ≠ (f k).name := by
  constructor
  · intro h
    have key : ∀ m, m ≤ k → ∀ j, j < m → (f j).name ≠ (f k).name := by
      intro m
      induction m with
      | zero => intro _ j hj; exact absurd hj (Nat.not_lt_zero _)
      | succ m ih =>
        intro hm j hj
        have hi := ih (by omega)
        by_cases e : j < m
        · exact hi j e
        · obtain rfl : j = m := by omega
          intro he
          have := colAt_first (n := n) (by omega) he hi
          rw [h] at this
          omega
    exact key k (Nat.le_refl _)
  · exact fun h => colAt_first hk rfl h

set_option maxHeartbeats 1000000 in
theorem l9Col_any (v : Value) (D : PDef) (s : ByteArray) (w : World) (h : DView w v D) (hnc : D.nc ≤ 1048576) :
    Calls Tryz.prog 56 #[v, .string s] w fun e w' => e = .returned (.int .i64 (colAt D.col D.nc s)) ∧ Below w.heap.size w w' := by
  obtain ⟨ac, cc, ap, cp, ai, ci, rfl, hc, -, -⟩ := h.is
  clear h
  go_enter Tryz.func56, Tryz.ntmps56
  go_wp2
  go_loopg [5] D.nc (fun q i wr => ∃ k : Nat, k ≤ D.nc ∧ q = D.nc - k ∧ i = .int .i64 k ∧ wr = w.alloc (.cells #[.string D.name, .slice ac D.nc cc, .slice ap D.np cp, .slice ai D.ni ci] 28) ∧ Hid (∀ j, j < k → (D.col j).name ≠ s))
  case atStart => exact ⟨0, Nat.zero_le _, rfl, rfl, rfl, fun j hj => absurd hj (Nat.not_lt_zero _)⟩
  case round =>
    obtain ⟨k, hk, rfl, rfl, hW, HA⟩ := hrel
    have hB : Below (w.heap.size + 1) (w.alloc (.cells #[.string D.name, .slice ac D.nc cc, .slice ap D.np cp, .slice ai D.ni ci] 28)) wr := by rw [hW]; exact Below.refl _ _
    have HW : Hid (wr = w.alloc (.cells #[.string D.name, .slice ac D.nc cc, .slice ap D.np cp, .slice ai D.ni ci] 28)) := hW
    clear hW
    obtain ⟨x0, x1, x2, x3⟩ := box4 hB
    obtain ⟨hBw, hsz⟩ := box4_below hB
    clear hB
    by_cases hlt : k < D.nc
    · have hkz : (k : Int) < (D.nc : Int) := by omega
      obtain ⟨b1, o1, rfl, hb1, hcs⟩ := (hc.below hBw).cells (by omega)
      obtain ⟨y0, -, -⟩ := hcs k hlt
      clear hcs hc
      by_cases he : (D.col k).name = s
      · have HF : Hid (colAt D.col D.nc s = k) := colAt_first hlt he HA.out
        have hq := bytes_eq he
        obtain ⟨z, hz⟩ : ∃ z, Hid ((D.col k).name = z) := ⟨_, rfl⟩
        rw [hz.out] at y0 hq
        clear he
        go_wp2
        go_ret
        exact ⟨by rw [HF.out]; rfl, hBw⟩
      · have HN : Hid (∀ j, j < k + 1 → (D.col j).name ≠ s) := by
          intro j hj
          by_cases hj' : j < k
          · exact HA.out j hj'
          · obtain rfl : j = k := by omega
            exact he
        have hq := bytes_ne he
        obtain ⟨z, hz⟩ : ∃ z, Hid ((D.col k).name = z) := ⟨_, rfl⟩
        rw [hz.out] at y0 hq
        clear he HA
        go_wp2
        go_roundg (D.nc - (k + 1))
        case measure => omega
        case rel => exact ⟨k + 1, by omega, rfl, by go_num, HW.out, HN⟩
    · have hkz : ¬ (k : Int) < (D.nc : Int) := by omega
      obtain rfl : k = D.nc := by omega
      have HF : Hid (colAt D.col D.nc s = -1) := colAt_none HA.out
      clear hc HA
      go_wp2
      go_ret
      exact ⟨by rw [HF.out]; rfl, hBw⟩

set_option maxHeartbeats 2000000 in
theorem l9Once_any (v : Value) (D : PDef) (w : World) (h : DView w v D) (hnc : D.nc ≤ 1048576) (hni : D.ni ≤ 1048576) :
    Calls Tryz.prog 21 #[v] w fun e w' => e = .returned (.bool (onceF D)) ∧ Below w.heap.size w w' := by
  have hL := fun s W hV => l9Col_any v D s W hV hnc
  have hv := h
  obtain ⟨ac, cc, ap, cp, ai, ci, rfl, hc, -, hi⟩ := h.is
  clear h
  go_enter Tryz.func21, Tryz.ntmps21
  go_wp2
  go_loopg [3] D.nc (fun q i wr => ∃ k : Nat, k ≤ D.nc ∧ q = D.nc - k ∧ i = .int .i64 k ∧ Below (w.heap.size + 1) (w.alloc (.cells #[.string D.name, .slice ac D.nc cc, .slice ap D.np cp, .slice ai D.ni ci] 28)) wr ∧ Hid (∀ i, i < k → ∀ j, j < i → (D.col j).name ≠ (D.col i).name))
  case atStart => exact ⟨0, Nat.zero_le _, rfl, rfl, Below.refl _ _, fun j hj => absurd hj (Nat.not_lt_zero _)⟩
  case round =>
    obtain ⟨k, hk, rfl, rfl, hB, HA⟩ := hrel
    obtain ⟨x0, x1, x2, x3⟩ := box4 hB
    obtain ⟨hBw, hsz⟩ := box4_below hB
    by_cases hlt : k < D.nc
    · have hkz : (k : Int) < (D.nc : Int) := by omega
      have hLk := fun W (hb : Below w.heap.size w W) => hL (D.col k).name W (hv.below hb)
      obtain ⟨b1, o1, rfl, hb1, hcs⟩ := (hc.below hBw).cells (by omega)
      obtain ⟨y0, -, -⟩ := hcs k hlt
      have HS : Hid (∀ x, colAt D.col D.nc (D.col k).name = x → (x = (k : Int) → ∀ i, i < k + 1 → ∀ j, j < i → (D.col j).name ≠ (D.col i).name) ∧ (x ≠ (k : Int) → onceF D = false)) := by
        intro x e
        refine ⟨fun hx i hi => ?_, fun hx => ?_⟩
        · by_cases hj' : i < k
          · exact HA.out i hj'
          · obtain rfl : i = k := by omega
            exact (colAt_self hlt).1 (e.trans hx)
        · unfold onceF
          refine decide_eq_false (fun h => hx ?_)
          rw [← e]
          exact (colAt_self hlt).2 (h.1 k hlt)
      obtain ⟨x, hx⟩ : ∃ x, Hid (colAt D.col D.nc (D.col k).name = x) := ⟨_, rfl⟩
      simp only [hx.out] at hLk
      obtain ⟨z, hz⟩ : ∃ z, Hid ((D.col k).name = z) := ⟨_, rfl⟩
      rw [hz.out] at y0
      simp only [hz.out] at hLk
      have HX := HS.out x hx.out
      have HX' : Hid ((x = (k : Int) → ∀ i, i < k + 1 → ∀ j, j < i → (D.col j).name ≠ (D.col i).name) ∧ (x ≠ (k : Int) → onceF D = false)) := HX
      clear hcs hc hi hv hL HA HX HS
      have HBw : Hid (Below w.heap.size w wr) := hBw
      have HB : Hid (Below (w.heap.size + 1) (w.alloc (.cells #[.string D.name, .slice (some ⟨b1, o1, none⟩) D.nc cc, .slice ap D.np cp, .slice ai D.ni ci] 28)) wr) := hB
      clear hBw hB
      go_wp2_with fail
      go_region_held3 (fun WW => (WW.cell? ⟨w.heap.size, 0, none⟩ = some (.string D.name) ∧ WW.cell? ⟨w.heap.size, 1, none⟩ = some (.slice (some ⟨b1, o1, none⟩) D.nc cc) ∧ WW.cell? ⟨w.heap.size, 2, none⟩ = some (.slice ap D.np cp) ∧ WW.cell? ⟨w.heap.size, 3, none⟩ = some (.slice ai D.ni ci)) ∧ WW.cell? ⟨b1, o1 + k * 3, none⟩ = some (.string z)) (first | assumption | go_keep) (first | (go_at_call 56; refine (hLk _ (by repeat (first | exact HBw.out | refine Below.drew ?_))).mono ?_; rintro e w2 ⟨rfl, hB2⟩; have hcells : (w2.cell? ⟨w.heap.size, 0, none⟩ = some (.string D.name) ∧ w2.cell? ⟨w.heap.size, 1, none⟩ = some (.slice (some ⟨b1, o1, none⟩) D.nc cc) ∧ w2.cell? ⟨w.heap.size, 2, none⟩ = some (.slice ap D.np cp) ∧ w2.cell? ⟨w.heap.size, 3, none⟩ = some (.slice ai D.ni ci)) ∧ w2.cell? ⟨b1, o1 + k * 3, none⟩ = some (.string z) := (by (refine ⟨⟨?_, ?_, ?_, ?_⟩, ?_⟩ <;> (rw [hB2.cell (by first | (simp; omega) | exact hb1)]; assumption)))))
      all_goals
        have hb2 : Below wr.heap.size wr w2 := Below.trans (by repeat (first | exact Below.refl _ _ | refine Below.drew ?_)) hB2
        have HB2 : Hid (Below (w.heap.size + 1) (w.alloc (.cells #[.string D.name, .slice (some ⟨b1, o1, none⟩) D.nc cc, .slice ap D.np cp, .slice ai D.ni ci] 28)) w2) := box4_on HB.out hb2
        clear hB2 hb2 hLk HB
        by_cases hxk : x = (k : Int)
        · have hq : (x != (k : Int)) = false := by rw [hxk]; exact bne_self_eq_false _
          have HN : Hid (∀ i, i < k + 1 → ∀ j, j < i → (D.col j).name ≠ (D.col i).name) := HX'.out.1 hxk
          clear hxk HX' HBw hcells
          go_wp2
          go_roundg (D.nc - (k + 1))
          case measure => omega
          case rel => exact ⟨k + 1, by omega, rfl, by go_num, HB2.out, HN⟩
        · have hq : (x != (k : Int)) = true := by simpa using hxk
          have HF : Hid (onceF D = false) := HX'.out.2 hxk
          have HB3 : Hid (Below w.heap.size w w2) := (box4_below HB2.out).1
          clear hxk HX' HBw hcells
          go_wp2
          go_ret
          exact ⟨by rw [HF.out]; rfl, HB3.out⟩
    · have hkz : ¬ (k : Int) < (D.nc : Int) := by omega
      obtain rfl : k = D.nc := by omega
      clear hc hL hv
      go_wp2
      go_loopg [4] D.ni (fun q i wr => ∃ k : Nat, k ≤ D.ni ∧ q = D.ni - k ∧ i = .int .i64 k ∧ Below (w.heap.size + 1) (w.alloc (.cells #[.string D.name, .slice ac D.nc cc, .slice ap D.np cp, .slice ai D.ni ci] 28)) wr ∧ Hid (∀ i, i < k → ∀ j, j < i → (D.idx j).name ≠ (D.idx i).name))
      case atStart => exact ⟨0, Nat.zero_le _, rfl, rfl, hB, fun j hj => absurd hj (Nat.not_lt_zero _)⟩
      case round =>
        clear x0 x1 x2 x3 hBw hsz hB hkz hlt
        obtain ⟨k, hk, rfl, rfl, hB, HI⟩ := hrel
        obtain ⟨x0, x1, x2, x3⟩ := box4 hB
        obtain ⟨hBw, hsz⟩ := box4_below hB
        by_cases hlt : k < D.ni
        · have hkz : (k : Int) < (D.ni : Int) := by omega
          go_wp2
          go_loopg [5] k (fun q i wr => ∃ m : Nat, m ≤ k ∧ q = k - m ∧ i = .int .i64 m ∧ Below (w.heap.size + 1) (w.alloc (.cells #[.string D.name, .slice ac D.nc cc, .slice ap D.np cp, .slice ai D.ni ci] 28)) wr ∧ Hid (∀ j, j < m → (D.idx j).name ≠ (D.idx k).name))
          case atStart => exact ⟨0, Nat.zero_le _, rfl, rfl, hB, fun j hj => absurd hj (Nat.not_lt_zero _)⟩
          case round =>
            clear x0 x1 x2 x3 hBw hsz hB
            obtain ⟨m, hm, rfl, rfl, hB, HM⟩ := hrel
            obtain ⟨x0, x1, x2, x3⟩ := box4 hB
            obtain ⟨hBw, hsz⟩ := box4_below hB
            by_cases hmk : m < k
            · have hmz : (m : Int) < (k : Int) := by omega
              have hmn : (m : Int) < (D.ni : Int) := by omega
              obtain ⟨b1, o1, rfl, hb1, hcs⟩ := (hi.below hBw).cells (by omega)
              obtain ⟨y0, -, -⟩ := hcs k hlt
              obtain ⟨y1, -, -⟩ := hcs m (by omega)
              have HB2 : Hid (Below (w.heap.size + 1) (w.alloc (.cells #[.string D.name, .slice ac D.nc cc, .slice ap D.np cp, .slice (some ⟨b1, o1, none⟩) D.ni ci] 28)) wr) := hB
              have HBw : Hid (Below w.heap.size w wr) := hBw
              clear hcs hi hB hBw
              by_cases he : (D.idx m).name = (D.idx k).name
              · have hq := bytes_eq he
                have HF : Hid (onceF D = false) := by
                  show _ = _
                  unfold onceF
                  exact decide_eq_false (fun h => h.2 k hlt m hmk he)
                obtain ⟨z, hz⟩ : ∃ z, Hid ((D.idx k).name = z) := ⟨_, rfl⟩
                obtain ⟨y, hy⟩ : ∃ y, Hid ((D.idx m).name = y) := ⟨_, rfl⟩
                rw [hz.out] at y0 hq
                rw [hy.out] at y1 hq
                clear he HM HI HA
                go_wp2_with fail
                go_quiet (fail)
                go_wp2
                go_ret
                exact ⟨by rw [HF.out]; rfl, HBw.out.trans ⟨rfl, rfl, rfl, Nat.le_refl _, fun _ _ => rfl⟩⟩
              · have hq := bytes_ne he
                have HN : Hid (∀ j, j < m + 1 → (D.idx j).name ≠ (D.idx k).name) := by
                  intro j hj
                  by_cases hj' : j < m
                  · exact HM.out j hj'
                  · obtain rfl : j = m := by omega
                    exact he
                obtain ⟨z, hz⟩ : ∃ z, Hid ((D.idx k).name = z) := ⟨_, rfl⟩
                obtain ⟨y, hy⟩ : ∃ y, Hid ((D.idx m).name = y) := ⟨_, rfl⟩
                rw [hz.out] at y0 hq
                rw [hy.out] at y1 hq
                clear he HM HI HA
                go_wp2_with fail
                go_quiet (fail)
                go_wp2
                go_roundg (k - (m + 1))
                case measure => omega
                case rel => exact ⟨m + 1, by omega, rfl, by go_num, HB2.out.trans ⟨rfl, rfl, rfl, Nat.le_refl _, fun _ _ => rfl⟩, HN⟩
            · have hmz : ¬ (m : Int) < (k : Int) := by omega
              obtain rfl : m = k := by omega
              have HN : Hid (∀ i, i < m + 1 → ∀ j, j < i → (D.idx j).name ≠ (D.idx i).name) := by
                intro i hi'
                by_cases hj' : i < m
                · exact HI.out i hj'
                · obtain rfl : i = m := by omega
                  exact HM.out
              have HB2 : Hid (Below (w.heap.size + 1) (w.alloc (.cells #[.string D.name, .slice ac D.nc cc, .slice ap D.np cp, .slice ai D.ni ci] 28)) wr) := hB
              clear HM HI HA hi hB hBw
              go_wp2
              go_roundg (D.ni - (m + 1))
              case measure => omega
              case rel => exact ⟨m + 1, by omega, rfl, by go_num, HB2.out, HN⟩
        · have hkz : ¬ (k : Int) < (D.ni : Int) := by omega
          obtain rfl : k = D.ni := by omega
          have HF : Hid (onceF D = true) := decide_eq_true ⟨HA.out, HI.out⟩
          have HBw : Hid (Below w.heap.size w wr) := hBw
          clear HI HA hi hB hBw
          go_wp2
          go_ret
          exact ⟨by rw [HF.out]; rfl, HBw.out⟩
end Go.Proofs.YtfjlmkphncigladGreatDoor

/-
  The model's l9Parts and l9AllParts come to the plain ones.
-/
namespace Go.Proofs.YtfjlmkphncigladGreatDoor
open Go.RowKit
set_option maxRecDepth 4000

theorem wrapI {x : Int} (h0 : -9223372036854775808 ≤ x) (h1 : x ≤ 9223372036854775807) : IntKind.i64.wrap x = x := by
  simp [IntKind.wrap, IntKind.bits, IntKind.signed]; omega

set_option maxHeartbeats 2000000 in
theorem l9Parts_any (v : Value) (D : PDef) (a : Option Addr) (n c : Nat) (f : Nat → PBy) (w : World) (h : DView w v D) (hv : BView w a n c f) (hnc : D.nc ≤ 1048576) (hn : n ≤ 1048576) :
    Calls Tryz.prog 57 #[v, .slice a n c] w fun e w' => e = .returned (.bool (partsF D.nc n f)) ∧ Below w.heap.size w w' := by
  obtain ⟨ac, cc, ap, cp, ai, ci, rfl, hc, -, -⟩ := h.is
  clear h hc
  go_enter Tryz.func57, Tryz.ntmps57
  go_wp2
  go_loopg [5] n (fun q i wr => ∃ k : Nat, k ≤ n ∧ q = n - k ∧ i = .int .i64 k ∧ Below (w.heap.size + 1) (w.alloc (.cells #[.string D.name, .slice ac D.nc cc, .slice ap D.np cp, .slice ai D.ni ci] 28)) wr ∧ Hid (∀ i, i < k → 0 ≤ (f i).col ∧ (f i).col < D.nc ∧ (0 < i → (f 0).col ≠ (f i).col)))
  case atStart => exact ⟨0, Nat.zero_le _, rfl, rfl, Below.refl _ _, fun j hj => absurd hj (Nat.not_lt_zero _)⟩
  case round =>
    obtain ⟨k, hk, rfl, rfl, hB, HA⟩ := hrel
    obtain ⟨x0, x1, x2, x3⟩ := box4 hB
    obtain ⟨hBw, hsz⟩ := box4_below hB
    by_cases hlt : k < n
    · have hkz : (k : Int) < (n : Int) := by omega
      have h0n : (0 : Int) < (n : Int) := by omega
      obtain ⟨b1, o1, rfl, hb1, hcs⟩ := (hv.below hBw).cells (by omega)
      obtain ⟨y0, -⟩ := hcs k hlt
      obtain ⟨y1, -⟩ := hcs 0 (by omega)
      simp only [Nat.zero_mul, Nat.add_zero] at y1
      have HB2 : Hid (Below (w.heap.size + 1) (w.alloc (.cells #[.string D.name, .slice ac D.nc cc, .slice ap D.np cp, .slice ai D.ni ci] 28)) wr) := hB
      have HBw : Hid (Below w.heap.size w wr) := hBw
      obtain ⟨x, hx⟩ : ∃ x, Hid ((f k).col = x) := ⟨_, rfl⟩
      obtain ⟨y, hy⟩ : ∃ y, Hid ((f 0).col = y) := ⟨_, rfl⟩
      rw [hx.out] at y0
      rw [hy.out] at y1
      have HNX : Hid (0 ≤ x ∧ x < D.nc ∧ (0 < k → y ≠ x) → ∀ i, i < k + 1 → 0 ≤ (f i).col ∧ (f i).col < D.nc ∧ (0 < i → (f 0).col ≠ (f i).col)) := by
        intro hb i hi
        by_cases hj' : i < k
        · exact HA.out i hj'
        · obtain rfl : i = k := by omega
          rw [hx.out, hy.out]
          exact hb
      have HNO : Hid (¬ (0 ≤ x ∧ x < D.nc ∧ (0 < k → y ≠ x)) → partsF D.nc n f = false) := by
        intro hb
        unfold partsF
        refine decide_eq_false (fun h => hb ?_)
        have := h.1 k hlt
        rw [hx.out, hy.out] at this
        exact this
      have hI := fun W => l1In_tok x 0 ((D.nc : Int) - 1) W
      have hsub : IntKind.i64.wrap ((D.nc : Int) - 1) = (D.nc : Int) - 1 := wrapI (by omega) (by omega)
      clear hcs hv hB hBw HA
      by_cases hin : 0 ≤ x ∧ x < D.nc
      · have hd : (decide (0 ≤ x) && decide (x ≤ (D.nc : Int) - 1)) = true := by simp; omega
        simp only [hd] at hI
        by_cases h0 : 0 < k
        · have h0z : decide ((0 : Int) < (k : Int)) = true := decide_eq_true (by omega)
          by_cases hxy : y = x
          · have HF : Hid (partsF D.nc n f = false) := HNO.out (fun h => h.2.2 h0 hxy)
            have hq : (y == x) = true := by simpa using hxy
            clear HNX HNO hd hin hxy
            go_wp2_with fail
            go_quiet (first | (go_at_call 55; exact Calls.quiet_of_same ((hI _).mono (fun _ _ h => ⟨h.1, h.2.symm⟩))))
            go_wp2
            go_ret
            exact ⟨by rw [HF.out]; rfl, HBw.out.trans ⟨rfl, rfl, rfl, Nat.le_refl _, fun _ _ => rfl⟩⟩
          · have hq : (y == x) = false := by simpa using hxy
            have HN : Hid (∀ i, i < k + 1 → 0 ≤ (f i).col ∧ (f i).col < D.nc ∧ (0 < i → (f 0).col ≠ (f i).col)) := HNX.out ⟨hin.1, hin.2, fun _ => hxy⟩
            clear HNX HNO hd hin hxy
            go_wp2_with fail
            go_quiet (first | (go_at_call 55; exact Calls.quiet_of_same ((hI _).mono (fun _ _ h => ⟨h.1, h.2.symm⟩))))
            go_wp2
            go_roundg (n - (k + 1))
            case measure => omega
            case rel => exact ⟨k + 1, by omega, rfl, by go_num, HB2.out.trans ⟨rfl, rfl, rfl, Nat.le_refl _, fun _ _ => rfl⟩, HN⟩
        · have h0z : decide ((0 : Int) < (k : Int)) = false := decide_eq_false (by omega)
          have HN : Hid (∀ i, i < k + 1 → 0 ≤ (f i).col ∧ (f i).col < D.nc ∧ (0 < i → (f 0).col ≠ (f i).col)) := HNX.out ⟨hin.1, hin.2, fun h => absurd h h0⟩
          clear HNX HNO hd hin
          go_wp2_with fail
          go_quiet (first | (go_at_call 55; exact Calls.quiet_of_same ((hI _).mono (fun _ _ h => ⟨h.1, h.2.symm⟩))))
          go_wp2
          go_roundg (n - (k + 1))
          case measure => omega
          case rel => exact ⟨k + 1, by omega, rfl, by go_num, HB2.out.trans ⟨rfl, rfl, rfl, Nat.le_refl _, fun _ _ => rfl⟩, HN⟩
      · have hd : (decide (0 ≤ x) && decide (x ≤ (D.nc : Int) - 1)) = false := by
          rw [Bool.eq_false_iff]; intro h; simp at h; exact hin (by omega)
        simp only [hd] at hI
        have HF : Hid (partsF D.nc n f = false) := HNO.out (fun h => hin ⟨h.1, h.2.1⟩)
        clear HNX HNO hd hin
        go_wp2_with fail
        go_quiet (first | (go_at_call 55; exact Calls.quiet_of_same ((hI _).mono (fun _ _ h => ⟨h.1, h.2.symm⟩))))
        go_wp2
        go_ret
        exact ⟨by rw [HF.out]; rfl, HBw.out.trans ⟨rfl, rfl, rfl, Nat.le_refl _, fun _ _ => rfl⟩⟩
    · have hkz : ¬ (k : Int) < (n : Int) := by omega
      obtain rfl : k = n := by omega
      have HF : Hid (partsF D.nc k f = (decide ((1 : Int) ≤ (k : Int)) && decide ((k : Int) ≤ 2))) := by
        show _ = _
        unfold partsF
        rw [Bool.eq_iff_iff]
        simp only [decide_eq_true_eq, Bool.and_eq_true]
        exact ⟨fun h => ⟨by omega, by omega⟩, fun h => ⟨HA.out, by omega, by omega⟩⟩
      have hI := l1In_tok k 1 2 wr
      clear hv HA
      go_wp2_with fail
      refine hI.mono ?_
      rintro e _ ⟨rfl, rfl⟩
      clear hI
      go_wp2
      go_ret
      exact ⟨by rw [HF.out]; rfl, hBw⟩

set_option maxHeartbeats 2000000 in
theorem l9AllParts_any (v : Value) (D : PDef) (w : World) (h : DView w v D) (hf : DFine D) :
    Calls Tryz.prog 22 #[v] w fun e w' => e = .returned (.bool (allPartsF D)) ∧ Below w.heap.size w w' := by
  have hnc := hf.nc
  have hni := hf.ni
  have hL := fun a n c f W hV hb hn => l9Parts_any v D a n c f W hV hb hnc hn
  have hv := h
  obtain ⟨ac, cc, ap, cp, ai, ci, rfl, -, hp, hi⟩ := h.is
  clear h
  go_enter Tryz.func22, Tryz.ntmps22
  go_wp2
  go_loopg [3] D.ni (fun q i wr => ∃ k : Nat, k ≤ D.ni ∧ q = D.ni - k ∧ i = .int .i64 k ∧ Below (w.heap.size + 1) (w.alloc (.cells #[.string D.name, .slice ac D.nc cc, .slice ap D.np cp, .slice ai D.ni ci] 28)) wr ∧ Hid (∀ i, i < k → partsF D.nc (D.idx i).n (D.idx i).part = true))
  case atStart => exact ⟨0, Nat.zero_le _, rfl, rfl, Below.refl _ _, fun j hj => absurd hj (Nat.not_lt_zero _)⟩
  case round =>
    obtain ⟨k, hk, rfl, rfl, hB, HA⟩ := hrel
    obtain ⟨x0, x1, x2, x3⟩ := box4 hB
    obtain ⟨hBw, hsz⟩ := box4_below hB
    by_cases hlt : k < D.ni
    · have hkz : (k : Int) < (D.ni : Int) := by omega
      have hfk := (hf.idx k hlt).2
      obtain ⟨b1, o1, rfl, hb1, hcs⟩ := (hi.below hBw).cells (by omega)
      obtain ⟨-, -, a2, c2, y2, hv2⟩ := hcs k hlt
      have hLk := fun W (hb : Below w.heap.size w W) (hw : Below wr.heap.size wr W) => hL a2 (D.idx k).n c2 (D.idx k).part W (hv.below hb) (hv2.below hw) hfk
      have HS : Hid (∀ b, partsF D.nc (D.idx k).n (D.idx k).part = b → (b = true → ∀ i, i < k + 1 → partsF D.nc (D.idx i).n (D.idx i).part = true) ∧ (b = false → allPartsF D = false)) := by
        intro b e
        refine ⟨fun hx i hi => ?_, fun hx => ?_⟩
        · by_cases hj' : i < k
          · exact HA.out i hj'
          · obtain rfl : i = k := by omega
            rw [e, hx]
        · unfold allPartsF
          refine decide_eq_false (fun h => ?_)
          have := h.1 k hlt
          rw [e, hx] at this
          cases this
      obtain ⟨x, hx⟩ : ∃ x, Hid (partsF D.nc (D.idx k).n (D.idx k).part = x) := ⟨_, rfl⟩
      simp only [hx.out] at hLk
      have HX' : Hid ((x = true → ∀ i, i < k + 1 → partsF D.nc (D.idx i).n (D.idx i).part = true) ∧ (x = false → allPartsF D = false)) := HS.out x hx.out
      obtain ⟨n2, hn2⟩ : ∃ n2, Hid ((D.idx k).n = n2) := ⟨_, rfl⟩
      rw [hn2.out] at y2
      simp only [hn2.out] at hLk
      have HBw : Hid (Below w.heap.size w wr) := hBw
      have HB : Hid (Below (w.heap.size + 1) (w.alloc (.cells #[.string D.name, .slice ac D.nc cc, .slice ap D.np cp, .slice (some ⟨b1, o1, none⟩) D.ni ci] 28)) wr) := hB
      clear hcs hp hi hv hL HA HS hv2 hf hBw hB hfk
      go_wp2_with fail
      go_region_held3 (fun WW => (WW.cell? ⟨w.heap.size, 0, none⟩ = some (.string D.name) ∧ WW.cell? ⟨w.heap.size, 1, none⟩ = some (.slice ac D.nc cc) ∧ WW.cell? ⟨w.heap.size, 2, none⟩ = some (.slice ap D.np cp) ∧ WW.cell? ⟨w.heap.size, 3, none⟩ = some (.slice (some ⟨b1, o1, none⟩) D.ni ci)) ∧ WW.cell? ⟨b1, o1 + k * 3 + 2, none⟩ = some (.slice a2 n2 c2)) (first | assumption | go_keep) (first | (go_at_call 57; refine (hLk _ (by repeat (first | exact HBw.out | refine Below.drew ?_)) (by repeat (first | exact Below.refl _ _ | refine Below.drew ?_))).mono ?_; rintro e w2 ⟨rfl, hB2⟩; have hcells : (w2.cell? ⟨w.heap.size, 0, none⟩ = some (.string D.name) ∧ w2.cell? ⟨w.heap.size, 1, none⟩ = some (.slice ac D.nc cc) ∧ w2.cell? ⟨w.heap.size, 2, none⟩ = some (.slice ap D.np cp) ∧ w2.cell? ⟨w.heap.size, 3, none⟩ = some (.slice (some ⟨b1, o1, none⟩) D.ni ci)) ∧ w2.cell? ⟨b1, o1 + k * 3 + 2, none⟩ = some (.slice a2 n2 c2) := (by (refine ⟨⟨?_, ?_, ?_, ?_⟩, ?_⟩ <;> (rw [hB2.cell (by first | (simp; omega) | exact hb1)]; assumption)))))
      all_goals
        have hb2 : Below wr.heap.size wr w2 := Below.trans (by repeat (first | exact Below.refl _ _ | refine Below.drew ?_)) hB2
        have HB2 : Hid (Below (w.heap.size + 1) (w.alloc (.cells #[.string D.name, .slice ac D.nc cc, .slice ap D.np cp, .slice (some ⟨b1, o1, none⟩) D.ni ci] 28)) w2) := box4_on HB.out hb2
        clear hB2 hb2 hLk HB
        cases x with
        | true =>
          have HN : Hid (∀ i, i < k + 1 → partsF D.nc (D.idx i).n (D.idx i).part = true) := HX'.out.1 rfl
          clear HX' HBw hcells
          go_wp2
          go_roundg (D.ni - (k + 1))
          case measure => omega
          case rel => exact ⟨k + 1, by omega, rfl, by go_num, HB2.out, HN⟩
        | false =>
          have HF : Hid (allPartsF D = false) := HX'.out.2 rfl
          have HB3 : Hid (Below w.heap.size w w2) := (box4_below HB2.out).1
          clear HX' HBw hcells
          go_wp2
          go_ret
          exact ⟨by rw [HF.out]; rfl, HB3.out⟩
    · have hkz : ¬ (k : Int) < (D.ni : Int) := by omega
      obtain rfl : k = D.ni := by omega
      have hLk := hL ap D.np cp D.pri wr (hv.below hBw) (hp.below hBw) hf.np
      have HF : Hid (allPartsF D = partsF D.nc D.np D.pri) := by
        show _ = _
        unfold allPartsF
        cases e : partsF D.nc D.np D.pri with
        | true => exact decide_eq_true ⟨HA.out, rfl⟩
        | false => exact decide_eq_false (fun h => by cases h.2)
      clear hp hi hv hL HA hf
      go_wp2_with fail
      refine hLk.mono ?_
      rintro e w2 ⟨rfl, hb2⟩
      have HB2 : Hid (Below w.heap.size w w2) := (box4_below (box4_on hB hb2)).1
      clear hLk hb2 hB hBw
      go_wp2
      go_ret
      exact ⟨by rw [HF.out]; rfl, HB2.out⟩
end Go.Proofs.YtfjlmkphncigladGreatDoor

/-
  The model's CheckDef comes to the plain one.
-/
namespace Go.Proofs.YtfjlmkphncigladGreatDoor
open Go.RowKit
set_option maxRecDepth 4000

set_option maxHeartbeats 2000000 in
theorem specCheck_any (v : Value) (D : PDef) (w : World) (h : DView w v D) (hf : DFine D) :
    Calls Tryz.prog 8 #[v] w fun e w' => e = .returned (.int .i64 (checkF D)) ∧ Below w.heap.size w w' := by
  have hnc := hf.nc
  have hnp := hf.np
  have hni := hf.ni
  have hv := h
  obtain ⟨ac, cc, ap, cp, ai, ci, rfl, hc, hp, -⟩ := h.is
  clear h
  obtain ⟨vv, hvv⟩ : ∃ vv : Value, Hid (vv = .agg #[.string D.name, .slice ac D.nc cc, .slice ap D.np cp, .slice ai D.ni ci]) := ⟨_, rfl⟩
  have h1 := fun W (hb : Below w.heap.size w W) => l9Names_any _ D W (hv.below hb) hf
  have h2 := fun W (hb : Below w.heap.size w W) => l9Types_any _ D W (hv.below hb) hnc
  have h3 := fun W (hb : Below w.heap.size w W) => l9Once_any _ D W (hv.below hb) hnc hni
  have h4 := fun W (hb : Below w.heap.size w W) => l9AllParts_any _ D W (hv.below hb) hf
  obtain ⟨r, hr⟩ : ∃ r, Hid (checkF D = r) := ⟨_, rfl⟩
  have HC : Hid (checkF D = if namesF D = false then 1 else if typesF D = false then 2 else if onceF D = false then 3 else if 2 < D.ni then 6 else if allPartsF D = false then 5 else if nullF D then 4 else 0) := rfl
  go_enter Tryz.func8, Tryz.ntmps8
  have hB0 := box4_start w (.cells #[.string D.name, .slice ac D.nc cc, .slice ap D.np cp, .slice ai D.ni ci] 28)
  obtain ⟨hBw0, -⟩ := box4_below hB0
  go_wp2_with fail
  refine (h1 _ hBw0).mono ?_
  clear h1
  cases e1 : namesF D with
  | false =>
    rintro e w1 ⟨rfl, hb1⟩
    have HB : Hid (Below w.heap.size w w1) := hBw0.trans (hb1.mono (by simp))
    clear hb1 h2 h3 h4 hc hp hv
    go_wp2
    go_ret
    exact ⟨by rw [HC.out, e1]; rfl, HB.out⟩
  | true =>
  rintro e w1 ⟨rfl, hb1⟩
  have hB1 := box4_on hB0 hb1
  obtain ⟨hBw1, hs1⟩ := box4_below hB1
  obtain ⟨x0, x1, x2, x3⟩ := box4 hB1
  have hT := h2 _ hBw1
  clear hb1 h2 hB0 hBw0
  go_wp2_with fail
  refine hT.mono ?_
  cases e2 : typesF D with
  | false =>
    rintro e w2 ⟨rfl, hb2⟩
    have HB : Hid (Below w.heap.size w w2) := hBw1.trans (hb2.mono (by omega))
    clear hb2 h3 h4 hc hp hv hT
    go_wp2
    go_ret
    exact ⟨by rw [HC.out, e1, e2]; rfl, HB.out⟩
  | true =>
  rintro e w2 ⟨rfl, hb2⟩
  have hB2 := box4_on hB1 hb2
  obtain ⟨hBw2, hs2⟩ := box4_below hB2
  clear x0 x1 x2 x3
  obtain ⟨x0, x1, x2, x3⟩ := box4 hB2
  have hO := h3 _ hBw2
  clear hb2 h3 hB1 hBw1 hT hs1
  go_wp2_with fail
  refine hO.mono ?_
  cases e3 : onceF D with
  | false =>
    rintro e w3 ⟨rfl, hb3⟩
    have HB : Hid (Below w.heap.size w w3) := hBw2.trans (hb3.mono (by omega))
    clear hb3 h4 hc hp hv hO
    go_wp2
    go_ret
    exact ⟨by rw [HC.out, e1, e2, e3]; rfl, HB.out⟩
  | true =>
  rintro e w3 ⟨rfl, hb3⟩
  have hB3 := box4_on hB2 hb3
  obtain ⟨hBw3, hs3⟩ := box4_below hB3
  clear x0 x1 x2 x3
  obtain ⟨x0, x1, x2, x3⟩ := box4 hB3
  have hP := h4 _ hBw3
  clear hb3 h4 hB2 hBw2 hO hs2
  by_cases h6 : 2 < D.ni
  · have h6z : (2 : Int) < (D.ni : Int) := by omega
    have HB : Hid (Below w.heap.size w w3) := hBw3
    clear hc hp hv hP
    go_wp2
    go_ret
    exact ⟨by rw [HC.out, e1, e2, e3, if_pos h6]; rfl, HB.out⟩
  have h6z : ¬ (2 : Int) < (D.ni : Int) := by omega
  go_wp2_with fail
  refine hP.mono ?_
  cases e5 : allPartsF D with
  | false =>
    rintro e w4 ⟨rfl, hb4⟩
    have HB : Hid (Below w.heap.size w w4) := hBw3.trans (hb4.mono (by omega))
    clear hb4 hc hp hv hP
    go_wp2
    go_ret
    exact ⟨by rw [HC.out, e1, e2, e3, if_neg h6, e5]; rfl, HB.out⟩
  | true =>
  rintro e w4 ⟨rfl, hb4⟩
  have hB4 := box4_on hB3 hb4
  have HC2 : Hid (checkF D = if nullF D then 4 else 0) := by
    show _ = _
    rw [HC.out, e1, e2, e3, if_neg h6, e5]; rfl
  have HPR : Hid (∀ i, i < D.np → 0 ≤ (D.pri i).col ∧ (D.pri i).col < D.nc) := by
    intro i hi
    unfold allPartsF at e5
    exact partsF_in (of_decide_eq_true e5).2 hi
  clear hb4 hB3 hBw3 hP hs3 x0 x1 x2 x3 hv e1 e2 e3 e5 HC h6 h6z
  go_wp2
  go_loopg [3] D.np (fun q i wr => ∃ k : Nat, k ≤ D.np ∧ q = D.np - k ∧ i = .int .i64 k ∧ Below (w.heap.size + 1) (w.alloc (.cells #[.string D.name, .slice ac D.nc cc, .slice ap D.np cp, .slice ai D.ni ci] 28)) wr ∧ Hid (∀ i, i < k → (D.col (D.pri i).col.toNat).null = false))
  case atStart => exact ⟨0, Nat.zero_le _, rfl, rfl, hB4, fun j hj => absurd hj (Nat.not_lt_zero _)⟩
  case round =>
    clear hB4
    obtain ⟨k, hk, rfl, rfl, hB, HA⟩ := hrel
    obtain ⟨x0, x1, x2, x3⟩ := box4 hB
    obtain ⟨hBw, hsz⟩ := box4_below hB
    have HBw : Hid (Below w.heap.size w wr) := hBw
    by_cases hlt : k < D.np
    · have hkz : (k : Int) < (D.np : Int) := by omega
      obtain ⟨q0, q1⟩ := HPR.out k hlt
      obtain ⟨m, hm⟩ := Int.eq_ofNat_of_zero_le q0
      obtain ⟨b2, o2, rfl, hb2, hcs⟩ := (hp.below hBw).cells (by omega)
      obtain ⟨y0, -⟩ := hcs k hlt
      rw [hm] at y0 q1
      obtain ⟨b1, o1, rfl, hb1, hcc⟩ := (hc.below hBw).cells (by omega)
      obtain ⟨-, -, y2⟩ := hcc m (by omega)
      have HNX : Hid ((D.col (D.pri k).col.toNat).null = (D.col m).null) := by show _ = _; rw [hm]; rfl
      have HB : Hid (Below (w.heap.size + 1) (w.alloc (.cells #[.string D.name, .slice (some ⟨b1, o1, none⟩) D.nc cc, .slice (some ⟨b2, o2, none⟩) D.np cp, .slice ai D.ni ci] 28)) wr) := hB
      cases hnn : (D.col m).null with
      | true =>
        have HF : Hid (nullF D = true) := by
          show _ = _
          unfold nullF
          exact decide_eq_true ⟨k, hlt, HNX.out.trans hnn⟩
        rw [hnn] at y2
        clear hcs hcc hc hp hB hBw HA HPR hm q0 hf HNX hnn
        go_wp2_with fail
        go_quiet (fail)
        go_wp2
        go_ret
        exact ⟨by rw [HC2.out, HF.out]; rfl, HBw.out.trans ⟨rfl, rfl, rfl, Nat.le_refl _, fun _ _ => rfl⟩⟩
      | false =>
        have HN : Hid (∀ i, i < k + 1 → (D.col (D.pri i).col.toNat).null = false) := by
          intro i hi
          by_cases hj' : i < k
          · exact HA.out i hj'
          · obtain rfl : i = k := by omega
            exact HNX.out.trans hnn
        rw [hnn] at y2
        clear hcs hcc hc hp hB hBw HA HPR hm q0 hf HNX hnn
        go_wp2_with fail
        go_quiet (fail)
        go_wp2
        go_roundg (D.np - (k + 1))
        case measure => omega
        case rel => exact ⟨k + 1, by omega, rfl, by go_num, HB.out.trans ⟨rfl, rfl, rfl, Nat.le_refl _, fun _ _ => rfl⟩, HN⟩
    · have hkz : ¬ (k : Int) < (D.np : Int) := by omega
      obtain rfl : k = D.np := by omega
      have HF : Hid (nullF D = false) := by
        show _ = _
        unfold nullF
        refine decide_eq_false (fun ⟨i, hi, h⟩ => ?_)
        rw [HA.out i hi] at h
        cases h
      clear hc hp hB hBw HA HPR hf
      go_wp2
      go_ret
      exact ⟨by rw [HC2.out, HF.out]; rfl, HBw.out⟩
end Go.Proofs.YtfjlmkphncigladGreatDoor

/-
  The model's l9Type, l9PartsText come to the plain ones.
-/
namespace Go.Proofs.YtfjlmkphncigladGreatDoor
open Go.RowKit
set_option maxRecDepth 4000

set_option maxHeartbeats 1000000 in
theorem l9Type_any (t : Int) (w : World) (h1 : 1 ≤ t) (h4 : t ≤ 4) :
    Calls Tryz.prog 28 #[.int .i64 t] w fun e w' => e = .returned (.string (typeW t)) ∧ Below w.heap.size w w' := by
  have hcase : t = 1 ∨ t = 2 ∨ t = 3 ∨ t = 4 := by omega
  rcases hcase with rfl | rfl | rfl | rfl
  all_goals
    go_enter Tryz.func28, Tryz.ntmps28
    go_wp2
    go_ret
    exact ⟨rfl, (Below.refl _ _).alloc (Nat.le_refl _) _⟩

set_option maxHeartbeats 2000000 in
theorem l9PartsText_any (v : Value) (D : PDef) (a : Option Addr) (n c : Nat) (f : Nat → PBy) (w : World) (h : DView w v D) (hv : BView w a n c f) (hn : n ≤ 1048576) (hnc : D.nc ≤ 1048576)
    (hin : ∀ i, i < n → 0 ≤ (f i).col ∧ (f i).col < D.nc) (hz : ∀ i, i < D.nc → (D.col i).name.size ≤ 1048576) :
    Calls Tryz.prog 29 #[v, .slice a n c] w fun e w' => e = .returned (.string (partsE D.col n f)) ∧ Below w.heap.size w w' := by
  have HZ : Hid (∀ k, k ≤ n → (partsT D.col f k).size ≤ 1099520016384) := fun k hk => by
    have := partsT_size (B := 1048576) (col := D.col) (f := f) (n := n) (fun i hi => hz _ (by have := hin i hi; omega)) k hk
    have h2 : k * (1048576 + 7) ≤ 1048576 * (1048576 + 7) := Nat.mul_le_mul_right _ (by omega)
    omega
  obtain ⟨ac, cc, ap, cp, ai, ci, rfl, hc, -, -⟩ := h.is
  clear h
  go_enter Tryz.func29, Tryz.ntmps29
  go_wp2
  go_loopg [5, 6] n (fun q s i wr => ∃ k : Nat, k ≤ n ∧ q = n - k ∧ i = .int .i64 k ∧ s = .string (partsT D.col f k) ∧ Below (w.heap.size + 1) (w.alloc (.cells #[.string D.name, .slice ac D.nc cc, .slice ap D.np cp, .slice ai D.ni ci] 28)) wr)
  case atStart => exact ⟨0, Nat.zero_le _, rfl, rfl, rfl, Below.refl _ _⟩
  case round =>
    obtain ⟨k, hk, rfl, rfl, rfl, hB⟩ := hrel
    obtain ⟨x0, x1, x2, x3⟩ := box4 hB
    obtain ⟨hBw, hsz⟩ := box4_below hB
    by_cases hlt : k < n
    · have hkz : (k : Int) < (n : Int) := by omega
      obtain ⟨q0, q1⟩ := hin k hlt
      obtain ⟨m, hm⟩ := Int.eq_ofNat_of_zero_le q0
      obtain ⟨b2, o2, rfl, hb2, hcs⟩ := (hv.below hBw).cells (by omega)
      obtain ⟨y0, y1⟩ := hcs k hlt
      rw [hm] at y0 q1
      obtain ⟨b1, o1, rfl, hb1, hcc⟩ := (hc.below hBw).cells (by omega)
      obtain ⟨z0, -, -⟩ := hcc m (by omega)
      have hzm := hz m (by omega)
      have HN : Hid (partsT D.col f (k + 1) = (let s := (if 0 < k then partsT D.col f k ++ (⟨#[44, 32]⟩ : ByteArray) else partsT D.col f k) ++ (D.col m).name; if (f k).desc then s ++ (⟨#[32, 100, 101, 115, 99]⟩ : ByteArray) else s)) := by
        show _ = _
        rw [partsT, hm]; rfl
      have hjz := HZ.out k hk
      obtain ⟨J, hJ⟩ : ∃ J, Hid (partsT D.col f k = J) := ⟨_, rfl⟩
      obtain ⟨p, hp⟩ : ∃ p, Hid ((D.col m).name = p) := ⟨_, rfl⟩
      obtain ⟨ds, hds⟩ : ∃ ds, Hid ((f k).desc = ds) := ⟨_, rfl⟩
      rw [hJ.out] at HN hjz ⊢
      rw [hp.out] at HN z0 hzm
      rw [hds.out] at HN y1
      have HB : Hid (Below (w.heap.size + 1) (w.alloc (.cells #[.string D.name, .slice (some ⟨b1, o1, none⟩) D.nc cc, .slice ap D.np cp, .slice ai D.ni ci] 28)) wr) := hB
      have e1 : (⟨#[44, 32]⟩ : ByteArray).size = 2 := rfl
      have e2 : (⟨#[32, 100, 101, 115, 99]⟩ : ByteArray).size = 5 := rfl
      clear hcs hcc hc hv hB hBw hm q0 hin hz HZ
      by_cases h0 : 0 < k
      · have h0z : (0 : Int) < (k : Int) := by omega
        have s1 : ¬ (J.size + 2 > 9223372036854775807) := by omega
        have s3 : (J ++ (⟨#[44, 32]⟩ : ByteArray)).size = J.size + 2 := by rw [ByteArray.size_append]; rfl
        have s2 : ¬ (J.size + 2 + p.size > 9223372036854775807) := by omega
        have s4 : ((J ++ (⟨#[44, 32]⟩ : ByteArray)) ++ p).size = J.size + 2 + p.size := by rw [ByteArray.size_append, s3]
        have s5 : ¬ (J.size + 2 + p.size + 5 > 9223372036854775807) := by omega
        cases ds with
        | true =>
          have HN' : Hid (partsT D.col f (k + 1) = ((J ++ (⟨#[44, 32]⟩ : ByteArray)) ++ p) ++ (⟨#[32, 100, 101, 115, 99]⟩ : ByteArray)) := by show _ = _; rw [HN.out, if_pos h0]; rfl
          clear HN
          go_wp2_with fail
          go_quiet (fail)
          go_wp2
          go_roundg (n - (k + 1))
          case measure => omega
          case rel => exact ⟨k + 1, by omega, rfl, by go_num, by rw [HN'.out], HB.out.trans ⟨rfl, rfl, rfl, Nat.le_refl _, fun _ _ => rfl⟩⟩
        | false =>
          have HN' : Hid (partsT D.col f (k + 1) = (J ++ (⟨#[44, 32]⟩ : ByteArray)) ++ p) := by show _ = _; rw [HN.out, if_pos h0]; rfl
          clear HN
          go_wp2_with fail
          go_quiet (fail)
          go_wp2
          go_roundg (n - (k + 1))
          case measure => omega
          case rel => exact ⟨k + 1, by omega, rfl, by go_num, by rw [HN'.out], HB.out.trans ⟨rfl, rfl, rfl, Nat.le_refl _, fun _ _ => rfl⟩⟩
      · have h0z : ¬ (0 : Int) < (k : Int) := by omega
        have s2 : ¬ (J.size + p.size > 9223372036854775807) := by omega
        have s4 : (J ++ p).size = J.size + p.size := by rw [ByteArray.size_append]
        have s5 : ¬ (J.size + p.size + 5 > 9223372036854775807) := by omega
        cases ds with
        | true =>
          have HN' : Hid (partsT D.col f (k + 1) = (J ++ p) ++ (⟨#[32, 100, 101, 115, 99]⟩ : ByteArray)) := by show _ = _; rw [HN.out, if_neg h0]; rfl
          clear HN
          go_wp2_with fail
          go_quiet (fail)
          go_wp2
          go_roundg (n - (k + 1))
          case measure => omega
          case rel => exact ⟨k + 1, by omega, rfl, by go_num, by rw [HN'.out], HB.out.trans ⟨rfl, rfl, rfl, Nat.le_refl _, fun _ _ => rfl⟩⟩
        | false =>
          have HN' : Hid (partsT D.col f (k + 1) = J ++ p) := by show _ = _; rw [HN.out, if_neg h0]; rfl
          clear HN
          go_wp2_with fail
          go_quiet (fail)
          go_wp2
          go_roundg (n - (k + 1))
          case measure => omega
          case rel => exact ⟨k + 1, by omega, rfl, by go_num, by rw [HN'.out], HB.out.trans ⟨rfl, rfl, rfl, Nat.le_refl _, fun _ _ => rfl⟩⟩
    · have hkz : ¬ (k : Int) < (n : Int) := by omega
      obtain rfl : k = n := by omega
      have hjz := HZ.out k hk
      have HE : Hid (partsE D.col k f = partsT D.col f k ++ (⟨#[59, 32]⟩ : ByteArray)) := rfl
      obtain ⟨J, hJ⟩ : ∃ J, Hid (partsT D.col f k = J) := ⟨_, rfl⟩
      rw [hJ.out] at HE hjz ⊢
      have s1 : ¬ (J.size + 2 > 9223372036854775807) := by omega
      have e1 : (⟨#[59, 32]⟩ : ByteArray).size = 2 := rfl
      have HBw : Hid (Below w.heap.size w wr) := hBw
      clear hc hv hB hBw hin hz HZ
      go_wp2
      go_ret
      exact ⟨by rw [HE.out]; rfl, HBw.out⟩
end Go.Proofs.YtfjlmkphncigladGreatDoor

