/-
  Together: SameImpl9, Big
-/
import Derived.Test.YtnpfgamlncfikaaGreatDoorPackF37
import Derived.Test.YtnpfgamlncfikaaGreatDoorPackF25
import Derived.Test.YtnpfgamlncfikaaGreatDoorPackF2
/-
  The program's SameDef comes to the plain one.
-/
namespace Go.Proofs.YtnpfgamlncfikaaGreatDoor
open Go.RowKit
set_option maxRecDepth 4000

def sameColF (n : Nat) (f : Nat → PCol) (m : Nat) (g : Nat → PCol) : Bool := decide (n = m ∧ ∀ i, i < n → (f i).name = (g i).name ∧ (f i).type = (g i).type ∧ (f i).null = (g i).null)
def sameIdx (a b : PIdx) : Bool := decide (a.name = b.name ∧ a.uniq = b.uniq ∧ sameByF a.n a.part b.n b.part = true)
def sameIdxF (n : Nat) (f : Nat → PIdx) (m : Nat) (g : Nat → PIdx) : Bool := decide (n = m ∧ ∀ i, i < n → (f i).name = (g i).name ∧ (f i).uniq = (g i).uniq ∧ sameByF (f i).n (f i).part (g i).n (g i).part = true)


set_option maxHeartbeats 1000000 in
theorem equalBy_any (a1 a2 : Option Addr) (n c1 m c2 : Nat) (f g : Nat → PBy) (w : World) (h1 : BView w a1 n c1 f) (h2 : BView w a2 m c2 g) (hn : n ≤ 1048576) :
    Calls Tryz.prog 36 #[.slice a1 n c1, .slice a2 m c2] w fun e w' => e = .returned (.bool (sameByF n f m g)) ∧ Below w.heap.size w w' := by
  by_cases hnm : n = m
  · subst hnm
    have hq : ((n : Int) != (n : Int)) = false := bne_self_eq_false _
    go_enter Tryz.func36, Tryz.ntmps36
    go_wp2
    go_loopg [13] n (fun q i wr => ∃ k : Nat, k ≤ n ∧ q = n - k ∧ i = .int .i64 k ∧ Below w.heap.size w wr ∧ Hid (∀ i, i < k → (f i).col = (g i).col ∧ (f i).desc = (g i).desc))
    case atStart => exact ⟨0, Nat.zero_le _, rfl, rfl, Below.refl _ _, fun j hj => absurd hj (Nat.not_lt_zero _)⟩
    case round =>
      obtain ⟨k, hk, rfl, rfl, hB, HA⟩ := hrel
      by_cases hlt : k < n
      · have hkz : (k : Int) < (n : Int) := by omega
        obtain ⟨b1, o1, rfl, hb1, hcs⟩ := (h1.below hB).cells (by omega)
        obtain ⟨x0, x1⟩ := hcs k hlt
        obtain ⟨b2, o2, rfl, hb2, hcs2⟩ := (h2.below hB).cells (by omega)
        obtain ⟨y0, y1⟩ := hcs2 k hlt
        have hQ := neBy_run (f k) (g k)
        have HE : Hid (eqBy (f k) (g k) = true ↔ ((f k).col = (g k).col ∧ (f k).desc = (g k).desc)) := by show _ ↔ _; simp [eqBy]
        have HB : Hid (Below w.heap.size w wr) := hB
        obtain ⟨p0, hp0⟩ : ∃ x, Hid ((f k).col = x) := ⟨_, rfl⟩
        obtain ⟨r0, hr0⟩ : ∃ x, Hid ((g k).col = x) := ⟨_, rfl⟩
        obtain ⟨p1, hp1⟩ : ∃ x, Hid ((f k).desc = x) := ⟨_, rfl⟩
        obtain ⟨r1, hr1⟩ : ∃ x, Hid ((g k).desc = x) := ⟨_, rfl⟩
        obtain ⟨o, ho⟩ : ∃ x, Hid (eqBy (f k) (g k) = x) := ⟨_, rfl⟩
        simp only [hp0.out, hr0.out, hp1.out, hr1.out, ho.out] at hQ
        rw [hp0.out] at x0
        rw [hr0.out] at y0
        rw [hp1.out] at x1
        rw [hr1.out] at y1
        rw [ho.out] at HE
        clear hcs hcs2 h1 h2 hB hq
        cases o with
        | true =>
          have HN : Hid (∀ i, i < k + 1 → (f i).col = (g i).col ∧ (f i).desc = (g i).desc) := by
            intro i hi
            by_cases e : i < k
            · exact HA.out i e
            · obtain rfl : i = k := by omega
              exact HE.out.1 rfl
          clear HE HA
          go_wp2_with fail
          go_quiet (fail)
          go_wp2
          go_roundg (n - (k + 1))
          case measure => omega
          case rel => exact ⟨k + 1, by omega, rfl, by go_num, HB.out.trans ⟨rfl, rfl, rfl, Nat.le_refl _, fun _ _ => rfl⟩, HN⟩
        | false =>
          have HF : Hid (sameByF n f n g = false) := by
            show _ = _
            unfold sameByF
            exact decide_eq_false (fun h => by have := HE.out.2 (h.2 k hlt); cases this)
          clear HE HA
          go_wp2_with fail
          go_quiet (fail)
          go_wp2
          go_ret
          exact ⟨by rw [HF.out]; rfl, HB.out.trans ⟨rfl, rfl, rfl, Nat.le_refl _, fun _ _ => rfl⟩⟩
      · have hkz : ¬ (k : Int) < (n : Int) := by omega
        obtain rfl : k = n := by omega
        have HF : Hid (sameByF k f k g = true) := decide_eq_true ⟨rfl, HA.out⟩
        clear h1 h2
        go_wp2
        go_ret
        exact ⟨by rw [HF.out]; rfl, hB⟩
  · have hq : ((n : Int) != (m : Int)) = true := by simp; omega
    have HF : Hid (sameByF n f m g = false) := by
      show _ = _
      unfold sameByF
      exact decide_eq_false (fun h => hnm h.1)
    clear h1 h2 hnm
    go_enter Tryz.func36, Tryz.ntmps36
    go_wp2
    go_ret
    exact ⟨by rw [HF.out]; rfl, Below.refl _ _⟩

set_option maxHeartbeats 1000000 in
theorem equalCol_any (a1 a2 : Option Addr) (n c1 m c2 : Nat) (f g : Nat → PCol) (w : World) (h1 : CView w a1 n c1 f) (h2 : CView w a2 m c2 g) (hn : n ≤ 1048576) :
    Calls Tryz.prog 35 #[.slice a1 n c1, .slice a2 m c2] w fun e w' => e = .returned (.bool (sameColF n f m g)) ∧ Below w.heap.size w w' := by
  by_cases hnm : n = m
  · subst hnm
    have hq : ((n : Int) != (n : Int)) = false := bne_self_eq_false _
    go_enter Tryz.func35, Tryz.ntmps35
    go_wp2
    go_loopg [13] n (fun q i wr => ∃ k : Nat, k ≤ n ∧ q = n - k ∧ i = .int .i64 k ∧ Below w.heap.size w wr ∧ Hid (∀ i, i < k → (f i).name = (g i).name ∧ (f i).type = (g i).type ∧ (f i).null = (g i).null))
    case atStart => exact ⟨0, Nat.zero_le _, rfl, rfl, Below.refl _ _, fun j hj => absurd hj (Nat.not_lt_zero _)⟩
    case round =>
      obtain ⟨k, hk, rfl, rfl, hB, HA⟩ := hrel
      by_cases hlt : k < n
      · have hkz : (k : Int) < (n : Int) := by omega
        obtain ⟨b1, o1, rfl, hb1, hcs⟩ := (h1.below hB).cells (by omega)
        obtain ⟨x0, x1, x2⟩ := hcs k hlt
        obtain ⟨b2, o2, rfl, hb2, hcs2⟩ := (h2.below hB).cells (by omega)
        obtain ⟨y0, y1, y2⟩ := hcs2 k hlt
        have hQ := neCol_run (f k) (g k)
        have HE : Hid (eqCol (f k) (g k) = true ↔ ((f k).name = (g k).name ∧ (f k).type = (g k).type ∧ (f k).null = (g k).null)) := by show _ ↔ _; simp [eqCol, and_assoc]
        have HB : Hid (Below w.heap.size w wr) := hB
        obtain ⟨p0, hp0⟩ : ∃ x, Hid ((f k).name = x) := ⟨_, rfl⟩
        obtain ⟨r0, hr0⟩ : ∃ x, Hid ((g k).name = x) := ⟨_, rfl⟩
        obtain ⟨p1, hp1⟩ : ∃ x, Hid ((f k).type = x) := ⟨_, rfl⟩
        obtain ⟨r1, hr1⟩ : ∃ x, Hid ((g k).type = x) := ⟨_, rfl⟩
        obtain ⟨p2, hp2⟩ : ∃ x, Hid ((f k).null = x) := ⟨_, rfl⟩
        obtain ⟨r2, hr2⟩ : ∃ x, Hid ((g k).null = x) := ⟨_, rfl⟩
        obtain ⟨o, ho⟩ : ∃ x, Hid (eqCol (f k) (g k) = x) := ⟨_, rfl⟩
        simp only [hp0.out, hr0.out, hp1.out, hr1.out, hp2.out, hr2.out, ho.out] at hQ
        rw [hp0.out] at x0
        rw [hr0.out] at y0
        rw [hp1.out] at x1
        rw [hr1.out] at y1
        rw [hp2.out] at x2
        rw [hr2.out] at y2
        rw [ho.out] at HE
        clear hcs hcs2 h1 h2 hB hq
        cases o with
        | true =>
          have HN : Hid (∀ i, i < k + 1 → (f i).name = (g i).name ∧ (f i).type = (g i).type ∧ (f i).null = (g i).null) := by
            intro i hi
            by_cases e : i < k
            · exact HA.out i e
            · obtain rfl : i = k := by omega
              exact HE.out.1 rfl
          clear HE HA
          go_wp2_with fail
          go_quiet (fail)
          go_wp2
          go_roundg (n - (k + 1))
          case measure => omega
          case rel => exact ⟨k + 1, by omega, rfl, by go_num, HB.out.trans ⟨rfl, rfl, rfl, Nat.le_refl _, fun _ _ => rfl⟩, HN⟩
        | false =>
          have HF : Hid (sameColF n f n g = false) := by
            show _ = _
            unfold sameColF
            exact decide_eq_false (fun h => by have := HE.out.2 (h.2 k hlt); cases this)
          clear HE HA
          go_wp2_with fail
          go_quiet (fail)
          go_wp2
          go_ret
          exact ⟨by rw [HF.out]; rfl, HB.out.trans ⟨rfl, rfl, rfl, Nat.le_refl _, fun _ _ => rfl⟩⟩
      · have hkz : ¬ (k : Int) < (n : Int) := by omega
        obtain rfl : k = n := by omega
        have HF : Hid (sameColF k f k g = true) := decide_eq_true ⟨rfl, HA.out⟩
        clear h1 h2
        go_wp2
        go_ret
        exact ⟨by rw [HF.out]; rfl, hB⟩
  · have hq : ((n : Int) != (m : Int)) = true := by simp; omega
    have HF : Hid (sameColF n f m g = false) := by
      show _ = _
      unfold sameColF
      exact decide_eq_false (fun h => hnm h.1)
    clear h1 h2 hnm
    go_enter Tryz.func35, Tryz.ntmps35
    go_wp2
    go_ret
    exact ⟨by rw [HF.out]; rfl, Below.refl _ _⟩

set_option maxHeartbeats 2000000 in
theorem sameIndex_any (a b : PIdx) (a1 a2 : Option Addr) (c1 c2 : Nat) (w : World) (h1 : BView w a1 a.n c1 a.part) (h2 : BView w a2 b.n c2 b.part) (hn : a.n ≤ 1048576) :
    Calls Tryz.prog 38 #[.agg #[.string a.name, .bool a.uniq, .slice a1 a.n c1], .agg #[.string b.name, .bool b.uniq, .slice a2 b.n c2]] w fun e w' => e = .returned (.bool (sameIdx a b)) ∧ Below w.heap.size w w' := by
  have hA : Below w.heap.size w ((w.alloc (.cells #[.string a.name, .bool a.uniq, .slice a1 a.n c1] 73)).alloc (.cells #[.string b.name, .bool b.uniq, .slice a2 b.n c2] 73)) := ((Below.refl _ _).alloc (Nat.le_refl _) _).alloc (by simp) _
  have hS := equalBy_any a1 a2 a.n c1 b.n c2 a.part b.part _ (h1.below hA) (h2.below hA) hn
  have HA : Hid (Below w.heap.size w ((w.alloc (.cells #[.string a.name, .bool a.uniq, .slice a1 a.n c1] 73)).alloc (.cells #[.string b.name, .bool b.uniq, .slice a2 b.n c2] 73))) := hA
  have HO : Hid (sameIdx a b = true ↔ (a.name = b.name ∧ a.uniq = b.uniq ∧ sameByF a.n a.part b.n b.part = true)) := by show _ ↔ _; unfold sameIdx; exact decide_eq_true_iff
  have HNO : Hid (¬ (sameIdx a b = true) → sameIdx a b = false) := fun h => by cases e : sameIdx a b with | true => exact absurd e h | false => rfl
  clear h1 h2 hA hn
  obtain ⟨z, hz⟩ : ∃ z, Hid (sameIdx a b = z) := ⟨_, rfl⟩
  rw [hz.out] at HO HNO ⊢
  clear hz
  generalize sameByF a.n a.part b.n b.part = q at *
  obtain ⟨s0, s1, s2, s3⟩ := a
  obtain ⟨t0, t1, t2, t3⟩ := b
  by_cases p1 : s0 = t0
  · have m1 := bytes_eq p1
    by_cases p2 : s1 = t1
    · have p2' := p2
      subst p2'
      have m2 : (s1 == s1) = true := by cases s1 <;> rfl
      have HZ : Hid (z = q) := by
        cases q with
        | true => exact HO.out.2 ⟨p1, p2, rfl⟩
        | false => exact HNO.out (fun h => by have := (HO.out.1 h).2.2; cases this)
      clear HO HNO p1 p2
      go_enter Tryz.func38, Tryz.ntmps38
      go_wp2_with fail
      refine hS.mono ?_
      rintro e w1 ⟨rfl, hb1⟩
      have HB : Hid (Below w.heap.size w w1) := HA.out.trans (hb1.mono HA.out.size)
      clear hS hb1 HA
      go_wp2
      go_ret
      exact ⟨by rw [HZ.out]; rfl, HB.out⟩
    · have m2 : (s1 == t1) = false := by cases s1 <;> cases t1 <;> first | rfl | exact absurd rfl p2
      have HZ : Hid (z = false) := HNO.out (fun h => p2 (HO.out.1 h).2.1)
      clear HO HNO p1 p2 hS
      go_enter Tryz.func38, Tryz.ntmps38
      go_wp2
      go_ret
      exact ⟨by rw [HZ.out]; rfl, HA.out⟩
  · have m1 := bytes_ne p1
    have HZ : Hid (z = false) := HNO.out (fun h => p1 (HO.out.1 h).1)
    clear HO HNO p1 hS
    go_enter Tryz.func38, Tryz.ntmps38
    go_wp2
    go_ret
    exact ⟨by rw [HZ.out]; rfl, HA.out⟩

set_option maxHeartbeats 2000000 in
theorem equalIdx_any (a1 a2 : Option Addr) (n c1 m c2 : Nat) (f g : Nat → PIdx) (w : World) (h1 : IView w a1 n c1 f) (h2 : IView w a2 m c2 g) (hn : n ≤ 1048576) (HN : Hid (∀ i, i < n → (f i).n ≤ 1048576)) :
    Calls Tryz.prog 37 #[.slice a1 n c1, .slice a2 m c2, .func (.func 38) #[] #[]] w fun e w' => e = .returned (.bool (sameIdxF n f m g)) ∧ Below w.heap.size w w' := by
  by_cases hnm : n = m
  · subst hnm
    have hq : ((n : Int) != (n : Int)) = false := bne_self_eq_false _
    go_enter Tryz.func37, Tryz.ntmps37
    go_wp2
    go_loopg [17] n (fun q i wr => ∃ k : Nat, k ≤ n ∧ q = n - k ∧ i = .int .i64 k ∧ Below w.heap.size w wr ∧ Hid (∀ i, i < k → (f i).name = (g i).name ∧ (f i).uniq = (g i).uniq ∧ sameByF (f i).n (f i).part (g i).n (g i).part = true))
    case atStart => exact ⟨0, Nat.zero_le _, rfl, rfl, Below.refl _ _, fun j hj => absurd hj (Nat.not_lt_zero _)⟩
    case round =>
      obtain ⟨k, hk, rfl, rfl, hB, HA⟩ := hrel
      by_cases hlt : k < n
      · have hkz : (k : Int) < (n : Int) := by omega
        obtain ⟨b1, o1, rfl, hb1, hcs⟩ := (h1.below hB).cells (by omega)
        obtain ⟨b2, o2, rfl, hb2, hcs2⟩ := (h2.below hB).cells (by omega)
        obtain ⟨x0, x1, a3, c3, x2, hv3⟩ := hcs k hlt
        obtain ⟨y0, y1, a4, c4, y2, hv4⟩ := hcs2 k hlt
        have hV : ∀ W, Below wr.heap.size wr W → Calls Tryz.prog 38 #[.agg #[.string (f k).name, .bool (f k).uniq, .slice a3 (f k).n c3], .agg #[.string (g k).name, .bool (g k).uniq, .slice a4 (g k).n c4]] W fun e w' => e = .returned (.bool (sameIdx (f k) (g k))) ∧ Below W.heap.size W w' := fun W hb => sameIndex_any (f k) (g k) a3 a4 c3 c4 W (hv3.below hb) (hv4.below hb) (HN.out k hlt)
        have HE : Hid (sameIdx (f k) (g k) = true ↔ ((f k).name = (g k).name ∧ (f k).uniq = (g k).uniq ∧ sameByF (f k).n (f k).part (g k).n (g k).part = true)) := by show _ ↔ _; unfold sameIdx; exact decide_eq_true_iff
        have HB : Hid (Below w.heap.size w wr) := hB
        have HS := hB.size
        obtain ⟨o, ho⟩ : ∃ x, Hid (sameIdx (f k) (g k) = x) := ⟨_, rfl⟩
        simp only [ho.out] at hV
        rw [ho.out] at HE
        have HL : Hid (o = true → ∀ i, i < k + 1 → (f i).name = (g i).name ∧ (f i).uniq = (g i).uniq ∧ sameByF (f i).n (f i).part (g i).n (g i).part = true) := by
          intro h i hi
          by_cases e : i < k
          · exact HA.out i e
          · obtain rfl : i = k := by omega
            exact HE.out.1 h
        have HL2 : Hid (o = false → sameIdxF n f n g = false) := by
          intro h
          unfold sameIdxF
          exact decide_eq_false (fun h' => by have := HE.out.2 (h'.2 k hlt); rw [h] at this; cases this)
        clear HE HA ho
        generalize (f k).name = p0 at *
        generalize (f k).uniq = p1 at *
        generalize (f k).n = p2 at *
        generalize (g k).name = r0 at *
        generalize (g k).uniq = r1 at *
        generalize (g k).n = r2 at *
        clear hcs hcs2 h1 h2 hB hq hv3 hv4
        have hA1 : Below wr.heap.size wr ((wr.alloc (.cells #[.string p0, .bool p1, .slice a3 p2 c3] 73)).alloc (.cells #[.string r0, .bool r1, .slice a4 r2 c4] 73)) := ((Below.refl _ _).alloc (Nat.le_refl _) _).alloc (by simp) _
        have HA1 : Hid (Below wr.heap.size wr ((wr.alloc (.cells #[.string p0, .bool p1, .slice a3 p2 c3] 73)).alloc (.cells #[.string r0, .bool r1, .slice a4 r2 c4] 73))) := hA1
        have hS := hV _ hA1
        clear hV hA1
        go_wp2_with fail
        refine hS.mono ?_
        rintro e w2 ⟨rfl, hB2⟩
        have HB3 : Hid (Below w.heap.size w w2) := HB.out.trans ((HA1.out.trans (hB2.mono HA1.out.size)).mono HS)
        clear hB2 hS x0 x1 x2 y0 y1 y2 hb1 hb2 HA1
        cases o
        · have hbad2 : Hid (sameIdxF n f n g = false) := HL2.out rfl
          clear HL HL2
          go_wp2
          go_ret
          exact ⟨by rw [hbad2.out]; rfl, HB3.out⟩
        · have HN2 : Hid (∀ i, i < k + 1 → (f i).name = (g i).name ∧ (f i).uniq = (g i).uniq ∧ sameByF (f i).n (f i).part (g i).n (g i).part = true) := HL.out rfl
          clear HL HL2
          go_wp2
          go_roundg (n - (k + 1))
          case measure => omega
          case rel => exact ⟨k + 1, by omega, rfl, by go_num, HB3.out, HN2⟩
      · have hkz : ¬ (k : Int) < (n : Int) := by omega
        obtain rfl : k = n := by omega
        have HF : Hid (sameIdxF k f k g = true) := decide_eq_true ⟨rfl, HA.out⟩
        clear h1 h2
        go_wp2
        go_ret
        exact ⟨by rw [HF.out]; rfl, hB⟩
  · have hq : ((n : Int) != (m : Int)) = true := by simp; omega
    have HF : Hid (sameIdxF n f m g = false) := by
      show _ = _
      unfold sameIdxF
      exact decide_eq_false (fun h => hnm h.1)
    clear h1 h2 hnm
    go_enter Tryz.func37, Tryz.ntmps37
    go_wp2
    go_ret
    exact ⟨by rw [HF.out]; rfl, Below.refl _ _⟩

theorem sameF_split (D E : PDef) : sameF D E = (decide (D.name = E.name) && sameColF D.nc D.col E.nc E.col && sameByF D.np D.pri E.np E.pri && sameIdxF D.ni D.idx E.ni E.idx) := by
  cases h : (decide (D.name = E.name) && sameColF D.nc D.col E.nc E.col && sameByF D.np D.pri E.np E.pri && sameIdxF D.ni D.idx E.ni E.idx) with
  | true =>
    simp only [Bool.and_eq_true] at h
    obtain ⟨⟨⟨h1, h2⟩, h3⟩, h4⟩ := h
    unfold sameColF at h2
    unfold sameIdxF at h4
    have h1 := of_decide_eq_true h1
    have h2 := of_decide_eq_true h2
    have h4 := of_decide_eq_true h4
    unfold sameF
    exact decide_eq_true ⟨h1, h2.1, h4.1, h3, h2.2, h4.2⟩
  | false =>
    cases h0 : sameF D E with
    | false => rfl
    | true =>
      unfold sameF at h0
      obtain ⟨h1, h2, h3, h4, h5, h6⟩ := of_decide_eq_true h0
      have e2 : sameColF D.nc D.col E.nc E.col = true := decide_eq_true ⟨h2, h5⟩
      have e4 : sameIdxF D.ni D.idx E.ni E.idx = true := decide_eq_true ⟨h3, h6⟩
      rw [decide_eq_true h1, e2, h4, e4] at h
      cases h

set_option maxHeartbeats 4000000 in
theorem implSame_any (u v : Value) (D E : PDef) (w : World) (h1 : DView w u D) (h2 : DView w v E) (hf : DFine D) :
    Calls Tryz.prog 15 #[u, v] w fun e w' => e = .returned (.bool (sameF D E)) ∧ Below w.heap.size w w' := by
  have hnc := hf.nc
  have hni := hf.ni
  have hnp := hf.np
  have HIX : Hid (∀ i, i < D.ni → (D.idx i).n ≤ 1048576) := fun i hi => (hf.idx i hi).2
  clear hf
  obtain ⟨ac, cc, ap, cp, ai, ci, rfl, hc1, hp1, hi1⟩ := h1.is
  obtain ⟨bc, dc, bp, dp, bi, di, rfl, hc2, hp2, hi2⟩ := h2.is
  clear h1 h2
  have hB0 : Below (w.heap.size + 1 + 1) ((w.alloc (.cells #[.string D.name, .slice ac D.nc cc, .slice ap D.np cp, .slice ai D.ni ci] 35)).alloc (.cells #[.string E.name, .slice bc E.nc dc, .slice bp E.np dp, .slice bi E.ni di] 35)) ((w.alloc (.cells #[.string D.name, .slice ac D.nc cc, .slice ap D.np cp, .slice ai D.ni ci] 35)).alloc (.cells #[.string E.name, .slice bc E.nc dc, .slice bp E.np dp, .slice bi E.ni di] 35)) := Below.refl _ _
  obtain ⟨hBw0, -⟩ := box44_below hB0
  have hCC := fun W (hb : Below w.heap.size w W) => equalCol_any ac bc D.nc cc E.nc dc D.col E.col W (hc1.below hb) (hc2.below hb) hnc
  have hCB := fun W (hb : Below w.heap.size w W) => equalBy_any ap bp D.np cp E.np dp D.pri E.pri W (hp1.below hb) (hp2.below hb) hnp
  have hCI := fun W (hb : Below w.heap.size w W) => equalIdx_any ai bi D.ni ci E.ni di D.idx E.idx W (hi1.below hb) (hi2.below hb) hni HIX
  have HO := sameF_split D E
  rw [HO]
  clear HO hc1 hp1 hi1 hc2 hp2 hi2 hnc hni hnp HIX
  generalize sameColF D.nc D.col E.nc E.col = q2 at *
  generalize sameByF D.np D.pri E.np E.pri = q3 at *
  generalize sameIdxF D.ni D.idx E.ni E.idx = q4 at *
  by_cases q1 : D.name = E.name
  · have r1 := bytes_eq q1
    have e1 : decide (D.name = E.name) = true := decide_eq_true q1
    rw [e1, Bool.true_and]
    clear e1 q1
    go_enter Tryz.func15, Tryz.ntmps15
    go_wp2_with fail
    refine (hCC _ hBw0).mono ?_
    rintro e w1 ⟨rfl, hb1⟩
    have hB1 := box44_on hB0 hb1
    obtain ⟨hBw1, hs1⟩ := box44_below hB1
    obtain ⟨⟨x0, x1, x2, x3⟩, y0, y1, y2, y3⟩ := box44 hB1
    clear hCC hb1 hB0 hBw0
    cases q2
    · have HB : Hid (Below w.heap.size w w1) := hBw1
      clear hCB hCI hB1 hBw1
      go_wp2
      go_ret
      exact ⟨by simp, HB.out⟩
    have hS := hCB _ hBw1
    clear hCB
    go_wp2_with fail
    refine hS.mono ?_
    rintro e w2 ⟨rfl, hb2⟩
    have hB2 := box44_on hB1 hb2
    obtain ⟨hBw2, hs2⟩ := box44_below hB2
    clear x0 x1 x2 x3 y0 y1 y2 y3
    obtain ⟨⟨x0, x1, x2, x3⟩, y0, y1, y2, y3⟩ := box44 hB2
    clear hS hb2 hB1 hBw1 hs1
    cases q3
    · have HB : Hid (Below w.heap.size w w2) := hBw2
      clear hCI hB2 hBw2
      go_wp2
      go_ret
      exact ⟨by simp, HB.out⟩
    have hS := hCI _ hBw2
    clear hCI
    go_wp2_with fail
    refine hS.mono ?_
    rintro e w3 ⟨rfl, hb3⟩
    have HB : Hid (Below w.heap.size w w3) := (box44_below (box44_on hB2 hb3)).1
    clear hS hb3 hB2 hBw2 hs2 x0 x1 x2 x3 y0 y1 y2 y3
    go_wp2
    go_ret
    exact ⟨by simp, HB.out⟩
  · have r1 := bytes_ne q1
    have e1 : decide (D.name = E.name) = false := decide_eq_false q1
    rw [e1]
    clear hCC hCB hCI q1 e1
    go_enter Tryz.func15, Tryz.ntmps15
    go_wp2
    go_ret
    exact ⟨by simp, hBw0⟩
end Go.Proofs.YtnpfgamlncfikaaGreatDoor

/-
  Whether a code is too long.
-/
namespace Go.Proofs.YtnpfgamlncfikaaGreatDoor
open Go.RowKit
set_option maxRecDepth 4000

theorem big_any (ao : Option Addr) (n cap : Nat) (w : World) (_hn : n ≤ 9223372036854775807) :
    Calls Tryz.prog 8 #[.slice ao n cap] w fun e w' => e = .returned (.bool (decide ((1048576 : Int) < (n : Int)))) ∧ w = w' := by
  go_enter Tryz.func8, Tryz.ntmps8
  go_wp2
  go_ret
  exact ⟨rfl, rfl⟩

end Go.Proofs.YtnpfgamlncfikaaGreatDoor

