/-
  Together: SameImpl9, DefIn
-/
import Derived.Test.YtfjlmkphnciglatPack2
import Derived.Test.YtfjlmkphnciglatPack1
import Derived.Deep.Strs
import Derived.ChangeSame
import Derived.Lib.SmallJoins
/-
  The program's SameDef comes to the plain one.
-/
namespace Go.Proofs.Ytfjlmkphnciglat
open Go.RowKit
set_option maxRecDepth 4000

def sameColF (n : Nat) (f : Nat → PCol) (m : Nat) (g : Nat → PCol) : Bool := decide (n = m ∧ ∀ i, i < n → (f i).name = (g i).name ∧ (f i).type = (g i).type ∧ (f i).null = (g i).null)
def sameIdx (a b : PIdx) : Bool := decide (a.name = b.name ∧ a.uniq = b.uniq ∧ sameByF a.n a.part b.n b.part = true)
def sameIdxF (n : Nat) (f : Nat → PIdx) (m : Nat) (g : Nat → PIdx) : Bool := decide (n = m ∧ ∀ i, i < n → (f i).name = (g i).name ∧ (f i).uniq = (g i).uniq ∧ sameByF (f i).n (f i).part (g i).n (g i).part = true)


set_option maxHeartbeats 1000000 in
theorem equalBy_any (a1 a2 : Option Addr) (n c1 m c2 : Nat) (f g : Nat → PBy) (w : World) (h1 : BView w a1 n c1 f) (h2 : BView w a2 m c2 g) (hn : n ≤ 1048576) :
    Calls Try.prog 17 #[.slice a1 n c1, .slice a2 m c2] w fun e w' => e = .returned (.bool (sameByF n f m g)) ∧ Below w.heap.size w w' := by
  by_cases hnm : n = m
  · subst hnm
    have hq : ((n : Int) != (n : Int)) = false := bne_self_eq_false _
    go_enter Try.func17, Try.ntmps17
    go_wp2
    go_loopg [13] n (fun q i wr => ∃ k : Nat, k ≤ n ∧ q = n - k ∧ i = .int .i64 k ∧ Below w.heap.size w wr ∧ Hid (∀ i, i < k → (f i).col = (g i).col ∧ (f i).desc = (g i).desc))
    case atStart => exact ⟨0, Nat.zero_le _, rfl, rfl, Below.refl _ _, fun j hj => absurd hj (Nat.not_lt_zero _)⟩
    case round =>
      obtain ⟨k, hk, rfl, rfl, hB, HA⟩ := hrel
      by_cases hlt : k < n
      · have hkz : (k : Int) < (n : Int) := by omega
        obtain ⟨b1, o1, rfl, hb1, hcs⟩ := (h1.below hB).cells (by omega)
        obtain ⟨x0, x1⟩ := hcs k hlt
        obtain ⟨b2, o2, rfl, hb2, hcs2⟩ := (h2.below hB).cells (by omega)
        obtain ⟨y0, y1⟩ := hcs2 k hlt
        have hQ := neBy_run (f k) (g k)
        have HE : Hid (eqBy (f k) (g k) = true ↔ ((f k).col = (g k).col ∧ (f k).desc = (g k).desc)) := by show _ ↔ _; simp [eqBy]
        have HB : Hid (Below w.heap.size w wr) := hB
        obtain ⟨p0, hp0⟩ : ∃ x, Hid ((f k).col = x) := ⟨_, rfl⟩
        obtain ⟨r0, hr0⟩ : ∃ x, Hid ((g k).col = x) := ⟨_, rfl⟩
        obtain ⟨p1, hp1⟩ : ∃ x, Hid ((f k).desc = x) := ⟨_, rfl⟩
        obtain ⟨r1, hr1⟩ : ∃ x, Hid ((g k).desc = x) := ⟨_, rfl⟩
        obtain ⟨o, ho⟩ : ∃ x, Hid (eqBy (f k) (g k) = x) := ⟨_, rfl⟩
        simp only [hp0.out, hr0.out, hp1.out, hr1.out, ho.out] at hQ
        rw [hp0.out] at x0
        rw [hr0.out] at y0
        rw [hp1.out] at x1
        rw [hr1.out] at y1
        rw [ho.out] at HE
        clear hcs hcs2 h1 h2 hB hq
        cases o with
        | true =>
          have HN : Hid (∀ i, i < k + 1 → (f i).col = (g i).col ∧ (f i).desc = (g i).desc) := by
            intro i hi
            by_cases e : i < k
            · exact HA.out i e
            · obtain rfl : i = k := by omega
              exact HE.out.1 rfl
          clear HE HA
          go_wp2_with fail
          go_quiet (fail)
          go_wp2
          go_roundg (n - (k + 1))
          case measure => omega
          case rel => exact ⟨k + 1, by omega, rfl, by go_num, HB.out.trans ⟨rfl, rfl, rfl, Nat.le_refl _, fun _ _ => rfl⟩, HN⟩
        | false =>
          have HF : Hid (sameByF n f n g = false) := by
            show _ = _
            unfold sameByF
            exact decide_eq_false (fun h => by have := HE.out.2 (h.2 k hlt); cases this)
          clear HE HA
          go_wp2_with fail
          go_quiet (fail)
          go_wp2
          go_ret
          exact ⟨by rw [HF.out]; rfl, HB.out.trans ⟨rfl, rfl, rfl, Nat.le_refl _, fun _ _ => rfl⟩⟩
      · have hkz : ¬ (k : Int) < (n : Int) := by omega
        obtain rfl : k = n := by omega
        have HF : Hid (sameByF k f k g = true) := decide_eq_true ⟨rfl, HA.out⟩
        clear h1 h2
        go_wp2
        go_ret
        exact ⟨by rw [HF.out]; rfl, hB⟩
  · have hq : ((n : Int) != (m : Int)) = true := by simp; omega
    have HF : Hid (sameByF n f m g = false) := by
      show _ = _
      unfold sameByF
      exact decide_eq_false (fun h => hnm h.1)
    clear h1 h2 hnm
    go_enter Try.func17, Try.ntmps17
    go_wp2
    go_ret
    exact ⟨by rw [HF.out]; rfl, Below.refl _ _⟩

set_option maxHeartbeats 1000000 in
theorem equalCol_any (a1 a2 : Option Addr) (n c1 m c2 : Nat) (f g : Nat → PCol) (w : World) (h1 : CView w a1 n c1 f) (h2 : CView w a2 m c2 g) (hn : n ≤ 1048576) :
    Calls Try.prog 16 #[.slice a1 n c1, .slice a2 m c2] w fun e w' => e = .returned (.bool (sameColF n f m g)) ∧ Below w.heap.size w w' := by
  by_cases hnm : n = m
  · subst hnm
    have hq : ((n : Int) != (n : Int)) = false := bne_self_eq_false _
    go_enter Try.func16, Try.ntmps16
    go_wp2
    go_loopg [13] n (fun q i wr => ∃ k : Nat, k ≤ n ∧ q = n - k ∧ i = .int .i64 k ∧ Below w.heap.size w wr ∧ Hid (∀ i, i < k → (f i).name = (g i).name ∧ (f i).type = (g i).type ∧ (f i).null = (g i).null))
    case atStart => exact ⟨0, Nat.zero_le _, rfl, rfl, Below.refl _ _, fun j hj => absurd hj (Nat.not_lt_zero _)⟩
    case round =>
      obtain ⟨k, hk, rfl, rfl, hB, HA⟩ := hrel
      by_cases hlt : k < n
      · have hkz : (k : Int) < (n : Int) := by omega
        obtain ⟨b1, o1, rfl, hb1, hcs⟩ := (h1.below hB).cells (by omega)
        obtain ⟨x0, x1, x2⟩ := hcs k hlt
        obtain ⟨b2, o2, rfl, hb2, hcs2⟩ := (h2.below hB).cells (by omega)
        obtain ⟨y0, y1, y2⟩ := hcs2 k hlt
        have hQ := neCol_run (f k) (g k)
        have HE : Hid (eqCol (f k) (g k) = true ↔ ((f k).name = (g k).name ∧ (f k).type = (g k).type ∧ (f k).null = (g k).null)) := by show _ ↔ _; simp [eqCol, and_assoc]
        have HB : Hid (Below w.heap.size w wr) := hB
        obtain ⟨p0, hp0⟩ : ∃ x, Hid ((f k).name = x) := ⟨_, rfl⟩
        obtain ⟨r0, hr0⟩ : ∃ x, Hid ((g k).name = x) := ⟨_, rfl⟩
        obtain ⟨p1, hp1⟩ : ∃ x, Hid ((f k).type = x) := ⟨_, rfl⟩
        obtain ⟨r1, hr1⟩ : ∃ x, Hid ((g k).type = x) := ⟨_, rfl⟩
        obtain ⟨p2, hp2⟩ : ∃ x, Hid ((f k).null = x) := ⟨_, rfl⟩
        obtain ⟨r2, hr2⟩ : ∃ x, Hid ((g k).null = x) := ⟨_, rfl⟩
        obtain ⟨o, ho⟩ : ∃ x, Hid (eqCol (f k) (g k) = x) := ⟨_, rfl⟩
        simp only [hp0.out, hr0.out, hp1.out, hr1.out, hp2.out, hr2.out, ho.out] at hQ
        rw [hp0.out] at x0
        rw [hr0.out] at y0
        rw [hp1.out] at x1
        rw [hr1.out] at y1
        rw [hp2.out] at x2
        rw [hr2.out] at y2
        rw [ho.out] at HE
        clear hcs hcs2 h1 h2 hB hq
        cases o with
        | true =>
          have HN : Hid (∀ i, i < k + 1 → (f i).name = (g i).name ∧ (f i).type = (g i).type ∧ (f i).null = (g i).null) := by
            intro i hi
            by_cases e : i < k
            · exact HA.out i e
            · obtain rfl : i = k := by omega
              exact HE.out.1 rfl
          clear HE HA
          go_wp2_with fail
          go_quiet (fail)
          go_wp2
          go_roundg (n - (k + 1))
          case measure => omega
          case rel => exact ⟨k + 1, by omega, rfl, by go_num, HB.out.trans ⟨rfl, rfl, rfl, Nat.le_refl _, fun _ _ => rfl⟩, HN⟩
        | false =>
          have HF : Hid (sameColF n f n g = false) := by
            show _ = _
            unfold sameColF
            exact decide_eq_false (fun h => by have := HE.out.2 (h.2 k hlt); cases this)
          clear HE HA
          go_wp2_with fail
          go_quiet (fail)
          go_wp2
          go_ret
          exact ⟨by rw [HF.out]; rfl, HB.out.trans ⟨rfl, rfl, rfl, Nat.le_refl _, fun _ _ => rfl⟩⟩
      · have hkz : ¬ (k : Int) < (n : Int) := by omega
        obtain rfl : k = n := by omega
        have HF : Hid (sameColF k f k g = true) := decide_eq_true ⟨rfl, HA.out⟩
        clear h1 h2
        go_wp2
        go_ret
        exact ⟨by rw [HF.out]; rfl, hB⟩
  · have hq : ((n : Int) != (m : Int)) = true := by simp; omega
    have HF : Hid (sameColF n f m g = false) := by
      show _ = _
      unfold sameColF
      exact decide_eq_false (fun h => hnm h.1)
    clear h1 h2 hnm
    go_enter Try.func16, Try.ntmps16
    go_wp2
    go_ret
    exact ⟨by rw [HF.out]; rfl, Below.refl _ _⟩

set_option maxHeartbeats 2000000 in
theorem sameIndex_any (a b : PIdx) (a1 a2 : Option Addr) (c1 c2 : Nat) (w : World) (h1 : BView w a1 a.n c1 a.part) (h2 : BView w a2 b.n c2 b.part) (hn : a.n ≤ 1048576) :
    Calls Try.prog 19 #[.agg #[.string a.name, .bool a.uniq, .slice a1 a.n c1], .agg #[.string b.name, .bool b.uniq, .slice a2 b.n c2]] w fun e w' => e = .returned (.bool (sameIdx a b)) ∧ Below w.heap.size w w' := by
  have hA : Below w.heap.size w ((w.alloc (.cells #[.string a.name, .bool a.uniq, .slice a1 a.n c1] 43)).alloc (.cells #[.string b.name, .bool b.uniq, .slice a2 b.n c2] 43)) := ((Below.refl _ _).alloc (Nat.le_refl _) _).alloc (by simp) _
  have hS := equalBy_any a1 a2 a.n c1 b.n c2 a.part b.part _ (h1.below hA) (h2.below hA) hn
  have HA : Hid (Below w.heap.size w ((w.alloc (.cells #[.string a.name, .bool a.uniq, .slice a1 a.n c1] 43)).alloc (.cells #[.string b.name, .bool b.uniq, .slice a2 b.n c2] 43))) := hA
  have HO : Hid (sameIdx a b = true ↔ (a.name = b.name ∧ a.uniq = b.uniq ∧ sameByF a.n a.part b.n b.part = true)) := by show _ ↔ _; unfold sameIdx; exact decide_eq_true_iff
  have HNO : Hid (¬ (sameIdx a b = true) → sameIdx a b = false) := fun h => by cases e : sameIdx a b with | true => exact absurd e h | false => rfl
  clear h1 h2 hA hn
  obtain ⟨z, hz⟩ : ∃ z, Hid (sameIdx a b = z) := ⟨_, rfl⟩
  rw [hz.out] at HO HNO ⊢
  clear hz
  generalize sameByF a.n a.part b.n b.part = q at *
  obtain ⟨s0, s1, s2, s3⟩ := a
  obtain ⟨t0, t1, t2, t3⟩ := b
  by_cases p1 : s0 = t0
  · have m1 := bytes_eq p1
    by_cases p2 : s1 = t1
    · have p2' := p2
      subst p2'
      have m2 : (s1 == s1) = true := by cases s1 <;> rfl
      have HZ : Hid (z = q) := by
        cases q with
        | true => exact HO.out.2 ⟨p1, p2, rfl⟩
        | false => exact HNO.out (fun h => by have := (HO.out.1 h).2.2; cases this)
      clear HO HNO p1 p2
      go_enter Try.func19, Try.ntmps19
      go_wp2_with fail
      refine hS.mono ?_
      rintro e w1 ⟨rfl, hb1⟩
      have HB : Hid (Below w.heap.size w w1) := HA.out.trans (hb1.mono HA.out.size)
      clear hS hb1 HA
      go_wp2
      go_ret
      exact ⟨by rw [HZ.out]; rfl, HB.out⟩
    · have m2 : (s1 == t1) = false := by cases s1 <;> cases t1 <;> first | rfl | exact absurd rfl p2
      have HZ : Hid (z = false) := HNO.out (fun h => p2 (HO.out.1 h).2.1)
      clear HO HNO p1 p2 hS
      go_enter Try.func19, Try.ntmps19
      go_wp2
      go_ret
      exact ⟨by rw [HZ.out]; rfl, HA.out⟩
  · have m1 := bytes_ne p1
    have HZ : Hid (z = false) := HNO.out (fun h => p1 (HO.out.1 h).1)
    clear HO HNO p1 hS
    go_enter Try.func19, Try.ntmps19
    go_wp2
    go_ret
    exact ⟨by rw [HZ.out]; rfl, HA.out⟩

set_option maxHeartbeats 2000000 in
theorem equalIdx_any (a1 a2 : Option Addr) (n c1 m c2 : Nat) (f g : Nat → PIdx) (w : World) (h1 : IView w a1 n c1 f) (h2 : IView w a2 m c2 g) (hn : n ≤ 1048576) (HN : Hid (∀ i, i < n → (f i).n ≤ 1048576)) :
    Calls Try.prog 18 #[.slice a1 n c1, .slice a2 m c2, .func (.func 19) #[] #[]] w fun e w' => e = .returned (.bool (sameIdxF n f m g)) ∧ Below w.heap.size w w' := by
  by_cases hnm : n = m
  · subst hnm
    have hq : ((n : Int) != (n : Int)) = false := bne_self_eq_false _
    go_enter Try.func18, Try.ntmps18
    go_wp2
    go_loopg [17] n (fun q i wr => ∃ k : Nat, k ≤ n ∧ q = n - k ∧ i = .int .i64 k ∧ Below w.heap.size w wr ∧ Hid (∀ i, i < k → (f i).name = (g i).name ∧ (f i).uniq = (g i).uniq ∧ sameByF (f i).n (f i).part (g i).n (g i).part = true))
    case atStart => exact ⟨0, Nat.zero_le _, rfl, rfl, Below.refl _ _, fun j hj => absurd hj (Nat.not_lt_zero _)⟩
    case round =>
      obtain ⟨k, hk, rfl, rfl, hB, HA⟩ := hrel
      by_cases hlt : k < n
      · have hkz : (k : Int) < (n : Int) := by omega
        obtain ⟨b1, o1, rfl, hb1, hcs⟩ := (h1.below hB).cells (by omega)
        obtain ⟨b2, o2, rfl, hb2, hcs2⟩ := (h2.below hB).cells (by omega)
        obtain ⟨x0, x1, a3, c3, x2, hv3⟩ := hcs k hlt
        obtain ⟨y0, y1, a4, c4, y2, hv4⟩ := hcs2 k hlt
        have hV : ∀ W, Below wr.heap.size wr W → Calls Try.prog 19 #[.agg #[.string (f k).name, .bool (f k).uniq, .slice a3 (f k).n c3], .agg #[.string (g k).name, .bool (g k).uniq, .slice a4 (g k).n c4]] W fun e w' => e = .returned (.bool (sameIdx (f k) (g k))) ∧ Below W.heap.size W w' := fun W hb => sameIndex_any (f k) (g k) a3 a4 c3 c4 W (hv3.below hb) (hv4.below hb) (HN.out k hlt)
        have HE : Hid (sameIdx (f k) (g k) = true ↔ ((f k).name = (g k).name ∧ (f k).uniq = (g k).uniq ∧ sameByF (f k).n (f k).part (g k).n (g k).part = true)) := by show _ ↔ _; unfold sameIdx; exact decide_eq_true_iff
        have HB : Hid (Below w.heap.size w wr) := hB
        have HS := hB.size
        obtain ⟨o, ho⟩ : ∃ x, Hid (sameIdx (f k) (g k) = x) := ⟨_, rfl⟩
        simp only [ho.out] at hV
        rw [ho.out] at HE
        have HL : Hid (o = true → ∀ i, i < k + 1 → (f i).name = (g i).name ∧ (f i).uniq = (g i).uniq ∧ sameByF (f i).n (f i).part (g i).n (g i).part = true) := by
          intro h i hi
          by_cases e : i < k
          · exact HA.out i e
          · obtain rfl : i = k := by omega
            exact HE.out.1 h
        have HL2 : Hid (o = false → sameIdxF n f n g = false) := by
          intro h
          unfold sameIdxF
          exact decide_eq_false (fun h' => by have := HE.out.2 (h'.2 k hlt); rw [h] at this; cases this)
        clear HE HA ho
        generalize (f k).name = p0 at *
        generalize (f k).uniq = p1 at *
        generalize (f k).n = p2 at *
        generalize (g k).name = r0 at *
        generalize (g k).uniq = r1 at *
        generalize (g k).n = r2 at *
        clear hcs hcs2 h1 h2 hB hq hv3 hv4
        have hA1 : Below wr.heap.size wr ((wr.alloc (.cells #[.string p0, .bool p1, .slice a3 p2 c3] 43)).alloc (.cells #[.string r0, .bool r1, .slice a4 r2 c4] 43)) := ((Below.refl _ _).alloc (Nat.le_refl _) _).alloc (by simp) _
        have HA1 : Hid (Below wr.heap.size wr ((wr.alloc (.cells #[.string p0, .bool p1, .slice a3 p2 c3] 43)).alloc (.cells #[.string r0, .bool r1, .slice a4 r2 c4] 43))) := hA1
        have hS := hV _ hA1
        clear hV hA1
        go_wp2_with fail
        refine hS.mono ?_
        rintro e w2 ⟨rfl, hB2⟩
        have HB3 : Hid (Below w.heap.size w w2) := HB.out.trans ((HA1.out.trans (hB2.mono HA1.out.size)).mono HS)
        clear hB2 hS x0 x1 x2 y0 y1 y2 hb1 hb2 HA1
        cases o
        · have hbad2 : Hid (sameIdxF n f n g = false) := HL2.out rfl
          clear HL HL2
          go_wp2
          go_ret
          exact ⟨by rw [hbad2.out]; rfl, HB3.out⟩
        · have HN2 : Hid (∀ i, i < k + 1 → (f i).name = (g i).name ∧ (f i).uniq = (g i).uniq ∧ sameByF (f i).n (f i).part (g i).n (g i).part = true) := HL.out rfl
          clear HL HL2
          go_wp2
          go_roundg (n - (k + 1))
          case measure => omega
          case rel => exact ⟨k + 1, by omega, rfl, by go_num, HB3.out, HN2⟩
      · have hkz : ¬ (k : Int) < (n : Int) := by omega
        obtain rfl : k = n := by omega
        have HF : Hid (sameIdxF k f k g = true) := decide_eq_true ⟨rfl, HA.out⟩
        clear h1 h2
        go_wp2
        go_ret
        exact ⟨by rw [HF.out]; rfl, hB⟩
  · have hq : ((n : Int) != (m : Int)) = true := by simp; omega
    have HF : Hid (sameIdxF n f m g = false) := by
      show _ = _
      unfold sameIdxF
      exact decide_eq_false (fun h => hnm h.1)
    clear h1 h2 hnm
    go_enter Try.func18, Try.ntmps18
    go_wp2
    go_ret
    exact ⟨by rw [HF.out]; rfl, Below.refl _ _⟩

theorem sameF_split (D E : PDef) : sameF D E = (decide (D.name = E.name) && sameColF D.nc D.col E.nc E.col && sameByF D.np D.pri E.np E.pri && sameIdxF D.ni D.idx E.ni E.idx) := by
  cases h : (decide (D.name = E.name) && sameColF D.nc D.col E.nc E.col && sameByF D.np D.pri E.np E.pri && sameIdxF D.ni D.idx E.ni E.idx) with
  | true =>
    simp only [Bool.and_eq_true] at h
    obtain ⟨⟨⟨h1, h2⟩, h3⟩, h4⟩ := h
    unfold sameColF at h2
    unfold sameIdxF at h4
    have h1 := of_decide_eq_true h1
    have h2 := of_decide_eq_true h2
    have h4 := of_decide_eq_true h4
    unfold sameF
    exact decide_eq_true ⟨h1, h2.1, h4.1, h3, h2.2, h4.2⟩
  | false =>
    cases h0 : sameF D E with
    | false => rfl
    | true =>
      unfold sameF at h0
      obtain ⟨h1, h2, h3, h4, h5, h6⟩ := of_decide_eq_true h0
      have e2 : sameColF D.nc D.col E.nc E.col = true := decide_eq_true ⟨h2, h5⟩
      have e4 : sameIdxF D.ni D.idx E.ni E.idx = true := decide_eq_true ⟨h3, h6⟩
      rw [decide_eq_true h1, e2, h4, e4] at h
      cases h

set_option maxHeartbeats 4000000 in
theorem implSame_any (u v : Value) (D E : PDef) (w : World) (h1 : DView w u D) (h2 : DView w v E) (hf : DFine D) :
    Calls Try.prog 7 #[u, v] w fun e w' => e = .returned (.bool (sameF D E)) ∧ Below w.heap.size w w' := by
  have hnc := hf.nc
  have hni := hf.ni
  have hnp := hf.np
  have HIX : Hid (∀ i, i < D.ni → (D.idx i).n ≤ 1048576) := fun i hi => (hf.idx i hi).2
  clear hf
  obtain ⟨ac, cc, ap, cp, ai, ci, rfl, hc1, hp1, hi1⟩ := h1.is
  obtain ⟨bc, dc, bp, dp, bi, di, rfl, hc2, hp2, hi2⟩ := h2.is
  clear h1 h2
  have hB0 : Below (w.heap.size + 1 + 1) ((w.alloc (.cells #[.string D.name, .slice ac D.nc cc, .slice ap D.np cp, .slice ai D.ni ci] 33)).alloc (.cells #[.string E.name, .slice bc E.nc dc, .slice bp E.np dp, .slice bi E.ni di] 33)) ((w.alloc (.cells #[.string D.name, .slice ac D.nc cc, .slice ap D.np cp, .slice ai D.ni ci] 33)).alloc (.cells #[.string E.name, .slice bc E.nc dc, .slice bp E.np dp, .slice bi E.ni di] 33)) := Below.refl _ _
  obtain ⟨hBw0, -⟩ := box44_below hB0
  have hCC := fun W (hb : Below w.heap.size w W) => equalCol_any ac bc D.nc cc E.nc dc D.col E.col W (hc1.below hb) (hc2.below hb) hnc
  have hCB := fun W (hb : Below w.heap.size w W) => equalBy_any ap bp D.np cp E.np dp D.pri E.pri W (hp1.below hb) (hp2.below hb) hnp
  have hCI := fun W (hb : Below w.heap.size w W) => equalIdx_any ai bi D.ni ci E.ni di D.idx E.idx W (hi1.below hb) (hi2.below hb) hni HIX
  have HO := sameF_split D E
  rw [HO]
  clear HO hc1 hp1 hi1 hc2 hp2 hi2 hnc hni hnp HIX
  generalize sameColF D.nc D.col E.nc E.col = q2 at *
  generalize sameByF D.np D.pri E.np E.pri = q3 at *
  generalize sameIdxF D.ni D.idx E.ni E.idx = q4 at *
  by_cases q1 : D.name = E.name
  · have r1 := bytes_eq q1
    have e1 : decide (D.name = E.name) = true := decide_eq_true q1
    rw [e1, Bool.true_and]
    clear e1 q1
    go_enter Try.func7, Try.ntmps7
    go_wp2_with fail
    refine (hCC _ hBw0).mono ?_
    rintro e w1 ⟨rfl, hb1⟩
    have hB1 := box44_on hB0 hb1
    obtain ⟨hBw1, hs1⟩ := box44_below hB1
    obtain ⟨⟨x0, x1, x2, x3⟩, y0, y1, y2, y3⟩ := box44 hB1
    clear hCC hb1 hB0 hBw0
    cases q2
    · have HB : Hid (Below w.heap.size w w1) := hBw1
      clear hCB hCI hB1 hBw1
      go_wp2
      go_ret
      exact ⟨by simp, HB.out⟩
    have hS := hCB _ hBw1
    clear hCB
    go_wp2_with fail
    refine hS.mono ?_
    rintro e w2 ⟨rfl, hb2⟩
    have hB2 := box44_on hB1 hb2
    obtain ⟨hBw2, hs2⟩ := box44_below hB2
    clear x0 x1 x2 x3 y0 y1 y2 y3
    obtain ⟨⟨x0, x1, x2, x3⟩, y0, y1, y2, y3⟩ := box44 hB2
    clear hS hb2 hB1 hBw1 hs1
    cases q3
    · have HB : Hid (Below w.heap.size w w2) := hBw2
      clear hCI hB2 hBw2
      go_wp2
      go_ret
      exact ⟨by simp, HB.out⟩
    have hS := hCI _ hBw2
    clear hCI
    go_wp2_with fail
    refine hS.mono ?_
    rintro e w3 ⟨rfl, hb3⟩
    have HB : Hid (Below w.heap.size w w3) := (box44_below (box44_on hB2 hb3)).1
    clear hS hb3 hB2 hBw2 hs2 x0 x1 x2 x3 y0 y1 y2 y3
    go_wp2
    go_ret
    exact ⟨by simp, HB.out⟩
  · have r1 := bytes_ne q1
    have e1 : decide (D.name = E.name) = false := decide_eq_false q1
    rw [e1]
    clear hCC hCB hCI q1 e1
    go_enter Try.func7, Try.ntmps7
    go_wp2
    go_ret
    exact ⟨by simp, hBw0⟩
end Go.Proofs.Ytfjlmkphnciglat

/-
  What the frame of a row hands over of a table that came in.
-/
namespace Go.Proofs.Ytfjlmkphnciglat
open Go.RowKit
set_option maxRecDepth 4000
open Go.Deep Go.ChangeShapes

/-- A slice that came in, whose elements are each read. -/
theorem sliceIn {H : Type} {enc : TypeId × Value → H} {W : World} {sp : Nat → Bool} {α : Type} [Inhabited α] {T e : TypeId} {c fuel : Nat} {cs : List Value} {x : DataW H × List MemPlace}
    (ht : Try.prog.underlying T = some (.slice e)) (hc : Try.prog.cellsOf e = c) (hc0 : 0 < c) (Q : Addr → α → Prop)
    (each : ∀ (fuel : Nat) (cs : List Value) (x : DataW H × List MemPlace) (a : Addr), cs.length = c → (∀ j, j < c → W.cell? (a.add j) = cs[j]?) → DataW.trod enc Try.prog W 0 sp true fuel e cs = some x → ∃ y, Q a y)
    (h : DataW.trod enc Try.prog W 0 sp true fuel T cs = some x) :
    ∃ (ao : Option Addr) (n cap : Nat) (f : Nat → α), cs = [.slice ao n cap] ∧ n ≤ cap ∧ cap ≤ maxLen ∧ (0 < n → ∃ b off, ao = some ⟨b, off, none⟩ ∧ b < W.heap.size ∧ ∀ i, i < n → Q ⟨b, off + i * c, none⟩ (f i)) := by
  rcases DataW.trod_slice ht h with ⟨hcs, _⟩ | ⟨a, l, cap, elems, rest, n, _, hcs, _, _, hl, hm, hlen, hel, _, _⟩
  · exact ⟨none, 0, 0, fun _ => default, hcs, Nat.le_refl _, Nat.zero_le _, fun h => absurd h (Nat.lt_irrefl _)⟩
  · have key : ∀ i, i < l → ∃ y, Q (a.add (i * c)) y ∧ W.cell? (a.add (i * c)) ≠ none := by
      intro i hi
      have h1 := hel i hi
      rw [hc] at h1
      have h2 : elems[i]? = some elems[i] := List.getElem?_eq_getElem (by omega)
      rw [h2] at h1
      obtain ⟨cs, hcs, htr⟩ := Option.bind_eq_some_iff.1 h1
      obtain ⟨_, hl3, hcell⟩ := World.cells?_some hcs
      obtain ⟨y, hy⟩ := each n cs _ _ hl3 (fun j hj => hcell j hj) htr
      refine ⟨y, hy, ?_⟩
      have := hcell 0 (by omega)
      intro hn
      rw [show (a.add (i * c)).add 0 = a.add (i * c) by unfold Addr.add; split <;> simp_all, hn, List.getElem?_eq_getElem (by omega)] at this
      cases this
    have pick : ∃ f : Nat → α, ∀ i, i < l → Q (a.add (i * c)) (f i) := ⟨fun i => if h : i < l then (key i h).choose else default, fun i hi => by simp only [dif_pos hi]; exact (key i hi).choose_spec.1⟩
    obtain ⟨f, hf⟩ := pick
    refine ⟨some a, l, cap, f, hcs, hl, hm, fun hn => ?_⟩
    obtain ⟨b, off, spot⟩ := a
    obtain ⟨y0, -, h0⟩ := key 0 hn
    obtain ⟨u, hu⟩ := Option.ne_none_iff_exists'.1 h0
    have hs : spot = none := by simpa [Addr.add] using World.cell?_spot hu
    subst hs
    have ea : ∀ j, (⟨b, off, none⟩ : Addr).add j = ⟨b, off + j, none⟩ := fun j => by unfold Addr.add; split <;> simp_all
    rw [ea] at hu
    refine ⟨b, off, rfl, World.block_lt_of_cell? _ _ hu, fun i hi => ?_⟩
    have := hf i hi
    rw [ea] at this
    exact this

instance : Inhabited PBy := ⟨⟨0, false⟩⟩
instance : Inhabited PCol := ⟨⟨⟨#[]⟩, 0, false⟩⟩
instance : Inhabited PIdx := ⟨⟨⟨#[]⟩, false, 0, fun _ => default⟩⟩

theorem addr_add (b off j : Nat) : (⟨b, off, none⟩ : Addr).add j = ⟨b, off + j, none⟩ := by unfold Addr.add; split <;> simp_all

theorem bysIn {H : Type} {enc : TypeId × Value → H} {W : World} {sp : Nat → Bool} {fuel : Nat} {cs : List Value} {x : DataW H × List MemPlace}
    (h : DataW.trod enc Try.prog W 0 sp true fuel 23 cs = some x) : ∃ a n cap f, cs = [.slice a n cap] ∧ BView W a n cap f ∧ n ≤ maxLen := by
  have c2 : Try.prog.cellsOf 60 = 2 := by kernel_rfl
  obtain ⟨a, n, cap, f, e, hl, hm, hv⟩ := sliceIn (α := PBy) Try.underlying23 c2 (by decide) (fun a y => W.cell? (a.add 0) = some (.int .i64 y.col) ∧ W.cell? (a.add 1) = some (.bool y.desc)) (by
    intro fuel cs x a hl hcell htr
    obtain ⟨y0, y1, m, _, _, t0, t1⟩ := trod_struct2 Try.underlying60 htr
    have o1 : Try.prog.cellsOf 3 = 1 := by kernel_rfl
    have o2 : Try.prog.cellsOf 4 = 1 := by kernel_rfl
    simp only [o1, o2] at t0 t1
    match cs, hl with
    | [c0, c1], _ =>
      simp only [List.drop_zero, List.drop_succ_cons, List.take_succ_cons, List.take_zero] at t0 t1
      obtain ⟨k, e0, _, _⟩ := DataW.trod_int Try.underlying3 t0
      obtain ⟨s, e1, _⟩ := DataW.trod_bool Try.underlying4 t1
      simp only [List.cons.injEq, and_true] at e0 e1
      subst e0 e1
      exact ⟨⟨k, s⟩, hcell 0 (by decide), hcell 1 (by decide)⟩) h
  refine ⟨a, n, cap, f, e, ⟨hl, fun hn => ?_⟩, Nat.le_trans hl hm⟩
  obtain ⟨b, off, ea, hlt, hc⟩ := hv hn
  refine ⟨b, off, ea, hlt, fun i hi => ?_⟩
  have := hc i hi
  simpa only [addr_add, Nat.add_zero] using this

theorem colsIn {H : Type} {enc : TypeId × Value → H} {W : World} {sp : Nat → Bool} {fuel : Nat} {cs : List Value} {x : DataW H × List MemPlace}
    (h : DataW.trod enc Try.prog W 0 sp true fuel 22 cs = some x) : ∃ a n cap f, cs = [.slice a n cap] ∧ CView W a n cap f ∧ n ≤ maxLen ∧ ∀ i, i < n → (f i).name.size ≤ maxLen := by
  have c2 : Try.prog.cellsOf 54 = 3 := by kernel_rfl
  obtain ⟨a, n, cap, f, e, hl, hm, hv⟩ := sliceIn (α := PCol) Try.underlying22 c2 (by decide) (fun a y => (W.cell? (a.add 0) = some (.string y.name) ∧ W.cell? (a.add 1) = some (.int .i64 y.type) ∧ W.cell? (a.add 2) = some (.bool y.null)) ∧ y.name.size ≤ maxLen) (by
    intro fuel cs x a hl hcell htr
    obtain ⟨y0, y1, y2, m, _, _, t0, t1, t2⟩ := trod_struct3 Try.underlying54 htr
    have o0 : Try.prog.cellsOf 9 = 1 := by kernel_rfl
    have o1 : Try.prog.cellsOf 3 = 1 := by kernel_rfl
    have o2 : Try.prog.cellsOf 4 = 1 := by kernel_rfl
    simp only [o0, o1, o2] at t0 t1 t2
    match cs, hl with
    | [c0, c1, c2], _ =>
      simp only [List.drop_zero, List.drop_succ_cons, List.take_succ_cons, List.take_zero] at t0 t1 t2
      obtain ⟨s, e0, _, hs⟩ := DataW.trod_string Try.underlying9 t0
      obtain ⟨k, e1, _, _⟩ := DataW.trod_int Try.underlying3 t1
      obtain ⟨z, e2, _⟩ := DataW.trod_bool Try.underlying4 t2
      simp only [List.cons.injEq, and_true] at e0 e1 e2
      subst e0 e1 e2
      exact ⟨⟨s, k, z⟩, ⟨hcell 0 (by decide), hcell 1 (by decide), hcell 2 (by decide)⟩, hs⟩) h
  refine ⟨a, n, cap, f, e, ⟨hl, fun hn => ?_⟩, Nat.le_trans hl hm, fun i hi => ?_⟩
  · obtain ⟨b, off, ea, hlt, hc⟩ := hv hn
    refine ⟨b, off, ea, hlt, fun i hi => ?_⟩
    have := (hc i hi).1
    simpa only [addr_add, Nat.add_zero] using this
  · obtain ⟨b, off, ea, hlt, hc⟩ := hv (by omega)
    exact (hc i hi).2

theorem idxsIn {H : Type} {enc : TypeId × Value → H} {W : World} {sp : Nat → Bool} {fuel : Nat} {cs : List Value} {x : DataW H × List MemPlace}
    (h : DataW.trod enc Try.prog W 0 sp true fuel 24 cs = some x) : ∃ a n cap f, cs = [.slice a n cap] ∧ IView W a n cap f ∧ n ≤ maxLen ∧ ∀ i, i < n → (f i).name.size ≤ maxLen ∧ (f i).n ≤ maxLen := by
  have c2 : Try.prog.cellsOf 57 = 3 := by kernel_rfl
  obtain ⟨a, n, cap, f, e, hl, hm, hv⟩ := sliceIn (α := PIdx) Try.underlying24 c2 (by decide) (fun a y => (W.cell? (a.add 0) = some (.string y.name) ∧ W.cell? (a.add 1) = some (.bool y.uniq) ∧ ∃ p c, W.cell? (a.add 2) = some (.slice p y.n c) ∧ BView W p y.n c y.part) ∧ y.name.size ≤ maxLen ∧ y.n ≤ maxLen) (by
    intro fuel cs x a hl hcell htr
    obtain ⟨y0, y1, y2, m, _, _, t0, t1, t2⟩ := trod_struct3 Try.underlying57 htr
    have o0 : Try.prog.cellsOf 9 = 1 := by kernel_rfl
    have o1 : Try.prog.cellsOf 4 = 1 := by kernel_rfl
    have o2 : Try.prog.cellsOf 23 = 1 := by kernel_rfl
    simp only [o0, o1, o2] at t0 t1 t2
    match cs, hl with
    | [c0, c1, c2], _ =>
      simp only [List.drop_zero, List.drop_succ_cons, List.take_succ_cons, List.take_zero] at t0 t1 t2
      obtain ⟨s, e0, _, hs⟩ := DataW.trod_string Try.underlying9 t0
      obtain ⟨z, e1, _⟩ := DataW.trod_bool Try.underlying4 t1
      obtain ⟨p, k, cp, g, e2, hV, hk⟩ := bysIn t2
      simp only [List.cons.injEq, and_true] at e0 e1 e2
      subst e0 e1 e2
      exact ⟨⟨s, z, k, g⟩, ⟨hcell 0 (by decide), hcell 1 (by decide), p, cp, hcell 2 (by decide), hV⟩, hs, hk⟩) h
  refine ⟨a, n, cap, f, e, ⟨hl, fun hn => ?_⟩, Nat.le_trans hl hm, fun i hi => ?_⟩
  · obtain ⟨b, off, ea, hlt, hc⟩ := hv hn
    refine ⟨b, off, ea, hlt, fun i hi => ?_⟩
    have := (hc i hi).1
    simpa only [addr_add, Nat.add_zero] using this
  · obtain ⟨b, off, ea, hlt, hc⟩ := hv (by omega)
    exact (hc i hi).2

/-- The four cells of a table that came in. -/
theorem defIn {H : Type} {enc : TypeId × Value → H} {W : World} {sp : Nat → Bool} {n0 n1 n2 n3 : Nat} {c0 c1 c2 c3 : Value} {y0 y1 y2 y3 : DataW H × List MemPlace}
    (h0 : DataW.trod enc Try.prog W 0 sp true n0 9 [c0] = some y0) (h1 : DataW.trod enc Try.prog W 0 sp true n1 22 [c1] = some y1)
    (h2 : DataW.trod enc Try.prog W 0 sp true n2 23 [c2] = some y2) (h3 : DataW.trod enc Try.prog W 0 sp true n3 24 [c3] = some y3) :
    ∃ D : PDef, DView W (.agg #[c0, c1, c2, c3]) D ∧ DLim D := by
  obtain ⟨s, e0, _, hs⟩ := DataW.trod_string Try.underlying9 h0
  obtain ⟨ac, nc, cc, fc, e1, v1, m1, z1⟩ := colsIn h1
  obtain ⟨ap, np, cp, fp, e2, v2, m2⟩ := bysIn h2
  obtain ⟨ai, ni, ci, fi, e3, v3, m3, z3⟩ := idxsIn h3
  simp only [List.cons.injEq, and_true] at e0 e1 e2 e3
  subst e0 e1 e2 e3
  exact ⟨⟨s, nc, fc, np, fp, ni, fi⟩, ⟨ac, cc, ap, cp, ai, ci, rfl, v1, v2, v3⟩, ⟨hs, m1, z1, m2, m3, z3⟩⟩
end Go.Proofs.Ytfjlmkphnciglat

