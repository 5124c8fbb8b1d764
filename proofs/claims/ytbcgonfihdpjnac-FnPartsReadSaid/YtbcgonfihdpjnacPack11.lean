/-
  Together: GetEscImpl, FormGet, GetPLemmas, PartGetPlain
-/
import Derived.Test.YtbcgonfihdpjnacPack10
import Derived.WalkSpells
import Derived.Test.YtbcgonfihdpjnacPack3
import Derived.Test.YtbcgonfihdpjnacPack1
/-
  The program's GetEsc: what is read of the bytes as a text in order, at every slice of bytes that reads and at every place.
-/
namespace Go.Proofs.Ytbcgonfihdpjnac
open Go.RowKit
set_option maxRecDepth 4000

theorem retE {s s' : ByteArray} {b b' : Int} {c c' : Bool} (h1 : s = s') (h2 : b = b') (h3 : c = c') :
    Ending.returned (.tuple #[.string s, .int .i64 b, .bool c]) = .returned (.tuple #[.string s', .int .i64 b', .bool c']) := by rw [h1, h2, h3]

theorem snoc_byte {l : List Int} (h : ∀ y ∈ l, 0 ≤ y ∧ y ≤ 255) (x : Int) (h0 : 0 ≤ x) (h1 : x ≤ 255) : ∀ y ∈ l ++ [x], 0 ≤ y ∧ y ≤ 255 := by
  intro y hy
  rcases List.mem_append.1 hy with hy | hy
  · exact h y hy
  · simp at hy; omega

set_option maxRecDepth 4000 in
set_option maxHeartbeats 2000000 in
theorem getEsc_impl (ao : Option Addr) (n cap : Nat) (f : Nat → Int) (p : Int) (w : World) (s : ByteArray) (q : Int) (ok : Bool) (hg : Hid (getE n f p = (s, q, ok))) (hv : View w ao n cap f) (hn : n ≤ 17592186044416) (hp1 : p ≤ 9223372036854775807) :
    Calls Try.prog 70 #[.slice ao n cap, .int .i64 p] w fun e w' => e = .returned (.tuple #[.string s, .int .i64 q, .bool ok]) ∧ Below w.heap.size w w' := by
  by_cases hp : p < 0
  · have := hg.out
    rw [getE_neg n f p hp] at this
    cases this
    go_enter Try.func70, Try.ntmps70
    go_wp2
    go_ret3
    exact ⟨rfl, Below.refl _ _⟩
  obtain ⟨p, rfl⟩ := Int.eq_ofNat_of_zero_le (Int.not_lt.1 hp)
  obtain ⟨i0, hi, hz0, hz1, hz2⟩ := info_parts Try.info5
  have hown0 : w.ownsRow w.heap.size 5 1 (.slice none 0 0) 0 (bl []) := ⟨rfl, .inl ⟨rfl, rfl⟩⟩
  go_enter Try.func70, Try.ntmps70
  go_wp2
  go_loopg [7, 8] (n - p) (fun g v i wr => ∃ (k : Nat) (acc : List Int), g = n - k ∧ i = .int .i64 k ∧ (k : Int) ≤ 9223372036854775807 ∧ acc.length + p ≤ k ∧ Seen n f p k acc ∧ (∀ y ∈ acc, 0 ≤ y ∧ y ≤ 255) ∧ wr.ownsRow w.heap.size 5 1 v acc.length (bl acc) ∧ Below w.heap.size w wr)
  case atStart => exact ⟨p, [], rfl, rfl, hp1, by simp, Seen.start n f p, (fun y hy => by cases hy), hown0, Below.refl _ _⟩
  case round =>
    obtain ⟨k, acc, rfl, rfl, hk63, hak, hsn, hyb, hown, hB⟩ := hrel
    clear hown0
    have HS : Hid (Seen n f p k acc) := hsn
    have HY : Hid (∀ y ∈ acc, 0 ≤ y ∧ y ≤ 255) := hyb
    clear hsn hyb
    by_cases hlt : k + 1 < n
    · obtain ⟨b, off, rfl, hb, hc⟩ := hv.cells (by omega)
      have hkz : (k : Int) < (n : Int) - 1 := by omega
      have hkz1 : (k : Int) + 1 < (n : Int) := by omega
      have hc0 : wr.cell? ⟨b, off + k, none⟩ = some (.int .u8 (f k)) := by rw [hB.cell (p := ⟨b, off + k, none⟩) hb]; exact hc k (by omega)
      have hc1 : wr.cell? ⟨b, off + (k + 1), none⟩ = some (.int .u8 (f (k + 1))) := by rw [hB.cell (p := ⟨b, off + (k + 1), none⟩) hb]; exact hc (k + 1) hlt
      have hb0 := hv.byte k (by omega)
      obtain ⟨hb00, hb01⟩ := hb0
      have hcv : (convert 22 9 u7).run Try.prog wr = .ok (.string (strOfNums acc)) wr := conv_own hown rfl HY.out
      clear hc
      by_cases h0 : f k = 0
      · have H0 : Hid (f k = 0) := h0
        rw [h0] at hc0
        clear h0 hb00 hb01
        by_cases h1 : f (k + 1) = 1
        · have HG := hg.out
          rw [getE_some (HS.out.ends hlt H0.out h1)] at HG
          cases HG
          rw [h1] at hc1
          go_wp2
          go_ret3
          have := HS.out.1
          exact ⟨retE rfl (by omega) rfl, hB⟩
        · by_cases h2 : f (k + 1) = 255
          · have HS2 : Hid (Seen n f p (k + 2) (acc ++ [0])) := HS.out.goes hlt H0.out h2
            rw [h2] at hc1
            clear hcv
            go_wp2_with (at_builtin; go_must (refine wpList_append_own _ rfl (.tmp 50) (.tmp 51) 22 rfl w.heap.size 5 i0 (.int .u8 0) 1 1 Try.underlying22 hi hz0 hz1 hz2 rfl (by decide) u7 _ _ rfl (hown.alloc _) ⟨wr.heap.size, 0, none⟩ 1 1 [.int .u8 0] rfl rfl (cellNew _ _ _) (bl_one [0]) (by unfold maxLen; omega) (by omega) (by have := hB.size; simp; omega) ?_); intro v2 w2 hown2 hgr2 _)
            have hB2 : Below w.heap.size w w2 := (hB.alloc hB.size _).grown hgr2 (by have := hB.size; simp; omega) (fun k hk => (hown.lt k hk).1)
            have hO2 : w2.ownsRow w.heap.size 5 1 v2 (acc ++ [0]).length (bl (acc ++ [0])) := by
              rw [List.length_append, bl_append]
              exact hown2
            clear hgr2 hown hown2 hB
            go_wp2
            go_roundg (n - (k + 2))
            case measure => omega
            case rel => exact ⟨k + 2, acc ++ [0], rfl, by go_num, by omega, by simp; omega, HS2.out, snoc_byte HY.out 0 (by omega) (by omega), hO2, hB2⟩
          · have HG := hg.out
            rw [getE_none (HS.out.wrong hlt H0.out h1 h2)] at HG
            cases HG
            have q1 : (f (k + 1) == 1) = false := by simpa using h1
            have q2 : (f (k + 1) == 255) = false := by simpa using h2
            clear h1 h2 hcv
            go_wp2
            go_ret3
            exact ⟨rfl, hB⟩
      · have q0 : (f k != 0) = true := by simpa using h0
        have HS2 : Hid (Seen n f p (k + 1) (acc ++ [f k])) := HS.out.plain hlt h0
        clear h0 hcv hc1
        go_wp2_with (at_builtin; go_must (refine wpList_append_own _ rfl (.tmp 25) (.tmp 30) 22 rfl w.heap.size 5 i0 (.int .u8 0) 1 1 Try.underlying22 hi hz0 hz1 hz2 rfl (by decide) u7 _ _ rfl (hown.alloc _) ⟨wr.heap.size, 0, none⟩ 1 1 [.int .u8 (f k)] rfl rfl (cellNew _ _ _) (bl_one [f k]) (by unfold maxLen; omega) (by omega) (by have := hB.size; simp; omega) ?_); intro v2 w2 hown2 hgr2 _)
        have hB2 : Below w.heap.size w w2 := (hB.alloc hB.size _).grown hgr2 (by have := hB.size; simp; omega) (fun k hk => (hown.lt k hk).1)
        have hO2 : w2.ownsRow w.heap.size 5 1 v2 (acc ++ [f k]).length (bl (acc ++ [f k])) := by
          rw [List.length_append, bl_append]
          exact hown2
        clear hgr2 hown hown2 hB
        go_wp2
        go_roundg (n - (k + 1))
        case measure => omega
        case rel => exact ⟨k + 1, acc ++ [f k], rfl, by go_num, by omega, by simp; omega, HS2.out, snoc_byte HY.out (f k) hb00 hb01, hO2, hB2⟩
    · have hkz : (n : Int) - 1 ≤ (k : Int) := by omega
      have HG := hg.out
      rw [getE_none (HS.out.past (by omega))] at HG
      cases HG
      clear hlt
      go_wp2
      go_ret3
      exact ⟨rfl, hB⟩
end Go.Proofs.Ytbcgonfihdpjnac

/-
  The program's readers of a value of each type, as they read.
-/
namespace Go.Proofs.Ytbcgonfihdpjnac
open Go.RowKit
set_option maxRecDepth 4000

/-- A byte of 0 or 1 at a place. -/
def getB (n : Nat) (f : Nat → Int) (p : Int) : Int × Int × Bool := if p < 0 ∨ (n : Int) ≤ p ∨ 1 < f p.toNat then (0, 0, false) else (f p.toNat, p + 1, true)

set_option maxHeartbeats 1000000 in
theorem getBit_any {a q : Int} {ok : Bool} (b off n cap : Nat) (f : Nat → Int) (p : Int) (w : World) (hg : Hid (getB n f p = (a, q, ok))) (hv : View w (some ⟨b, off, none⟩) n cap f) (hn : n ≤ 70368744177664) (hp1 : p ≤ 9223372036854775807) :
    Calls Try.prog 22 #[.slice (some ⟨b, off, none⟩) n cap, .int .i64 p] w fun e w' => e = .returned (.tuple #[.int .i64 a, .int .i64 q, .bool ok]) ∧ Below w.heap.size w w' := by
  by_cases hp : p < 0
  · have e := hg.out
    unfold getB at e
    rw [if_pos (Or.inl hp)] at e
    obtain ⟨rfl, rfl, rfl⟩ : 0 = a ∧ 0 = q ∧ false = ok := by simpa using e
    clear hg e hv
    go_enter Try.func22, Try.ntmps22
    go_wp2
    exact bodyPost_ret (v := .tuple #[_, _, _]) (by simp [results, Try.results22, go_sem]) rfl ⟨rfl, Below.refl _ _⟩
  by_cases hq : (n : Int) ≤ p
  · have e := hg.out
    unfold getB at e
    rw [if_pos (Or.inr (Or.inl hq))] at e
    obtain ⟨rfl, rfl, rfl⟩ : 0 = a ∧ 0 = q ∧ false = ok := by simpa using e
    clear hg e hv
    go_enter Try.func22, Try.ntmps22
    go_wp2
    exact bodyPost_ret (v := .tuple #[_, _, _]) (by simp [results, Try.results22, go_sem]) rfl ⟨rfl, Below.refl _ _⟩
  obtain ⟨i, rfl⟩ : ∃ i : Nat, p = i := ⟨p.toNat, by omega⟩
  have hi : i < n := by omega
  obtain ⟨b', off', eb, -, hc⟩ := hv.cells (by omega)
  cases eb
  have hci := hc i hi
  have hby := hv.byte i hi
  obtain ⟨y, hy⟩ : ∃ y, y = f i := ⟨_, rfl⟩
  rw [← hy] at hci hby
  have e := hg.out
  unfold getB at e
  rw [Int.toNat_natCast, ← hy] at e
  clear hg hc hv hy
  by_cases h1 : 1 < y
  · rw [if_pos (Or.inr (Or.inr h1))] at e
    obtain ⟨rfl, rfl, rfl⟩ : 0 = a ∧ 0 = q ∧ false = ok := by simpa using e
    clear e
    go_enter Try.func22, Try.ntmps22
    go_wp2
    exact bodyPost_ret (v := .tuple #[_, _, _]) (by simp [results, Try.results22, go_sem]) rfl ⟨rfl, Below.refl _ _⟩
  · rw [if_neg (by omega)] at e
    obtain ⟨rfl, rfl, rfl⟩ : y = a ∧ (i : Int) + 1 = q ∧ true = ok := by simpa using e
    clear e
    go_enter Try.func22, Try.ntmps22
    go_wp2
    exact bodyPost_ret (v := .tuple #[_, _, _]) (by simp [results, Try.results22, go_sem]) rfl ⟨rfl, Below.refl _ _⟩

/-- A value of a type, as the program's readers read it. -/
def rawI (n : Nat) (f : Nat → Int) (t : Int) (p : Int) : Got :=
  if t = 1 then ⟨1, (getF n f p).1, noBytes, (getF n f p).2.1, (getF n f p).2.2⟩
  else if t = 2 then ⟨2, (getV n f p).1, noBytes, (getV n f p).2.1, (getV n f p).2.2⟩
  else if t = 3 then ⟨3, 0, (getE n f p).1, (getE n f p).2.1, (getE n f p).2.2⟩
  else ⟨4, (getB n f p).1, noBytes, (getB n f p).2.1, (getB n f p).2.2⟩

theorem getFix_implB {a q : Int} {ok : Bool} (b off n cap : Nat) (f : Nat → Int) (p : Int) (w : World) (hg : Hid (getF n f p = (a, q, ok))) (hv : View w (some ⟨b, off, none⟩) n cap f) (hn : n ≤ 281474976710656) (hp1 : p ≤ 9223372036854775807) :
    Calls Try.prog 66 #[.slice (some ⟨b, off, none⟩) n cap, .int .i64 p] w fun e w' => e = .returned (.tuple #[.int .i64 a, .int .i64 q, .bool ok]) ∧ Below w.heap.size w w' := by
  refine (getFix_impl b off n cap f p w hg hv hn hp1).mono ?_
  rintro e _ ⟨h, rfl⟩
  exact ⟨h, Below.refl _ _⟩

/-- What a reader of values comes to. -/
def ReadsV (fn : Nat) (n : Nat) (f : Nat → Int) (p : Int) (g : Got) : Prop :=
  ∀ (b off cap : Nat) (w : World), View w (some ⟨b, off, none⟩) n cap f → Calls Try.prog fn #[.slice (some ⟨b, off, none⟩) n cap, .int .i64 p] w fun e w' => e = gotRet g ∧ Below w.heap.size w w'

set_option maxHeartbeats 1000000 in
theorem getInt_any (n : Nat) (f : Nat → Int) (p : Int) (hn : n ≤ 10000000) (hp1 : p ≤ 9223372036854775807) : ReadsV 43 n f p (rawI n f 1 p) := by
  intro b off cap w hv
  obtain ⟨a, q, ok, hg⟩ : ∃ a q ok, Hid (getF n f p = (a, q, ok)) := ⟨_, _, _, rfl⟩
  have HR : Hid (rawI n f 1 p = ⟨1, a, noBytes, q, ok⟩) := by show _ = _; unfold rawI; rw [if_pos rfl, hg.out]
  rw [HR.out]
  have hR := Box.new w 0 0 ⟨#[]⟩
  have hb : Below w.heap.size w (w.alloc (.cells #[.int .i64 0, .int .i64 0, .string ⟨#[]⟩] 29)) := (Below.refl _ _).alloc (Nat.le_refl _) _
  have hv2 := hv.below hb
  go_enter Try.func43, Try.ntmps43
  go_wp2_with fail
  refine (getFix_implB b off n cap f p _ hg hv2 (by omega) hp1).mono ?_
  rintro e w1 ⟨rfl, hb1⟩
  have hR1 := hR.below hb1
  have hB1 : Below w.heap.size w w1 := hb.trans (hb1.mono hb.size)
  clear hv hv2 hg hR hb hb1
  obtain ⟨r0, r1, r2⟩ := hR1.frozen
  obtain ⟨p0, p1, p2⟩ := hR1.cells
  have hgs := stored3 (.int .i64 1) (.int .i64 a) (.string ⟨#[]⟩) p0 p1 p2
  have HB : Hid (Below w.heap.size w (((w1.setCell ⟨w.heap.size, 0, none⟩ (.int .i64 1)).setCell ⟨w.heap.size, 1, none⟩ (.int .i64 a)).setCell ⟨w.heap.size, 2, none⟩ (.string ⟨#[]⟩))) := ((hB1.setCell (Nat.le_refl _) _).setCell (Nat.le_refl _) _).setCell (Nat.le_refl _) _
  clear hR1 hB1
  go_wp2
  exact bodyPost_ret (v := .tuple #[.agg #[_, _, _], _, _]) (by simp [results, Try.results43, go_sem, hgs, noBytes]) rfl ⟨rfl, HB.out⟩

set_option maxHeartbeats 1000000 in
theorem getNum_any (n : Nat) (f : Nat → Int) (p : Int) (hn : n ≤ 10000000) (hp1 : p ≤ 9223372036854775807) : ReadsV 45 n f p (rawI n f 2 p) := by
  intro b off cap w hv
  obtain ⟨a, q, ok, hg⟩ : ∃ a q ok, Hid (getV n f p = (a, q, ok)) := ⟨_, _, _, rfl⟩
  have HR : Hid (rawI n f 2 p = ⟨2, a, noBytes, q, ok⟩) := by show _ = _; unfold rawI; rw [if_neg (by decide), if_pos rfl, hg.out]
  rw [HR.out]
  have hR := Box.new w 0 0 ⟨#[]⟩
  have hb : Below w.heap.size w (w.alloc (.cells #[.int .i64 0, .int .i64 0, .string ⟨#[]⟩] 29)) := (Below.refl _ _).alloc (Nat.le_refl _) _
  have hv2 := hv.below hb
  go_enter Try.func45, Try.ntmps45
  go_wp2_with fail
  refine (getVar_impl b off n cap f p _ hg hv2 (by omega) hp1).mono ?_
  rintro e w1 ⟨rfl, hb1⟩
  have hR1 := hR.below hb1
  have hB1 : Below w.heap.size w w1 := hb.trans (hb1.mono hb.size)
  clear hv hv2 hg hR hb hb1
  obtain ⟨r0, r1, r2⟩ := hR1.frozen
  obtain ⟨p0, p1, p2⟩ := hR1.cells
  have hgs := stored3 (.int .i64 2) (.int .i64 a) (.string ⟨#[]⟩) p0 p1 p2
  have HB : Hid (Below w.heap.size w (((w1.setCell ⟨w.heap.size, 0, none⟩ (.int .i64 2)).setCell ⟨w.heap.size, 1, none⟩ (.int .i64 a)).setCell ⟨w.heap.size, 2, none⟩ (.string ⟨#[]⟩))) := ((hB1.setCell (Nat.le_refl _) _).setCell (Nat.le_refl _) _).setCell (Nat.le_refl _) _
  clear hR1 hB1
  go_wp2
  exact bodyPost_ret (v := .tuple #[.agg #[_, _, _], _, _]) (by simp [results, Try.results45, go_sem, hgs, noBytes]) rfl ⟨rfl, HB.out⟩

set_option maxHeartbeats 1000000 in
theorem getText_any (n : Nat) (f : Nat → Int) (p : Int) (hn : n ≤ 10000000) (hp1 : p ≤ 9223372036854775807) : ReadsV 47 n f p (rawI n f 3 p) := by
  intro b off cap w hv
  obtain ⟨a, q, ok, hg⟩ : ∃ a q ok, Hid (getE n f p = (a, q, ok)) := ⟨_, _, _, rfl⟩
  have HR : Hid (rawI n f 3 p = ⟨3, 0, a, q, ok⟩) := by show _ = _; unfold rawI; rw [if_neg (by decide), if_neg (by decide), if_pos rfl, hg.out]
  rw [HR.out]
  have hR := Box.new w 0 0 ⟨#[]⟩
  have hb : Below w.heap.size w (w.alloc (.cells #[.int .i64 0, .int .i64 0, .string ⟨#[]⟩] 29)) := (Below.refl _ _).alloc (Nat.le_refl _) _
  have hv2 := hv.below hb
  go_enter Try.func47, Try.ntmps47
  go_wp2_with fail
  refine (getEsc_impl _ n cap f p _ a q ok hg hv2 (by omega) hp1).mono ?_
  rintro e w1 ⟨rfl, hb1⟩
  have hR1 := hR.below hb1
  have hB1 : Below w.heap.size w w1 := hb.trans (hb1.mono hb.size)
  clear hv hv2 hg hR hb hb1
  obtain ⟨r0, r1, r2⟩ := hR1.frozen
  obtain ⟨p0, p1, p2⟩ := hR1.cells
  have hgs := stored3 (.int .i64 3) (.int .i64 0) (.string a) p0 p1 p2
  have HB : Hid (Below w.heap.size w (((w1.setCell ⟨w.heap.size, 0, none⟩ (.int .i64 3)).setCell ⟨w.heap.size, 1, none⟩ (.int .i64 0)).setCell ⟨w.heap.size, 2, none⟩ (.string a))) := ((hB1.setCell (Nat.le_refl _) _).setCell (Nat.le_refl _) _).setCell (Nat.le_refl _) _
  clear hR1 hB1
  go_wp2
  exact bodyPost_ret (v := .tuple #[.agg #[_, _, _], _, _]) (by simp [results, Try.results47, go_sem, hgs]) rfl ⟨rfl, HB.out⟩

set_option maxHeartbeats 1000000 in
theorem getBool_any (n : Nat) (f : Nat → Int) (p : Int) (hn : n ≤ 10000000) (hp1 : p ≤ 9223372036854775807) : ReadsV 49 n f p (rawI n f 4 p) := by
  intro b off cap w hv
  obtain ⟨a, q, ok, hg⟩ : ∃ a q ok, Hid (getB n f p = (a, q, ok)) := ⟨_, _, _, rfl⟩
  have HR : Hid (rawI n f 4 p = ⟨4, a, noBytes, q, ok⟩) := by show _ = _; unfold rawI; rw [if_neg (by decide), if_neg (by decide), if_neg (by decide), hg.out]
  rw [HR.out]
  have hR := Box.new w 0 0 ⟨#[]⟩
  have hb : Below w.heap.size w (w.alloc (.cells #[.int .i64 0, .int .i64 0, .string ⟨#[]⟩] 29)) := (Below.refl _ _).alloc (Nat.le_refl _) _
  have hv2 := hv.below hb
  go_enter Try.func49, Try.ntmps49
  go_wp2_with fail
  refine (getBit_any b off n cap f p _ hg hv2 (by omega) hp1).mono ?_
  rintro e w1 ⟨rfl, hb1⟩
  have hR1 := hR.below hb1
  have hB1 : Below w.heap.size w w1 := hb.trans (hb1.mono hb.size)
  clear hv hv2 hg hR hb hb1
  obtain ⟨r0, r1, r2⟩ := hR1.frozen
  obtain ⟨p0, p1, p2⟩ := hR1.cells
  have hgs := stored3 (.int .i64 4) (.int .i64 a) (.string ⟨#[]⟩) p0 p1 p2
  have HB : Hid (Below w.heap.size w (((w1.setCell ⟨w.heap.size, 0, none⟩ (.int .i64 4)).setCell ⟨w.heap.size, 1, none⟩ (.int .i64 a)).setCell ⟨w.heap.size, 2, none⟩ (.string ⟨#[]⟩))) := ((hB1.setCell (Nat.le_refl _) _).setCell (Nat.le_refl _) _).setCell (Nat.le_refl _) _
  clear hR1 hB1
  go_wp2
  exact bodyPost_ret (v := .tuple #[.agg #[_, _, _], _, _]) (by simp [results, Try.results49, go_sem, hgs, noBytes]) rfl ⟨rfl, HB.out⟩

theorem rawI_chk {n : Nat} {f : Nat → Int} {t p : Int} (ht : 1 ≤ t ∧ t ≤ 4) : (rawI n f t p).chk = getT n f t p := by
  unfold getT
  obtain rfl | rfl | rfl | rfl : t = 1 ∨ t = 2 ∨ t = 3 ∨ t = 4 := by omega
  · rfl
  · rfl
  · rfl
  · unfold rawI rawT
    rw [if_neg (by decide), if_neg (by decide), if_neg (by decide), if_neg (by decide), if_neg (by decide), if_neg (by decide)]
    unfold getB
    by_cases h : 0 ≤ p ∧ p < n
    · rw [if_pos h]
      by_cases h1 : 1 < f p.toNat
      · rw [if_pos (Or.inr (Or.inr h1))]
        have e : okF 4 (f p.toNat) noBytes = false := by rw [okF_spec4]; simp; omega
        unfold Got.chk
        simp [e]
      · rw [if_neg (by omega)]
    · rw [if_neg h, if_pos (by omega)]
end Go.Proofs.Ytbcgonfihdpjnac

/-
  What is to be read as one value of a key, case by case.
-/
namespace Go.Proofs.Ytbcgonfihdpjnac
open Go.RowKit
set_option maxRecDepth 4000

section
variable {n : Nat} {f : Nat → Int} {c t : Int} {nul d : Bool} {p : Int} {i : Nat}
theorem getP_no (h : partOk c t = false) : getP n f c t nul d p = .no := by unfold getP; rw [if_pos (Or.inl h)]
theorem getP_out (h : p < 0 ∨ (n : Int) < p) : getP n f c t nul d p = .no := by unfold getP; rw [if_pos (Or.inr h)]
theorem getP_in (h : partOk c t = true) (h0 : 0 ≤ p) (h1 : p ≤ n) : getP n f c t nul d p = getN n (turned d f) nul t p := by
  unfold getP; rw [if_neg (by rw [h]; simp; omega)]
theorem getN_no : getN n f false t p = getT n f t p := rfl
theorem getN_end : getN n f true t (n : Int) = .no := by unfold getN; simp
theorem getN_big (h : 1 < f i) : getN n f true t (i : Int) = .no := by unfold getN; rw [Int.toNat_natCast]; simp [h]
theorem getN_zero (hi : i < n) (h : f i = 0) : getN n f true t (i : Int) = ⟨0, 0, noBytes, (i : Int) + 1, true⟩ := by
  unfold getN; rw [Int.toNat_natCast, h]
  simp only [if_true]
  rw [if_neg (by omega)]
theorem getN_one (hi : i < n) (h : f i = 1) : getN n f true t (i : Int) = getT n f t ((i : Int) + 1) := by
  unfold getN; rw [Int.toNat_natCast, h]
  simp only [if_true]
  rw [if_neg (by omega), if_neg (by decide)]
end
end Go.Proofs.Ytbcgonfihdpjnac

/-
  What the program reads as one value of a key, plainly: it is what is to be read.
-/
namespace Go.Proofs.Ytbcgonfihdpjnac
open Go.RowKit
set_option maxRecDepth 4000

theorem getF_from {n : Nat} {f g : Nat → Int} {p : Int} (h : ∀ i : Nat, p ≤ i → f i = g i) : getF n f p = getF n g p := by
  unfold getF
  by_cases hp : p < 0 ∨ (n : Int) - p < 4
  · rw [if_pos hp, if_pos hp]
  · rw [if_neg hp, if_neg hp, show (fun i => f (p.toNat + i)) = (fun i => g (p.toNat + i)) from funext (fun i => h _ (by omega))]
theorem getV_from {n : Nat} {f g : Nat → Int} {p : Int} (h : ∀ i : Nat, p ≤ i → f i = g i) : getV n f p = getV n g p := by
  unfold getV
  by_cases hp : p < 0 ∨ (n : Int) ≤ p
  · rw [if_pos hp, if_pos hp]
  · have h0 : f p.toNat = g p.toNat := h _ (by omega)
    have h1 : (fun j => f (p.toNat + 1 + j)) = (fun j => g (p.toNat + 1 + j)) := funext (fun j => h _ (by omega))
    have hd : digF f p.toNat = digF g p.toNat := by unfold digF; rw [h0, h1]
    have hm : numV f p.toNat = numV g p.toNat := by unfold numV; rw [h0, hd]
    have hb : badV f p.toNat ↔ badV g p.toNat := by unfold badV; rw [h0, hd, hm]
    simp only [h0, hm, hb]
theorem getE_from {n : Nat} {f g : Nat → Int} {p : Int} (h : ∀ i : Nat, p ≤ i → f i = g i) : getE n f p = getE n g p := by
  unfold getE
  by_cases hp : p < 0
  · rw [if_pos hp, if_pos hp]
  · have e : fromL n f p.toNat = fromL n g p.toNat := by
      unfold fromL
      rw [show (fun i => f (p.toNat + i)) = (fun i => g (p.toNat + i)) from funext (fun i => h _ (by omega))]
    rw [e]
theorem getB_from {n : Nat} {f g : Nat → Int} {p : Int} (h : ∀ i : Nat, p ≤ i → f i = g i) : getB n f p = getB n g p := by
  unfold getB
  rw [h p.toNat (by omega)]
theorem rawI_from {n : Nat} {f g : Nat → Int} {t p : Int} (h : ∀ i : Nat, p ≤ i → f i = g i) : rawI n f t p = rawI n g t p := by
  unfold rawI
  rw [getF_from h, getV_from h, getE_from h, getB_from h]

theorem rawI_out {n : Nat} {f : Nat → Int} {t p : Int} (h : p < 0 ∨ (n : Int) < p) : (rawI n f t p).ok = false := by
  unfold rawI
  split
  · rw [getF_no n f p (by omega)]
  · split
    · rw [getV_out n f p (by omega)]
    · split
      · rcases h with h | h
        · rw [getE_neg n f p h]
        · obtain ⟨i, rfl⟩ : ∃ i : Nat, p = i := ⟨p.toNat, by omega⟩
          rw [getE_none (by rw [fromL_end n f i (by omega)]; rfl)]
      · unfold getB
        rw [if_pos (by omega)]

/-- What the program reads behind the part's own words: of bytes F from p on. -/
def nextI (n : Nat) (F : Nat → Int) (t : Int) (nul : Bool) (p : Int) : Got :=
  if nul then (if (getB n F p).2.2 = false then .no else if (getB n F p).1 = 0 then ⟨0, 0, noBytes, (getB n F p).2.1, true⟩ else (rawI n F t (getB n F p).2.1).chk) else (rawI n F t p).chk

theorem chk_no {g : Got} (h : g.ok = false) : g.chk = .no := by unfold Got.chk; rw [h]; rfl

theorem nextI_is {n : Nat} {f F : Nat → Int} {c t p : Int} {nul d : Bool} (hok : partOk c t = true) (ht : 1 ≤ t ∧ t ≤ 4) (hb : ∀ i, i < n → 0 ≤ f i ∧ f i ≤ 255) (hF : ∀ i : Nat, p ≤ i → F i = turned d f i) : nextI n F t nul p = getP n f c t nul d p := by
  by_cases hp : p < 0 ∨ (n : Int) < p
  · rw [getP_out hp]
    unfold nextI
    cases nul with
    | false => exact chk_no (rawI_out hp)
    | true =>
      have e : getB n F p = (0, 0, false) := by unfold getB; rw [if_pos (by omega)]
      simp [e]
  · rw [getP_in hok (by omega) (by omega)]
    obtain ⟨i, rfl⟩ : ∃ i : Nat, p = i := ⟨p.toNat, by omega⟩
    cases nul with
    | false =>
      rw [getN_no]
      show (rawI n F t (i : Int)).chk = _
      rw [rawI_from hF, rawI_chk ht]
    | true =>
      by_cases hn : i = n
      · subst hn
        rw [getN_end]
        have e : getB i F (i : Int) = (0, 0, false) := by unfold getB; rw [if_pos (by omega)]
        unfold nextI
        simp [e]
      · have hi : i < n := by omega
        have hG := hF i (Int.le_refl _)
        have hby : 0 ≤ turned d f i := by have := hb i hi; unfold turned; split <;> simp <;> omega
        by_cases h1 : 1 < turned d f i
        · rw [getN_big h1]
          have e : getB n F (i : Int) = (0, 0, false) := by unfold getB; rw [Int.toNat_natCast, hG, if_pos (Or.inr (Or.inr h1))]
          unfold nextI
          simp [e]
        · have e : getB n F (i : Int) = (turned d f i, (i : Int) + 1, true) := by unfold getB; rw [Int.toNat_natCast, hG, if_neg (by omega)]
          by_cases h0 : turned d f i = 0
          · rw [getN_zero hi h0]
            unfold nextI
            simp [e, h0]
          · rw [getN_one hi (by omega)]
            unfold nextI
            simp only [e, h0, if_true, if_false, Bool.true_eq_false]
            rw [rawI_from (fun j hj => hF j (by omega)), rawI_chk ht]
end Go.Proofs.Ytbcgonfihdpjnac

