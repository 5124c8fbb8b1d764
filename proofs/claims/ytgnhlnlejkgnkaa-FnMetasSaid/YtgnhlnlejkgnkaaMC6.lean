/-
  Together: OwnLo, PageOwn, Draw, DrawBut, DrawInt, DrawList, DrawIntMem, DrawOnce, DrawBytes, DrawCore, DrawBend
-/
import Derived.Test.YtgnhlnlejkgnkaaMC1
import Derived.Test.YtgnhlnlejkgnkaaProg
import Derived.Test.YtgnhlnlejkgnkaaMC3
import Derived.WalkSpells
import Derived.Test.YtgnhlnlejkgnkaaMC5
import Derived.Deep.RegionWith
/-
  A row of the call's own is one above every lower bound.
-/
namespace Go.Proofs.Ytgnhlnlejkgnkaa
open Go.RowKit
set_option maxRecDepth 4000

theorem own_loK {W : World} {base base' T c N : Nat} {v : Value} {xs : List Value} (h : W.ownsRow base T c v N xs) (hB : base' ≤ base) : W.ownsRow base' T c v N xs := by
  refine ⟨h.1, ?_⟩
  rcases h.2 with h0 | ⟨g, cap, cur, e, hb, hr⟩
  · exact .inl h0
  · exact .inr ⟨g, cap, cur, e, Nat.le_trans hB hb, hr⟩
end Go.Proofs.Ytgnhlnlejkgnkaa

/-
  The model's PutPage: the bytes are the call's own.
-/
namespace Go.Proofs.Ytgnhlnlejkgnkaa
open Go.RowKit
set_option maxRecDepth 4000

set_option maxHeartbeats 1000000 in
theorem putPage_own (b off n cap : Nat) (f : Nat → Int) (k : Int) (w : World) (hv : View w (some ⟨b, off, none⟩) n cap f) (hk : k = 1 ∨ k = 2) (hl : n ≤ 240) :
    Calls Try.prog 27 #[.int .i64 k, .slice (some ⟨b, off, none⟩) n cap] w fun e w' => ∃ v, e = .returned v ∧ w'.ownsRow w.heap.size 5 1 v (pageF k (strOfNums (lof n f))).length (bl (pageF k (strOfNums (lof n f)))) ∧ Below w.heap.size w w' := by
  have hk0 : -9223372036854775808 ≤ k := by omega
  have hk1 : k ≤ 9223372036854775807 := by omega
  have hsz : (strOfNums (lof n f)).size = n := by rw [str_size, lof_len]
  have HQ : Hid (∀ W, Below w.heap.size w W → (convert 28 9 (.slice (some ⟨b, off, none⟩) n cap)).run Try.prog W = .ok (.string (strOfNums (lof n f))) W) := fun W hb => conv_view (hv.below hb)
  obtain ⟨s, hs⟩ : ∃ s, Hid (strOfNums (lof n f) = s) := ⟨_, rfl⟩
  rw [hs.out] at hsz HQ ⊢
  have hV := fun W => l1In_yes k 1 2 W (by omega) (by omega)
  have hz : ¬ (240 : Int) < n := by omega
  have hq0 := HQ.out w.drew (Below.refl _ _).drew
  have hq0b := HQ.out (w.alloc (.cells #[] 5)).drew ((Below.refl _ _).alloc (Nat.le_refl _) _).drew
  obtain ⟨N1, hN1⟩ : ∃ N1, Hid (N1 = (groups (clampN k)).length) := ⟨_, rfl⟩
  obtain ⟨F1, hF1⟩ : ∃ F1 : Nat → Int, Hid (F1 = fun i => (groups (clampN k)).getD i 0) := ⟨_, rfl⟩
  obtain ⟨N2, hN2⟩ : ∃ N2, Hid (N2 = N1 + (groups (clampN s.size)).length + s.size) := ⟨_, rfl⟩
  obtain ⟨F2, hF2⟩ : ∃ F2 : Nat → Int, Hid (F2 = fun i => (textL N1 F1 s).getD i 0) := ⟨_, rfl⟩
  have HP := page_steps (k := k) (s := s) hk (by omega) hN1.out hF1.out hN2.out hF2.out
  obtain ⟨L, hL⟩ : ∃ L, Hid (pageF k s = L) := ⟨_, rfl⟩
  rw [hL.out] at HP ⊢
  have hl1 : N1 ≤ 3 := by rw [hN1.out]; exact (groups_len _).2
  have hl2 : N2 ≤ 2000000 := by rw [hN2.out]; have := (groups_len (clampN s.size)).2; omega
  have hl3 : N2 + 4 = L.length := HP.2
  have HB1 : Hid (∀ i, i < N1 → 0 ≤ F1 i ∧ F1 i ≤ 255) := by
    show ∀ i, _
    rw [hN1.out, hF1.out]
    exact bytes_of_list (groups_byte _ (clampN_bd _).1 (clampN_bd _).2)
  have HB2 : Hid (∀ i, i < N2 → 0 ≤ F2 i ∧ F2 i ≤ 255) := by
    show ∀ i, _
    have hlt : (textL N1 F1 s).length = N2 := by rw [textL_len, hN2.out]
    rw [← hlt, hF2.out]
    refine bytes_of_list (fun y hy => ?_)
    unfold textL at hy
    rcases List.mem_append.1 hy with h | h
    · rcases List.mem_append.1 h with h | h
      · exact lof_byteS HB1.out y h
      · exact groups_byte _ (clampN_bd _).1 (clampN_bd _).2 y h
    · exact sl_byte s y h
  have hT : ∀ (g c : Nat) (W : World), Row 5 W g N1 F1 → N1 ≤ c → Calls Try.prog 43 #[.slice (some ⟨g, 0, none⟩) N1 c, .string s] W fun e w' => ∃ g' c', e = .returned (.slice (some ⟨g', 0, none⟩) N2 c') ∧ W.heap.size ≤ g' ∧ N2 ≤ c' ∧ Row 5 w' g' N2 F2 ∧ Below W.heap.size W w' := by
    intro g c W hr hc
    have := putText_spec g 0 N1 c F1 s W (hr.view hc HB1.out) (by omega) (by omega)
    rw [← hN2.out, ← hF2.out] at this
    exact this
  have hS : ∀ (g c : Nat) (W : World), Row 5 W g N2 F2 → N2 ≤ c → Calls Try.prog 42 #[.slice (some ⟨g, 0, none⟩) N2 c] W fun e w' => ∃ v, e = .returned v ∧ w'.ownsRow W.heap.size 5 1 v L.length (bl L) ∧ Below W.heap.size W w' := by
    intro g c W hr hc
    have := putSum_own g 0 N2 c F2 W (hr.view hc HB2.out) (by omega)
    rw [HP.1, HP.2] at this
    exact this
  have hU : ∀ (g : Nat) (W : World), Calls Try.prog 28 #[.slice (some ⟨g, 0, none⟩) 0 0, .int .i64 k] W fun e w' => ∃ g c, e = .returned (.slice (some ⟨g, 0, none⟩) N1 c) ∧ W.heap.size ≤ g ∧ N1 ≤ c ∧ Row 5 w' g N1 F1 ∧ Below W.heap.size W w' := by
    intro g W
    refine (putU_spec g 0 0 0 (fun _ => 0) k W ⟨Nat.le_refl _, fun _ hi => absurd hi (Nat.not_lt_zero _), fun h => absurd h (Nat.lt_irrefl _)⟩ (by omega) hk0 hk1).mono ?_
    rintro e w' ⟨v, rfl, hown, hb⟩
    rw [Nat.zero_add, show lof 0 (fun _ => (0 : Int)) = [] from rfl, List.nil_append, ← hN1.out] at hown
    obtain ⟨g', c', rfl, hg', hgc', hrow⟩ := row_of_own hown (by rw [hN1.out]; exact (groups_len _).1)
    rw [← hF1.out] at hrow
    exact ⟨g', c', rfl, hg', hgc', hrow, hb⟩
  clear HB1 HB2 hN1 hF1 hN2 hF2 HP
  go_enter Try.func27, Try.ntmps27
  go_wp2_with fail
  refine (hV _).mono ?_
  rintro e _ ⟨rfl, rfl⟩
  clear hV
  go_wp2_with fail
  go_region_held3 (fun W => (convert 28 9 (.slice (some ⟨b, off, none⟩) n cap)).run Try.prog W = .ok (.string s) W) (first | assumption | go_keep) (first
    | (go_at_call 28; refine (hU _ _).mono ?_; rintro e w1 ⟨g1, c1, rfl, hg1, hc1, hr1, hb1⟩; have hb1' : Hid (Below w.heap.size w w1) := Below.trans (by repeat (first | exact Below.refl _ _ | exact (Below.refl _ _).drew.alloc (by simp) _ | refine Below.drew ?_)) (hb1.mono (by simp)); have hq1 := HQ.out w1 hb1'.out)
    | (go_at_call 43; refine (hT g1 c1 _ (by first | exact hr1 | exact hr1.belowAll (Below.refl _ _).drew) hc1).mono ?_; rintro e w2 ⟨g2, c2, rfl, hg2, hc2, hr2, hb2⟩; have hb2' : Hid (Below w.heap.size w w2) := Below.trans (by repeat (first | exact hb1'.out | refine Below.drew ?_)) (hb2.mono (by have := hb1'.out.size; simpa using this)); have hq2 := HQ.out w2 hb2'.out)
    | (go_at_call 42; refine (hS g2 c2 _ (by first | exact hr2 | exact hr2.belowAll (Below.refl _ _).drew) hc2).mono ?_; rintro e w3 ⟨v3, rfl, hO3, hb3⟩; have hb3' : Hid (Below w.heap.size w w3) := Below.trans (by repeat (first | exact hb2'.out | refine Below.drew ?_)) (hb3.mono (by have := hb2'.out.size; simpa using this)); have hq3 := HQ.out w3 hb3'.out))
  go_wp2
  go_ret
  exact ⟨_, rfl, own_loK hO3 (Nat.le_trans hb2'.out.size (by simp)), hb3'.out⟩
end Go.Proofs.Ytgnhlnlejkgnkaa

/-
  The cursor that the draws go by: what each draw comes to, as far as a law leans on it: a number within its bounds, bytes of their own; nothing turns but the cursor.
-/
namespace Go.Proofs.Ytgnhlnlejkgnkaa
open Go.RowKit
set_option maxRecDepth 4000

theorem i64_and255 (n : Int) : bits .and .i64 n 255 = n % 256 := by
  have h255 : (BitVec.ofInt 64 255).toNat = 2 ^ 8 - 1 := by decide
  have key : (BitVec.ofInt 64 n &&& BitVec.ofInt 64 255).toNat = (n % ((2 ^ 64 : Nat) : Int)).toNat % 2 ^ 8 := by
    rw [BitVec.toNat_and, BitVec.toNat_ofInt, h255, Nat.and_two_pow_sub_one_eq_mod]
  show IntKind.i64.wrap ((BitVec.ofInt 64 n &&& BitVec.ofInt 64 255).toNat : Nat) = n % 256
  rw [key, IntKind.wrap_i64]
  omega

theorem Only.trans {b : Nat} {w w1 w2 : World} (h : Only b w w1) (k : Only b w1 w2) : Only b w w2 :=
  ⟨k.os.trans h.os, k.tape.trans h.tape, k.output.trans h.output, k.size.trans h.size, fun i hi => (k.block i hi).trans (h.block i hi)⟩

/-- The three cells of a cursor. -/
def curF (ao : Option Addr) (n cap : Nat) (i h : Int) : Nat → Value
  | 0 => .slice ao n cap
  | 1 => .int .i64 i
  | _ => .int .i64 h

structure Cur (w : World) (g : Nat) (ao : Option Addr) (n cap : Nat) (f : Nat → Int) : Prop where
  cells : ∃ i h : Int, w.rowIs g 63 3 (curF ao n cap i h) ∧ 0 ≤ i ∧ i ≤ n
  view : View w ao n cap f
  apart : ∀ a, ao = some a → 0 < n → a.block ≠ g

theorem Cur.lt {w : World} {g : Nat} {ao : Option Addr} {n cap : Nat} {f : Nat → Int} (h : Cur w g ao n cap f) : g < w.heap.size := by
  obtain ⟨i, k, hr, _⟩ := h.cells
  exact hr.lt

theorem Cur.below {w w' : World} {g : Nat} {ao : Option Addr} {n cap : Nat} {f : Nat → Int} (h : Cur w g ao n cap f) (hb : Below w.heap.size w w') : Cur w' g ao n cap f := by
  obtain ⟨i, k, hr, h0, h1⟩ := h.cells
  exact ⟨⟨i, k, hr.of_block (hb.block g hr.lt), h0, h1⟩, h.view.below hb, h.apart⟩

set_option maxHeartbeats 2000000 in
theorem l1Byte_any (g : Nat) (ao : Option Addr) (n cap : Nat) (f : Nat → Int) (w : World) (hn : n ≤ 1048576) (hC : Cur w g ao n cap f) :
    Calls Try.prog 58 #[.pointer (some ⟨g, 0, none⟩)] w fun e w' => ∃ x : Int, e = .returned (.int .i64 x) ∧ 0 ≤ x ∧ x ≤ 255 ∧ Cur w' g ao n cap f ∧ Only g w w' := by
  obtain ⟨i, h, hr, hi0, hi1⟩ := hC.cells
  have c0 : w.cell? ⟨g, 0, none⟩ = some (.slice ao n cap) := hr.cell (by decide)
  have c1 : w.cell? ⟨g, 1, none⟩ = some (.int .i64 i) := hr.cell (by decide)
  have c2 : w.cell? ⟨g, 2, none⟩ = some (.int .i64 h) := hr.cell (by decide)
  have z1 := hr.frozen 1
  have z2 := hr.frozen 2
  have hA : ∀ z : Int, bits .and .i64 z 255 = z % 256 := i64_and255
  by_cases hlt : i < n
  · have hv := hC.view
    obtain ⟨b, off, rfl, hb, hc⟩ := hv.cells (by omega)
    have hne : b ≠ g := hC.apart _ rfl (by omega)
    obtain ⟨k, rfl⟩ := Int.eq_ofNat_of_zero_le hi0
    have hbk := hv.byte k (by omega)
    have hck := hc k (by omega)
    clear hc
    go_enter Try.func58, Try.ntmps58
    go_wp2
    go_region
    all_goals go_wp2
    all_goals go_region
    all_goals go_wp2
    all_goals go_region
    all_goals go_wp2
    go_ret
    have hO : Only g w ((w.setCell ⟨g, 2, none⟩ (.int .i64 (wrap64 (wrap64 (h * 6364136223846793005) + 1442695040888963407)))).setCell ⟨g, 1, none⟩ (.int .i64 ((k : Int) + 1))) := ((Only.refl _ _).setCell _).setCell _
    have hR := ((hr.set 2 (.int .i64 (wrap64 (wrap64 (h * 6364136223846793005) + 1442695040888963407)))).set 1 (.int .i64 ((k : Int) + 1))).congr (g := curF (some ⟨b, off, none⟩) n cap ((k : Int) + 1) (wrap64 (wrap64 (h * 6364136223846793005) + 1442695040888963407)))
      (fun j hj => by match j, hj with | 0, _ => rfl | 1, _ => rfl | 2, _ => rfl)
    exact ⟨_, rfl, by omega, by omega, ⟨⟨_, _, hR, by omega, by omega⟩, (hO.view hv (fun a ha => hC.apart a ha (by omega))).drew.drew.drew, hC.apart⟩, hO.os, hO.tape, hO.output, hO.size, hO.block⟩
  · go_enter Try.func58, Try.ntmps58
    go_wp2
    go_region
    all_goals go_wp2
    all_goals go_region
    all_goals go_wp2
    go_ret
    have hO : Only g w (w.setCell ⟨g, 2, none⟩ (.int .i64 (wrap64 (wrap64 (h * 6364136223846793005) + 1442695040888963407)))) := (Only.refl _ _).setCell _
    have hR := (hr.set 2 (.int .i64 (wrap64 (wrap64 (h * 6364136223846793005) + 1442695040888963407)))).congr (g := curF ao n cap i (wrap64 (wrap64 (h * 6364136223846793005) + 1442695040888963407)))
      (fun j hj => by match j, hj with | 0, _ => rfl | 1, _ => rfl | 2, _ => rfl)
    have hV : View (w.setCell ⟨g, 2, none⟩ (.int .i64 (wrap64 (wrap64 (h * 6364136223846793005) + 1442695040888963407)))) ao n cap f := by
      by_cases h0 : 0 < n
      · exact hO.view hC.view (fun a ha => hC.apart a ha h0)
      · exact ⟨hC.view.le, hC.view.byte, fun h => absurd h h0⟩
    exact ⟨_, rfl, by omega, by omega, ⟨⟨_, _, hR, hi0, hi1⟩, hV.drew.drew, hC.apart⟩, hO.os, hO.tape, hO.output, hO.size, hO.block⟩

set_option maxHeartbeats 1000000 in
theorem l1Below_any (g : Nat) (ao : Option Addr) (n cap : Nat) (f : Nat → Int) (m : Int) (w : World) (hn : n ≤ 1048576) (hm : 0 < m) (hm1 : m ≤ 16777216) (hC : Cur w g ao n cap f) :
    Calls Try.prog 53 #[.pointer (some ⟨g, 0, none⟩), .int .i64 m] w fun e w' => ∃ x : Int, e = .returned (.int .i64 x) ∧ 0 ≤ x ∧ x < m ∧ Cur w' g ao n cap f ∧ Only g w w' := by
  by_cases h256 : m ≤ 256
  · go_enter Try.func53, Try.ntmps53
    go_wp2_with fail
    refine (l1Byte_any g ao n cap f w hn hC).mono ?_
    rintro e w1 ⟨x, rfl, hx0, hx1, hC1, hO1⟩
    go_wp2
    go_ret
    exact ⟨_, rfl, Int.emod_nonneg _ (by omega), Int.emod_lt_of_pos _ hm, hC1, hO1⟩
  · go_enter Try.func53, Try.ntmps53
    go_wp2_with fail
    refine (l1Byte_any g ao n cap f w hn hC).mono ?_
    rintro e w1 ⟨x, rfl, hx0, hx1, hC1, hO1⟩
    go_wp2_with fail
    refine (l1Byte_any g ao n cap f w1 hn hC1).mono ?_
    rintro e w2 ⟨y, rfl, hy0, hy1, hC2, hO2⟩
    go_wp2_with fail
    refine (l1Byte_any g ao n cap f w2 hn hC2).mono ?_
    rintro e w3 ⟨z, rfl, hz0, hz1, hC3, hO3⟩
    go_wp2
    go_ret
    exact ⟨_, rfl, Int.emod_nonneg _ (by omega), Int.emod_lt_of_pos _ hm, hC3, (hO1.trans hO2).trans hO3⟩

set_option maxHeartbeats 1000000 in
theorem l1New_any (ao : Option Addr) (n cap : Nat) (f : Nat → Int) (w : World) (hn : n ≤ 1048576) (hv : View w ao n cap f) :
    Calls Try.prog 36 #[.slice ao n cap] w fun e w' => e = .returned (.pointer (some ⟨w.heap.size, 0, none⟩)) ∧ Cur w' w.heap.size ao n cap f ∧ Below w.heap.size w w' := by
  go_enter Try.func36, Try.ntmps36
  go_wp2
  go_loopg [3, 4] n (fun q s i wr => w = wr ∧ ∃ (k : Nat) (h : Int), k ≤ n ∧ q = n - k ∧ s = .int .i64 h ∧ i = .int .i64 k)
  case atStart => exact ⟨rfl, 0, _, Nat.zero_le _, rfl, rfl, rfl⟩
  case round =>
    obtain ⟨rfl, k, h, hk, rfl, rfl, rfl⟩ := hrel
    by_cases hlt : k < n
    · obtain ⟨b, off, rfl, hb, hc⟩ := hv.cells (by omega)
      have hkz : (k : Int) < (n : Int) := by omega
      have hc1 := hc k hlt
      have hbk := hv.byte k hlt
      by_cases h4 : k < 4000
      · have hz4 : (k : Int) < 4000 := by omega
        clear hc
        go_wp2
        go_roundg (n - (k + 1))
        case measure => omega
        case rel => exact ⟨rfl, k + 1, _, by omega, rfl, rfl, by go_num⟩
      · have hz4 : ¬ (k : Int) < 4000 := by omega
        clear h4
        clear hc
        go_wp2
        go_ret
        refine ⟨rfl, ⟨⟨0, _, World.rowIs_alloc w _ 63 (curF (some ⟨b, off, none⟩) n cap 0 h) (fun j hj => ?_), by omega, by omega⟩, hv.below ((Below.refl _ _).alloc (Nat.le_refl _) _), fun a ha _ => ?_⟩, (Below.refl _ _).alloc (Nat.le_refl _) _⟩
        · match j, hj with | 0, _ => rfl | 1, _ => rfl | 2, _ => rfl
        · cases ha; show b ≠ w.heap.size; omega
    · have hkz : (n : Int) ≤ (k : Int) := by omega
      go_wp2
      go_ret
      refine ⟨rfl, ⟨⟨0, _, World.rowIs_alloc w _ 63 (curF ao n cap 0 h) (fun j hj => ?_), by omega, by omega⟩, hv.below ((Below.refl _ _).alloc (Nat.le_refl _) _), fun a ha h0 => ?_⟩, (Below.refl _ _).alloc (Nat.le_refl _) _⟩
      · match j, hj with | 0, _ => rfl | 1, _ => rfl | 2, _ => rfl
      · obtain ⟨b, off, e, hb, _⟩ := hv.cells h0
        rw [e] at ha; cases ha; show b ≠ w.heap.size; omega
end Go.Proofs.Ytgnhlnlejkgnkaa

/-
  What turns but the cursor: how it is carried.
-/
namespace Go.Proofs.Ytgnhlnlejkgnkaa
open Go.RowKit
set_option maxRecDepth 4000

theorem Cur.grown {w w' : World} {g : Nat} {ao : Option Addr} {n cap : Nat} {f : Nat → Int} {row : Option Nat} (h : Cur w g ao n cap f) (hg : w.grownBy w' row) (h1 : row ≠ some g) (h2 : ∀ a, ao = some a → 0 < n → row ≠ some a.block) : Cur w' g ao n cap f := by
  obtain ⟨i, k, hr, h0, hi⟩ := h.cells
  refine ⟨⟨i, k, hr.of_block (hg.block g hr.lt (fun e => h1 e.symm)), h0, hi⟩, ⟨h.view.le, h.view.byte, fun hn => ?_⟩, h.apart⟩
  obtain ⟨b', off, e, hlt, hc⟩ := h.view.cells hn
  refine ⟨b', off, e, Nat.lt_of_lt_of_le hlt hg.size, fun j hj => ?_⟩
  rw [World.cell?_of_block (w := w) (hg.block b' hlt (fun e' => h2 _ e hn e'.symm))]
  exact hc j hj
theorem Cur.code {w : World} {g : Nat} {ao : Option Addr} {n cap : Nat} {f : Nat → Int} (h : Cur w g ao n cap f) : ∀ a, ao = some a → 0 < n → a.block < w.heap.size := by
  rintro a rfl hn
  obtain ⟨b, off, e, hlt, _⟩ := h.view.cells hn
  cases e
  exact hlt

end Go.Proofs.Ytgnhlnlejkgnkaa

/-
  One of a row of numbers, as it is drawn.
-/
namespace Go.Proofs.Ytgnhlnlejkgnkaa
open Go.RowKit
set_option maxRecDepth 4000

set_option maxHeartbeats 1000000 in
theorem l1Int_any (g : Nat) (ao : Option Addr) (n cap : Nat) (f : Nat → Int) (b m : Nat) (z : Nat → Int) (w : World) (hn : n ≤ 1048576) (hm : 0 < m) (hm1 : m ≤ 16777216) (hz : ∀ i, i < m → w.cell? ⟨b, i, none⟩ = some (.int .i64 (z i))) (hbg : b ≠ g) (hC : Cur w g ao n cap f) :
    Calls Try.prog 54 #[.pointer (some ⟨g, 0, none⟩), .slice (some ⟨b, 0, none⟩) m m] w fun e w' => ∃ j : Nat, j < m ∧ e = .returned (.int .i64 (z j)) ∧ Cur w' g ao n cap f ∧ Only g w w' := by
  go_enter Try.func54, Try.ntmps54
  go_wp2_with fail
  refine (l1Below_any g ao n cap f m w hn (by omega) (by omega) hC).mono ?_
  rintro e w1 ⟨x, rfl, hx0, hx1, hC1, hO1⟩
  obtain ⟨j, rfl⟩ := Int.eq_ofNat_of_zero_le hx0
  have hj : w1.cell? ⟨b, j, none⟩ = some (.int .i64 (z j)) := by
    rw [World.cell?_of_block (w := w) (hO1.block b hbg)]; exact hz j (by omega)
  go_wp2
  go_ret
  exact ⟨j, by omega, rfl, hC1, hO1⟩
end Go.Proofs.Ytgnhlnlejkgnkaa

/-
  Lists that are drawn of.
-/
namespace Go.Proofs.Ytgnhlnlejkgnkaa
open Go.RowKit
set_option maxRecDepth 4000

/-- The cells of a list of numbers that is laid anew. -/
theorem newInts (w : World) (l : List Int) (t : TypeId) : ∀ i, i < l.length → (w.alloc (.cells (l.map (Value.int .i64)).toArray t)).cell? ⟨w.heap.size, i, none⟩ = some (.int .i64 (l.getD i 0)) := by
  intro i hi
  rw [World.cell?, show (w.alloc (.cells (l.map (Value.int .i64)).toArray t)).heap[w.heap.size]? = some (.cells (l.map (Value.int .i64)).toArray t) from Deep.blk_alloc_new _ _]
  simp [hi]

theorem getD_mem {l : List Int} {j : Nat} (h : j < l.length) : l.getD j 0 ∈ l := by
  simp [h]

theorem Cur.drew {w : World} {g : Nat} {ao : Option Addr} {n cap : Nat} {f : Nat → Int} (h : Cur w g ao n cap f) : Cur w.drew g ao n cap f := h.below (Below.refl _ _).drew
end Go.Proofs.Ytgnhlnlejkgnkaa

/-
  One of a list of numbers that is laid anew.
-/
namespace Go.Proofs.Ytgnhlnlejkgnkaa
open Go.RowKit
set_option maxRecDepth 4000

theorem l1Int_mem (g : Nat) (ao : Option Addr) (n cap : Nat) (f : Nat → Int) (l : List Int) (A : Nat) (w : World) (hA : A = w.heap.size) (hn : n ≤ 1048576) (h0 : 0 < l.length) (h1 : l.length ≤ 1000) (hC : Cur w g ao n cap f) :
    Calls Try.prog 54 #[.pointer (some ⟨g, 0, none⟩), .slice (some ⟨A, 0, none⟩) l.length l.length] (w.alloc (.cells (l.map (Value.int .i64)).toArray 3)) fun e w' => ∃ z : Int, e = .returned (.int .i64 z) ∧ z ∈ l ∧ Cur w' g ao n cap f ∧ But g w w' := by
  subst hA
  have hb : Below w.heap.size w (w.alloc (.cells (l.map (Value.int .i64)).toArray 3)) := (Below.refl _ _).alloc (Nat.le_refl _) _
  have hg := hC.lt
  refine (l1Int_any g ao n cap f w.heap.size l.length (fun i => l.getD i 0) _ hn h0 (by omega) (newInts w l 3) (by omega) (hC.below hb)).mono ?_
  rintro e w' ⟨j, hj, rfl, hC2, hO2⟩
  exact ⟨_, rfl, getD_mem hj, hC2, (But.ofBelow hb).trans (But.ofOnly hO2)⟩
end Go.Proofs.Ytgnhlnlejkgnkaa

/-
  A draw of yes or no.
-/
namespace Go.Proofs.Ytgnhlnlejkgnkaa
open Go.RowKit
set_option maxRecDepth 4000

set_option maxHeartbeats 1000000 in
theorem l1Once_any (g : Nat) (ao : Option Addr) (n cap : Nat) (f : Nat → Int) (m : Int) (w : World) (hn : n ≤ 1048576) (hm : 0 < m) (hm1 : m ≤ 16777216) (hC : Cur w g ao n cap f) :
    Calls Try.prog 38 #[.pointer (some ⟨g, 0, none⟩), .int .i64 m] w fun e w' => ∃ b : Bool, e = .returned (.bool b) ∧ Cur w' g ao n cap f ∧ Only g w w' := by
  go_enter Try.func38, Try.ntmps38
  go_wp2_with fail
  refine (l1Below_any g ao n cap f m w hn hm hm1 hC).mono ?_
  rintro e w1 ⟨x, rfl, hx0, hx1, hC1, hO1⟩
  go_wp2
  go_ret
  exact ⟨_, rfl, hC1, hO1⟩
end Go.Proofs.Ytgnhlnlejkgnkaa

/-
  Drawn bytes: as many as asked, in memory of their own; nothing that was there turns but the cursor.
-/
namespace Go.Proofs.Ytgnhlnlejkgnkaa
open Go.RowKit
set_option maxRecDepth 4000

set_option maxHeartbeats 2000000 in
theorem l1Bytes_any (g : Nat) (ao : Option Addr) (n cap : Nat) (f : Nat → Int) (m : Nat) (w : World) (hn : n ≤ 1048576) (hm : m ≤ 1048576) (hC : Cur w g ao n cap f) :
    Calls Try.prog 55 #[.pointer (some ⟨g, 0, none⟩), .int .i64 (m : Int)] w fun e w' => ∃ (b c : Nat) (l : List Int), e = .returned (.slice (some ⟨b, 0, none⟩) m c) ∧ l.length = m ∧ (∀ y ∈ l, 0 ≤ y ∧ y ≤ 255) ∧ w.heap.size ≤ b ∧ m ≤ c ∧ Row 5 w' b m (fun i => l.getD i 0) ∧ Cur w' g ao n cap f ∧ But g w w' := by
  obtain ⟨i0, hi, hz0, hz1, hz2⟩ := info_parts Try.info5
  have hown0 := World.ownsRow_lit (base := w.heap.size) (e := 5) (size := 1) w #[] 0 (Nat.le_refl _) (Nat.zero_le _) rfl
  have hb0 : Below w.heap.size w (w.alloc (.cells #[] 5)) := (Below.refl _ _).alloc (Nat.le_refl _) _
  have hgl := hC.lt
  have HC : Hid (∀ a, ao = some a → 0 < n → a.block < w.heap.size) := hC.code
  go_enter Try.func55, Try.ntmps55
  go_wp2
  go_loopg [5, 6] m (fun q v i wr => ∃ (k : Nat) (l : List Int), k ≤ m ∧ q = m - k ∧ i = .int .i64 k ∧ l.length = k ∧ (∀ y ∈ l, 0 ≤ y ∧ y ≤ 255) ∧ wr.ownsRow w.heap.size 5 1 v k (bl l) ∧ v ≠ .slice none 0 0 ∧ Cur wr g ao n cap f ∧ But g w wr)
  case atStart => exact ⟨0, [], Nat.zero_le _, rfl, rfl, rfl, (by intro y hy; cases hy), hown0, (by intro h; cases h), hC.below hb0, But.ofBelow hb0⟩
  case round =>
    obtain ⟨k, l, hk, rfl, rfl, hl, hby, hown, hv, hCr, hB⟩ := hrel
    clear hown0 hb0
    have HV : Hid (u5 ≠ .slice none 0 0) := hv
    have HY : Hid (∀ y ∈ l, 0 ≤ y ∧ y ≤ 255) := hby
    have HL : Hid (l.length = k) := hl
    clear hv hby hl
    by_cases hlt : k < m
    · have hkz : (k : Int) < (m : Int) := by omega
      go_wp2_with fail
      refine (l1Byte_any g ao n cap f wr hn hCr).mono ?_
      rintro e w1 ⟨x, rfl, hx0, hx1, hC1, hO1⟩
      have hown1 := hown.kept hO1.grown (Or.inr (fun e => by have := (hown.lt g e).1; omega))
      have hs1 : w.heap.size ≤ w1.heap.size := by rw [hO1.size]; exact hB.size
      go_wp2_with (at_builtin; go_must (refine wpList_append_own _ rfl (.tmp 13) (.tmp 17) 28 rfl w.heap.size 5 i0 (.int .u8 0) 1 1 Try.underlying28 hi hz0 hz1 hz2 rfl (by decide) u5 _ _ rfl (hown1.alloc _) ⟨w1.heap.size, 0, none⟩ 1 1 [.int .u8 x] rfl rfl (cellNew _ _ _) (bl_one [x]) (by unfold maxLen; omega) (by omega) (by simp; omega) ?_); intro v2 w2 hown2 hgr2 hnil)
      have hb2 : Below w1.heap.size w1 (w1.alloc (.cells #[.int .u8 x] 5)) := (Below.refl _ _).alloc (Nat.le_refl _) _
      have hB1 : But g w w1 := hB.trans (But.ofOnly hO1)
      have hB2 : But g w w2 := by
        refine ⟨hgr2.os.trans hB1.os, hgr2.tape.trans hB1.tape, hgr2.output.trans hB1.output, Nat.le_trans hs1 (Nat.le_trans (by simp) hgr2.size), fun j hj hg => ?_⟩
        rw [hgr2.block j (by simp; omega) (fun e => by have := (hown.lt j e.symm).1; omega), Below.heap_alloc _ _ _ (by omega)]
        exact hB1.block j hj hg
      have hC2 : Cur w2 g ao n cap f := (hC1.below hb2).grown hgr2 (fun e => by have := (hown.lt g e).1; omega) (fun a ha h0 e => by have := (hown.lt _ e).1; have := HC.out a ha h0; omega)
      have hO2 : w2.ownsRow w.heap.size 5 1 v2 (k + 1) (bl (l ++ [x])) := by rw [bl_append]; exact hown2
      have HV2 : Hid (v2 ≠ .slice none 0 0) := fun e => HV.out (hnil.1 e).1
      have HY2 : Hid (∀ y ∈ l ++ [x], 0 ≤ y ∧ y ≤ 255) := by
        intro y hy
        rcases List.mem_append.1 hy with hy | hy
        · exact HY.out y hy
        · simp at hy; omega
      have HL2 : Hid ((l ++ [x]).length = k + 1) := by show (l ++ [x]).length = k + 1; rw [List.length_append, HL.out]; rfl
      clear hgr2 hnil hown hown1 hown2 hB hB1 hC1 hCr hO1 hb2
      go_wp2
      go_roundg (m - (k + 1))
      case measure => omega
      case rel => exact ⟨k + 1, l ++ [x], by omega, rfl, by go_num, HL2.out, HY2.out, hO2, HV2.out, hC2, hB2⟩
    · obtain rfl : k = m := by omega
      obtain ⟨b, c, hv5, hb, hc, hrow⟩ := row_of_own' hown HV.out
      clear hown HV
      rw [hv5]
      clear hv5
      go_wp2
      go_ret
      exact ⟨b, c, l, rfl, HL.out, HY.out, hb, hc, hrow, hCr, hB⟩
end Go.Proofs.Ytgnhlnlejkgnkaa

/-
  The draws of layer 1, as far as a law leans on them.
-/
namespace Go.Proofs.Ytgnhlnlejkgnkaa
open Go.RowKit
set_option maxRecDepth 4000

/-- Drawn bytes in memory of their own. -/
structure Drawn (w w' : World) (g : Nat) (e : Ending) (m b c : Nat) (l : List Int) : Prop where
  ret : e = .returned (.slice (some ⟨b, 0, none⟩) m c)
  len : l.length = m
  byte : ∀ y ∈ l, 0 ≤ y ∧ y ≤ 255
  new : w.heap.size ≤ b
  le : m ≤ c
  row : Row 5 w' b m (fun i => l.getD i 0)
  few : m ≤ 9

set_option maxHeartbeats 2000000 in
theorem l1Some_any (g : Nat) (ao : Option Addr) (n cap : Nat) (f : Nat → Int) (w : World) (hn : n ≤ 1048576) (hC : Cur w g ao n cap f) :
    Calls Try.prog 39 #[.pointer (some ⟨g, 0, none⟩)] w fun e w' => (∃ (b c m : Nat) (l : List Int), Drawn w w' g e m b c l) ∧ Cur w' g ao n cap f ∧ But g w w' := by
  have hb0 : Below w.heap.size w (w.alloc (.cells #[.int .i64 0, .int .i64 1, .int .i64 2, .int .i64 5, .int .i64 9] 3)) := (Below.refl _ _).alloc (Nat.le_refl _) _
  have hgl := hC.lt
  have hz := newInts w [0, 1, 2, 5, 9] 3
  go_enter Try.func39, Try.ntmps39
  go_wp2_with fail
  refine (l1Int_any g ao n cap f w.heap.size 5 (fun i => [0, 1, 2, 5, 9].getD i 0) _ hn (by omega) (by omega) hz (by omega) (hC.below hb0)).mono ?_
  rintro e w1 ⟨j, hj, rfl, hC1, hO1⟩
  have hmem : [(0 : Int), 1, 2, 5, 9].getD j 0 ∈ [(0 : Int), 1, 2, 5, 9] := getD_mem hj
  obtain ⟨m, hm, hm9⟩ : ∃ m : Nat, [(0 : Int), 1, 2, 5, 9].getD j 0 = (m : Int) ∧ m ≤ 9 := by
    simp only [List.mem_cons, List.not_mem_nil, or_false] at hmem
    exact ⟨([(0 : Int), 1, 2, 5, 9].getD j 0).toNat, by omega, by omega⟩
  clear hmem hz
  rw [hm]
  clear hm
  have hB1 : But g w w1 := (But.ofBelow hb0).trans (But.ofOnly hO1)
  clear hO1
  go_wp2_with fail
  refine (l1Bytes_any g ao n cap f m w1 hn (by omega) hC1).mono ?_
  rintro e w2 ⟨b, c, l, rfl, hl, hy, hb, hc, hrow, hC2, hB2⟩
  go_wp2
  go_ret
  exact ⟨⟨b, c, m, l, rfl, hl, hy, Nat.le_trans hB1.size hb, hc, hrow, hm9⟩, hC2, hB1.trans hB2⟩

theorem conv_drawn {w : World} {m b c : Nat} {l : List Int} (h1 : l.length = m) (h2 : ∀ y ∈ l, 0 ≤ y ∧ y ≤ 255) (h4 : m ≤ c) (h5 : Row 5 w b m (fun i => l.getD i 0)) :
    (convert 28 9 (.slice (some ⟨b, 0, none⟩) m c)).run Try.prog w = .ok (.string (strOfNums l)) w := by
  subst h1
  have := conv_view (h5.view h4 (fun i hi => h2 _ (getD_mem hi)))
  rw [lof_self] at this
  exact this
theorem Drawn.mono {w0 w w' : World} {g : Nat} {e : Ending} {m b c : Nat} {l : List Int} (h : Drawn w w' g e m b c l) (hs : w0.heap.size ≤ w.heap.size) : Drawn w0 w' g e m b c l :=
  ⟨h.ret, h.len, h.byte, Nat.le_trans hs h.new, h.le, h.row, h.few⟩

/-- Drawn bytes as a result among others: all that is known of them. -/
structure Own9 (w w' : World) (m b c : Nat) (l : List Int) : Prop where
  len : l.length = m
  byte : ∀ y ∈ l, 0 ≤ y ∧ y ≤ 255
  new : w.heap.size ≤ b
  le : m ≤ c
  row : Row 5 w' b m (fun i => l.getD i 0)
  few : m ≤ 9
theorem Own9.bytes {w w' : World} {m b c : Nat} {l : List Int} (h : Own9 w w' m b c l) : ∀ i, i < m → 0 ≤ l.getD i 0 ∧ l.getD i 0 ≤ 255 := by
  intro i hi
  exact h.byte _ (getD_mem (by rw [h.len]; exact hi))
theorem Own9.view {w w' : World} {m b c : Nat} {l : List Int} (h : Own9 w w' m b c l) : View w' (some ⟨b, 0, none⟩) m c (fun i => l.getD i 0) := h.row.view h.le h.bytes

end Go.Proofs.Ytgnhlnlejkgnkaa

/-
  Bytes that are bent, and a place in bytes, as far as a law leans on their draws.
-/
namespace Go.Proofs.Ytgnhlnlejkgnkaa
open Go.RowKit
set_option maxRecDepth 4000

/-- Of what lies below B block g alone may have turned. -/
structure Kept (B g : Nat) (w w' : World) : Prop where
  os : w'.os = w.os
  tape : w'.tape = w.tape
  output : w'.output = w.output
  size : w.heap.size ≤ w'.heap.size
  block : ∀ k, k < B → k ≠ g → w'.heap[k]? = w.heap[k]?
theorem Kept.ofBut {B g : Nat} {w w' : World} (h : But g w w') (hB : B ≤ w.heap.size) : Kept B g w w' := ⟨h.os, h.tape, h.output, h.size, fun k hk hg => h.block k (by omega) hg⟩
theorem Kept.trans {B g : Nat} {a b c : World} (h : Kept B g a b) (k : Kept B g b c) : Kept B g a c :=
  ⟨k.os.trans h.os, k.tape.trans h.tape, k.output.trans h.output, Nat.le_trans h.size k.size, fun i hi hg => (k.block i hi hg).trans (h.block i hi hg)⟩
theorem Kept.below {B g A : Nat} {w w' : World} (h : Kept B g w w') (h1 : A ≤ g) (h2 : A ≤ B) : Below A w w' := ⟨h.os, h.tape, h.output, h.size, fun k hk => h.block k (by omega) (by omega)⟩
theorem Kept.setCell {B g b i : Nat} {w w' : World} (h : Kept B g w w') (hb : B ≤ b) (u : Value) : Kept B g w (w'.setCell ⟨b, i, none⟩ u) :=
  ⟨h.os, h.tape, h.output, by simpa using h.size, fun k hk hg => by rw [Below.heap_setCell _ _ _ _ (by show k ≠ b; omega)]; exact h.block k hk hg⟩

/-- Bytes of the call's own that are bent: some bytes, no more than one beyond. -/
structure Bent (w' : World) (B N : Nat) (e : Ending) (b c m : Nat) (F : Nat → Int) : Prop where
  ret : e = .returned (.slice (some ⟨b, 0, none⟩) m c)
  few : m ≤ N + 1
  new : B ≤ b
  view : View w' (some ⟨b, 0, none⟩) m c F

/-- The same, the row being known. -/
structure BentR (w' : World) (B N : Nat) (e : Ending) (b c m : Nat) (F : Nat → Int) : Prop where
  ret : e = .returned (.slice (some ⟨b, 0, none⟩) m c)
  few : m ≤ N + 1
  new : B ≤ b
  le : m ≤ c
  byte : ∀ i, i < m → 0 ≤ F i ∧ F i ≤ 255
  row : Row 5 w' b m F
theorem BentR.to {w' : World} {B N : Nat} {e : Ending} {b c m : Nat} {F : Nat → Int} (h : BentR w' B N e b c m F) : Bent w' B N e b c m F := ⟨h.ret, h.few, h.new, h.row.view h.le h.byte⟩

theorem Cur.kept {B : Nat} {w w' : World} {g : Nat} {ao : Option Addr} {n cap : Nat} {f : Nat → Int} (h : Cur w g ao n cap f) (hk : ∀ k, k < B → w'.heap[k]? = w.heap[k]?) (hs : w.heap.size ≤ w'.heap.size) (hg : g < B) (hc : ∀ a, ao = some a → 0 < n → a.block < B) : Cur w' g ao n cap f := by
  obtain ⟨i, k, hr, h0, hi⟩ := h.cells
  refine ⟨⟨i, k, hr.of_block (hk g hg), h0, hi⟩, ⟨h.view.le, h.view.byte, fun hn => ?_⟩, h.apart⟩
  obtain ⟨b', off, e, hlt, hcc⟩ := h.view.cells hn
  refine ⟨b', off, e, Nat.lt_of_lt_of_le hlt hs, fun j hj => ?_⟩
  rw [World.cell?_of_block (w := w) (hk b' (hc _ e hn))]
  exact hcc j hj

theorem getD_byte {l : List Int} (h : ∀ y ∈ l, 0 ≤ y ∧ y ≤ 255) (i : Nat) (hi : i < l.length) : 0 ≤ l.getD i 0 ∧ l.getD i 0 ≤ 255 := h _ (getD_mem hi)

set_option maxHeartbeats 2000000 in
theorem l1Bend_row (g : Nat) (ao : Option Addr) (n cap : Nat) (f : Nat → Int) (B : Nat) (v : Value) (N : Nat) (l : List Int) (w : World) (hn : n ≤ 1048576) (hN0 : 0 < N) (hN : N ≤ 1048576) (hC : Cur w g ao n cap f) (hown : w.ownsRow B 5 1 v N (bl l)) (hl : l.length = N) (hyb : ∀ y ∈ l, 0 ≤ y ∧ y ≤ 255) (hg : g < B) (hc : ∀ a, ao = some a → 0 < n → a.block < B) (hBw : B ≤ w.heap.size) :
    Calls Try.prog 40 #[.pointer (some ⟨g, 0, none⟩), v] w fun e w' => (∃ (b c m : Nat) (F : Nat → Int), BentR w' B N e b c m F) ∧ Cur w' g ao n cap f ∧ Kept B g w w' := by
  obtain ⟨i0, hi, hz0, hz1, hz2⟩ := info_parts Try.info5
  obtain ⟨b, c, rfl, hb, hbc, hrow⟩ := row_of_own hown hN0
  have HY : Hid (∀ i, i < N → 0 ≤ l.getD i 0 ∧ l.getD i 0 ≤ 255) := fun i hi => getD_byte hyb i (by omega)
  have HB : Hid (∀ y ∈ l, 0 ≤ y ∧ y ≤ 255) := hyb
  have HL : Hid (l.length = N) := hl
  have HC : Hid (∀ a, ao = some a → 0 < n → a.block < B) := hc
  clear hyb hl hc
  have e0 : ((N : Int) == 0) = false := by simp; omega
  have hblt := hrow.lt
  go_enter Try.func40, Try.ntmps40
  go_wp2_with fail
  refine (l1Below_any g ao n cap f 5 w hn (by omega) (by omega) hC).mono ?_
  rintro e w1 ⟨x, rfl, hx0, hx1, hC1, hO1⟩
  have hr1 := hO1.row hrow (by omega)
  have hK1 : Kept B g w w1 := Kept.ofBut (But.ofOnly hO1) hBw
  have hs1 : w.heap.size ≤ w1.heap.size := hK1.size
  have hown1 := hown.kept hO1.grown (Or.inr (fun e => by have := (hown.lt g e).1; omega))
  clear hC hrow hown hO1
  by_cases h0 : x = 0
  · subst h0
    clear hown1
    go_wp2_with fail
    refine (l1Below_any g ao n cap f (N : Int) w1 hn (by omega) (by omega) hC1).mono ?_
    rintro e w2 ⟨y, rfl, hy0, hy1, hC2, hO2⟩
    obtain ⟨j, rfl⟩ := Int.eq_ofNat_of_zero_le hy0
    have hr2 := hO2.row hr1 (by omega)
    have hK2 := hK1.trans (Kept.ofBut (But.ofOnly hO2) (by omega))
    have hs2 : w.heap.size ≤ w2.heap.size := hK2.size
    have hl2 := hr2.lt
    have hg2 := hC2.lt
    clear hC1 hO2 hK1 hr1
    have HZ : Hid _ := newInts w2 [0, 1, 2, 127, 128, 255] 3
    have hb4 : Below w2.heap.size w2 (w2.alloc (.cells #[.int .i64 0, .int .i64 1, .int .i64 2, .int .i64 127, .int .i64 128, .int .i64 255] 3)) := (Below.refl _ _).alloc (Nat.le_refl _) _
    go_wp2_with fail
    refine (l1Int_any g ao n cap f w2.heap.size 6 (fun i => [0, 1, 2, 127, 128, 255].getD i 0) _ hn (by omega) (by omega) HZ.out (by omega) (hC2.below hb4)).mono ?_
    rintro e w4 ⟨q, hq, rfl, hC4, hO4⟩
    have hmem : [(0 : Int), 1, 2, 127, 128, 255].getD q 0 ∈ [(0 : Int), 1, 2, 127, 128, 255] := getD_mem hq
    have hxb : 0 ≤ [(0 : Int), 1, 2, 127, 128, 255].getD q 0 ∧ [(0 : Int), 1, 2, 127, 128, 255].getD q 0 ≤ 255 := by
      simp only [List.mem_cons, List.not_mem_nil, or_false] at hmem
      omega
    clear hmem HZ
    generalize [(0 : Int), 1, 2, 127, 128, 255].getD q 0 = z at *
    obtain ⟨hz0', hz1'⟩ := hxb
    have hr4 := hO4.row (hr2.belowAll hb4) (by omega)
    have hK4 := hK2.trans ((Kept.ofBut (But.ofBelow hb4) (by omega)).trans (Kept.ofBut (But.ofOnly hO4) (by have := hb4.size; omega)))
    have hcj := hr4.cell (i := j) (by omega)
    have hfj := hr4.frozen j
    have HS : Hid (Row 5 (w4.setCell ⟨b, j, none⟩ (.int .u8 z)) b N (fun i => if i = j then z else l.getD i 0)) := hr4.set j z
    have HK : Hid (Kept B g w (w4.setCell ⟨b, j, none⟩ (.int .u8 z))) := hK4.setCell hb _
    have HC4 : Hid (Cur (w4.setCell ⟨b, j, none⟩ (.int .u8 z)) g ao n cap f) := hC4.kept (B := B) (fun k hk => Below.heap_setCell _ _ _ _ (by show k ≠ b; omega)) (by simp) hg HC.out
    have hw : IntKind.u8.wrap z = z := by rw [u8_wrap]; omega
    have hjz : (j : Int) < (N : Int) := by omega
    clear hr2 hr4 hK2 hK4 hC2 hC4 hb4 hO4
    go_wp2
    go_ret
    refine ⟨⟨b, c, N, _, rfl, by omega, hb, hbc, fun i hi => ?_, HS.out⟩, HC4.out, HK.out⟩
    have := HY.out i hi
    split <;> omega
  · by_cases h1 : x = 1
    · subst h1
      clear hr1
      go_wp2_with (at_builtin; go_must (refine wpList_append_own _ rfl (.tmp 25) (.tmp 26) 28 rfl B 5 i0 (.int .u8 0) 1 1 Try.underlying28 hi hz0 hz1 hz2 rfl (by decide) (.slice (some ⟨b, 0, none⟩) N c) _ _ rfl (hown1.alloc _) ⟨w1.heap.size, 0, none⟩ 1 1 [.int .u8 3] rfl rfl (cellNew _ _ _) (bl_one [3]) (by unfold maxLen; omega) (by omega) (by simp; omega) ?_); intro v2 w2 hown2 hgr2 hnil)
      have hb2 : Below w1.heap.size w1 (w1.alloc (.cells #[.int .u8 3] 5)) := (Below.refl _ _).alloc (Nat.le_refl _) _
      have hO2 : w2.ownsRow B 5 1 v2 (N + 1) (bl (l ++ [3])) := by rw [bl_append]; exact hown2
      obtain ⟨b2, c2, rfl, hbb, hbc2, hrow2⟩ := row_of_own hO2 (by omega)
      have hkk : ∀ k, k < B → w2.heap[k]? = w1.heap[k]? := fun k hk => by
        rw [hgr2.block k (by simp; omega) (fun e => by have := (hown1.lt k e.symm).1; omega), Below.heap_alloc _ _ _ (by omega)]
      have hss : w1.heap.size ≤ w2.heap.size := Nat.le_trans (by simp) hgr2.size
      have HK : Hid (Kept B g w w2) := hK1.trans ⟨hgr2.os, hgr2.tape, hgr2.output, hss, fun k hk _ => hkk k hk⟩
      have HC4 : Hid (Cur w2 g ao n cap f) := hC1.kept (B := B) hkk hss hg HC.out
      have HY2 : Hid (∀ i, i < N + 1 → 0 ≤ (l ++ [3]).getD i 0 ∧ (l ++ [3]).getD i 0 ≤ 255) := fun i hi => by
        refine getD_byte ?_ i (by rw [List.length_append, HL.out]; simpa using hi)
        intro y hy
        rcases List.mem_append.1 hy with hy | hy
        · exact HB.out y hy
        · simp at hy; omega
      clear hgr2 hnil hown1 hown2 hO2 hkk hb2 hC1 hK1
      go_wp2
      go_ret
      exact ⟨⟨b2, c2, N + 1, _, rfl, by omega, hbb, hbc2, HY2.out, hrow2⟩, HC4.out, HK.out⟩
    · by_cases h2 : x = 2
      · subst h2
        clear hown1
        go_wp2_with fail
        refine (l1Below_any g ao n cap f (N : Int) w1 hn (by omega) (by omega) hC1).mono ?_
        rintro e w2 ⟨y, rfl, hy0, hy1, hC2, hO2⟩
        obtain ⟨j, rfl⟩ := Int.eq_ofNat_of_zero_le hy0
        have hr2 := hO2.row hr1 (by omega)
        have HK : Hid (Kept B g w w2) := hK1.trans (Kept.ofBut (But.ofOnly hO2) (by omega))
        have HV : Hid (Row 5 w2 b j (fun i => l.getD i 0)) := by
          obtain ⟨cu, u1, u2, u3⟩ := hr2
          exact ⟨cu, u1, by omega, fun i hi => u3 i (by omega)⟩
        have hjc : (j : Int) ≤ (c : Int) := by omega
        clear hC1 hr1 hr2 hO2 hK1
        go_wp2
        go_ret
        exact ⟨⟨b, c, j, _, rfl, by omega, hb, by omega, fun i hi => HY.out i (by omega), HV.out⟩, hC2, HK.out⟩
      · have q0 : (x == 0) = false := by simpa using h0
        have q1 : (x == 1) = false := by simpa using h1
        have q2 : (x == 2) = false := by simpa using h2
        clear hown1
        go_wp2
        go_ret
        exact ⟨⟨b, c, N, _, rfl, by omega, hb, hbc, HY.out, hr1⟩, hC1, hK1⟩
theorem l1Bend_any (g : Nat) (ao : Option Addr) (n cap : Nat) (f : Nat → Int) (B : Nat) (v : Value) (N : Nat) (l : List Int) (w : World) (hn : n ≤ 1048576) (hN0 : 0 < N) (hN : N ≤ 1048576) (hC : Cur w g ao n cap f) (hown : w.ownsRow B 5 1 v N (bl l)) (hl : l.length = N) (hyb : ∀ y ∈ l, 0 ≤ y ∧ y ≤ 255) (hg : g < B) (hc : ∀ a, ao = some a → 0 < n → a.block < B) (hBw : B ≤ w.heap.size) :
    Calls Try.prog 40 #[.pointer (some ⟨g, 0, none⟩), v] w fun e w' => (∃ (b c m : Nat) (F : Nat → Int), Bent w' B N e b c m F) ∧ Cur w' g ao n cap f ∧ Kept B g w w' := by
  refine (l1Bend_row g ao n cap f B v N l w hn hN0 hN hC hown hl hyb hg hc hBw).mono ?_
  rintro e w' ⟨⟨b, c, m, F, h⟩, h1, h2⟩
  exact ⟨⟨b, c, m, F, h.to⟩, h1, h2⟩
end Go.Proofs.Ytgnhlnlejkgnkaa

