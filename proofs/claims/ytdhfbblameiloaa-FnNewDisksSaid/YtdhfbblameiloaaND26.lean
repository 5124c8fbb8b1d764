/-
  Together: CrcImpl, SumPlain, SumImpl, SumSeen, SumsPlain, PagePlain, PutNums
-/
import Derived.Test.YtdhfbblameiloaaND1
import Derived.Test.YtdhfbblameiloaaND25
import Derived.Test.YtdhfbblameiloaaND8
import Derived.Test.YtdhfbblameiloaaND19
/-
  The program's Crc comes to the plain sum, at every slice of bytes that reads.
-/
namespace Go.Proofs.Ytdhfbblameiloaa
open Go.RowKit
set_option maxRecDepth 4000

set_option maxHeartbeats 1000000 in
theorem crcStep_any (x : Nat) (w : World) (hx : x < 4294967296) :
    Calls Try.prog 136 #[.int .u32 (x : Int)] w fun e w' => e = .returned (.int .u32 ((crcBits 8 x : Nat) : Int)) ∧ w = w' := by
  go_enter Try.func136, Try.ntmps136
  go_wp2
  go_loopg [0, 4] 8 (fun g s i wr => w = wr ∧ ∃ k y : Nat, k ≤ 8 ∧ g = 8 - k ∧ s = .int .u32 (y : Int) ∧ i = .int .i64 k ∧ y < 4294967296 ∧ y = crcBits k x)
  case atStart => exact ⟨rfl, 0, x, by omega, rfl, rfl, rfl, hx, rfl⟩
  case round =>
    obtain ⟨rfl, k, y, hk, rfl, rfl, rfl, hy, hyk⟩ := hrel
    have HY : Hid (y = crcBits k x) := hyk
    clear hyk
    by_cases hlt : k < 8
    · have hkz : (k : Int) < 8 := by omega
      by_cases hodd : y % 2 = 1
      · have q1 : bits .and .u32 (y : Int) 1 = 1 := by rw [u32_one y hy, hodd]; rfl
        have q2 := u32_turn y hy
        have HO : Hid (y % 2 = 1) := hodd
        clear hodd
        go_wp2
        go_roundg (8 - (k + 1))
        case measure => omega
        case rel => exact ⟨rfl, k + 1, y / 2 ^^^ 2197175160, by omega, rfl, rfl, by go_num, Nat.xor_lt_two_pow (n := 32) (by omega) (by decide), by rw [← crcBit_odd y HO.out, HY.out]; rfl⟩
      · have q1 : bits .and .u32 (y : Int) 1 = 0 := by rw [u32_one y hy, show y % 2 = 0 by omega]; rfl
        have HO : Hid (¬ y % 2 = 1) := hodd
        clear hodd
        go_wp2
        go_roundg (8 - (k + 1))
        case measure => omega
        case rel => exact ⟨rfl, k + 1, y / 2, by omega, rfl, by go_num, by go_num, by omega, by rw [← crcBit_even y HO.out, HY.out]; rfl⟩
    · obtain rfl : k = 8 := by omega
      go_wp2
      go_ret
      exact ⟨retInt (congrArg Int.ofNat HY.out), rfl⟩

set_option maxHeartbeats 1000000 in
theorem crc_impl (ao : Option Addr) (n cap : Nat) (f : Nat → Int) (w : World) (hv : View w ao n cap f) (hn : n ≤ 281474976710656) :
    Calls Try.prog 131 #[.slice ao n cap] w fun e w' => e = .returned (.int .i64 ((crc n f : Nat) : Int)) ∧ w = w' := by
  go_enter Try.func131, Try.ntmps131
  go_wp2
  go_loopg [3, 8] n (fun g s i wr => w = wr ∧ ∃ k y : Nat, k ≤ n ∧ g = n - k ∧ s = .int .u32 (y : Int) ∧ i = .int .i64 k ∧ y < 4294967296 ∧ y = crcTo f k)
  case atStart => exact ⟨rfl, 0, 4294967295, by omega, rfl, rfl, rfl, by decide, rfl⟩
  case round =>
    obtain ⟨rfl, k, y, hk, rfl, rfl, rfl, hy, hyk⟩ := hrel
    have HY : Hid (y = crcTo f k) := hyk
    clear hyk
    by_cases hlt : k < n
    · obtain ⟨b, off, rfl, hb, hc⟩ := hv.cells (by omega)
      have hkz : (k : Int) < (n : Int) := by omega
      have hc1 := hc k hlt
      have hbk := hv.byte k hlt
      have q1 := u32_in y (f k) hy hbk
      have hlt2 := xorByte_lt hy hbk
      obtain ⟨hbk0, hbk1⟩ := hbk
      clear hc
      go_wp2_with fail
      refine (crcStep_any _ _ hlt2).mono ?_
      rintro e _ ⟨rfl, rfl⟩
      go_wp2
      go_roundg (n - (k + 1))
      case measure => omega
      case rel => exact ⟨rfl, k + 1, crcBits 8 (y ^^^ (f k).toNat), by omega, rfl, rfl, by go_num, crcBits_lt hlt2, by rw [HY.out]; rfl⟩
    · obtain rfl : k = n := by omega
      have q1 := u32_last y hy
      have q2 : y ^^^ 4294967295 < 4294967296 := Nat.xor_lt_two_pow (n := 32) hy (by decide)
      have q3 : wrap64 ((y ^^^ 4294967295 : Nat) : Int) = ((y ^^^ 4294967295 : Nat) : Int) := by
        generalize y ^^^ 4294967295 = z at q2
        exact IntWalk.wrap64_in _ ⟨by omega, by omega⟩
      go_wp2
      go_ret
      exact ⟨retInt (congrArg (fun z : Nat => ((z ^^^ 4294967295 : Nat) : Int)) HY.out), rfl⟩

theorem crc_impl' {c : Nat} (ao : Option Addr) (n cap : Nat) (f : Nat → Int) (w : World) (hg : Hid (crc n f = c)) (hv : View w ao n cap f) (hn : n ≤ 281474976710656) :
    Calls Try.prog 131 #[.slice ao n cap] w fun e w' => e = .returned (.int .i64 (c : Int)) ∧ w = w' := by
  have h := crc_impl ao n cap f w hv hn
  rw [hg.out] at h; exact h
end Go.Proofs.Ytdhfbblameiloaa

/-
  The four bytes of a sum; new rows of bytes.
-/
namespace Go.Proofs.Ytdhfbblameiloaa
open Go.RowKit
set_option maxRecDepth 4000

def sumL (c : Nat) : List Int := [(c : Int) / 16777216 % 256, (c : Int) / 65536 % 256, (c : Int) / 256 % 256, (c : Int) % 256]
theorem sumL_len (c : Nat) : (sumL c).length = 4 := rfl
theorem sumL_byte (c : Nat) : ∀ y ∈ sumL c, 0 ≤ y ∧ y ≤ 255 := by
  intro y hy
  simp only [sumL, List.mem_cons, List.not_mem_nil, or_false] at hy
  rcases hy with rfl | rfl | rfl | rfl <;> omega

theorem lof_sumL (c : Nat) : lof 4 (fun i => (sumL c).getD i 0) = sumL c := lof_self (sumL c)

/-- New cells. -/
theorem cellNews (w : World) (l : List Value) (t : TypeId) : ∀ j u, l[j]? = some u → (w.alloc (.cells l.toArray t)).cell? ((⟨w.heap.size, 0, none⟩ : Addr).add j) = some u := by
  intro j u hj
  have e : (⟨w.heap.size, 0, none⟩ : Addr).add j = ⟨w.heap.size, j, none⟩ := by unfold Addr.add; split <;> simp_all
  rw [e]
  simp [hj]

theorem newRow (w : World) (l : List Int) (t : TypeId) : Row t (w.alloc (.cells (l.map (Value.int .u8)).toArray t)) w.heap.size l.length (fun i => l.getD i 0) :=
  Row.ofIs ⟨_, Deep.blk_alloc_new _ _, by simp, fun i hi => by simp [hi]⟩

theorem bytes_of_list {l : List Int} (h : ∀ y ∈ l, 0 ≤ y ∧ y ≤ 255) : ∀ i, i < l.length → 0 ≤ l.getD i 0 ∧ l.getD i 0 ≤ 255 := by
  intro i hi
  have := h _ (List.getElem_mem hi)
  simpa [hi] using this

end Go.Proofs.Ytdhfbblameiloaa

/-
  The program's PutSum: what was there, and behind it the four bytes of its sum, in memory of its own.
-/
namespace Go.Proofs.Ytdhfbblameiloaa
open Go.RowKit
set_option maxRecDepth 4000

set_option maxHeartbeats 1000000 in
theorem putSum_impl (b off n cap : Nat) (f : Nat → Int) (w : World) (hv : View w (some ⟨b, off, none⟩) n cap f) (hn : n ≤ 35184372088832) :
    Calls Try.prog 106 #[.slice (some ⟨b, off, none⟩) n cap] w fun e w' => ∃ g c, e = .returned (.slice (some ⟨g, 0, none⟩) (n + 4) c) ∧ w.heap.size ≤ g ∧ n + 4 ≤ c ∧ Row 5 w' g (n + 4) (fun i => (lof n f ++ sumL (crc n f)).getD i 0) ∧ Below w.heap.size w w' := by
  have hlt := crc_lt hv.byte
  obtain ⟨c, hc⟩ : ∃ c, Hid (crc n f = c) := ⟨_, rfl⟩
  rw [hc.out] at hlt
  have hcz : (c : Int) < 4294967296 := by omega
  have hw : ∀ x : Int, IntKind.u8.wrap x = x % 256 := u8_wrap
  go_enter Try.func106, Try.ntmps106
  go_wp2_with fail
  refine (crc_impl' _ n cap f w hc hv (by omega)).mono ?_
  rintro e _ ⟨rfl, rfl⟩
  go_wp2_with fail
  have hb1 : Below w.heap.size w (w.alloc (.cells #[.int .u8 ((c : Int) / 16777216 % 256), .int .u8 ((c : Int) / 65536 % 256), .int .u8 ((c : Int) / 256 % 256), .int .u8 ((c : Int) % 256)] 5)) := (Below.refl _ _).alloc (Nat.le_refl _) _
  have hr : Row 5 (w.alloc (.cells #[.int .u8 ((c : Int) / 16777216 % 256), .int .u8 ((c : Int) / 65536 % 256), .int .u8 ((c : Int) / 256 % 256), .int .u8 ((c : Int) % 256)] 5)) w.heap.size 4 (fun i => (sumL c).getD i 0) := newRow w (sumL c) 5
  refine (putBytes_any b off n cap f (some ⟨w.heap.size, 0, none⟩) 4 4 (fun i => (sumL c).getD i 0) _ (hv.below hb1) (hr.view (by omega) (bytes_of_list (sumL_byte c))) (by intro h; cases h) (by omega)).mono ?_
  rintro e w2 ⟨rfl, hown, hb2⟩
  rw [lof_sumL] at hown
  rw [show (w.alloc (.cells #[.int .u8 ((c : Int) / 16777216 % 256), .int .u8 ((c : Int) / 65536 % 256), .int .u8 ((c : Int) / 256 % 256), .int .u8 ((c : Int) % 256)] 5)).heap.size = w.heap.size + 1 from by simp] at hown
  go_wp2
  go_ret
  rw [hc.out]
  exact ⟨_, n + 4, rfl, by simp, by omega, row_of_owned hown, hb1.trans (hb2.mono hb1.size)⟩

end Go.Proofs.Ytdhfbblameiloaa

/-
  What the last four bytes say, plainly.
-/
namespace Go.Proofs.Ytdhfbblameiloaa
open Go.RowKit
set_option maxRecDepth 4000

/-- The last four bytes as a number. -/
def last4 (m : Nat) (f : Nat → Int) : Int := ((f m * 256 + f (m + 1)) * 256 + f (m + 2)) * 256 + f (m + 3)

theorem lof_succ (m : Nat) (f : Nat → Int) : lof (m + 1) f = lof m f ++ [f m] := by simp [lof, List.range_succ]
theorem lof_four (m : Nat) (f : Nat → Int) : lof (m + 4) f = lof m f ++ [f m, f (m + 1), f (m + 2), f (m + 3)] := by
  rw [lof_succ (m + 3), lof_succ (m + 2), lof_succ (m + 1), lof_succ m]
  simp
theorem lof_byteS {n : Nat} {f : Nat → Int} (h : ∀ i, i < n → 0 ≤ f i ∧ f i ≤ 255) : ∀ y ∈ lof n f, 0 ≤ y ∧ y ≤ 255 := by
  intro y hy
  simp only [lof, List.mem_map, List.mem_range] at hy
  obtain ⟨i, hi, rfl⟩ := hy
  exact h i hi

theorem sum_iff {m c : Nat} {f : Nat → Int} (hf : ∀ i, i < m + 4 → 0 ≤ f i ∧ f i ≤ 255) (hc : c < 4294967296) : lof m f ++ sumL c = lof (m + 4) f ↔ last4 m f = (c : Int) := by
  have h0 := hf m (by omega)
  have h1 := hf (m + 1) (by omega)
  have h2 := hf (m + 2) (by omega)
  have h3 := hf (m + 3) (by omega)
  rw [lof_four, List.append_right_inj]
  unfold sumL last4
  simp only [List.cons.injEq, and_true]
  constructor
  · rintro ⟨a, b, c, d⟩; omega
  · intro h; refine ⟨?_, ?_, ?_, ?_⟩ <;> omega

/-- What n bytes come to: how many are handed back, and whether they are right. -/
def sumGood (n : Nat) (f : Nat → Int) : Bool := decide (4 ≤ n ∧ last4 (n - 4) f = (crc (n - 4) f : Int))

def Gives (fn : Nat) (n : Nat) (f : Nat → Int) (N : Nat) (B : Bool) : Prop :=
  ∀ (b cap : Nat) (w : World), View w (some ⟨b, 0, none⟩) n cap f → Calls Try.prog fn #[.slice (some ⟨b, 0, none⟩) n cap] w fun e w' =>
    ∃ g c, e = .returned (.tuple #[.slice (some ⟨g, 0, none⟩) N c, .bool B]) ∧ w.heap.size ≤ g ∧ N ≤ c ∧ Row 5 w' g N f ∧ Below w.heap.size w w'

theorem noRow (w : World) (t : TypeId) (f : Nat → Int) : Row t (w.alloc (.cells #[] t)) w.heap.size 0 f := ⟨#[], Deep.blk_alloc_new _ _, Nat.le_refl _, fun _ hi => absurd hi (Nat.not_lt_zero _)⟩
theorem noView (w : World) (f : Nat → Int) : View w none 0 0 f := ⟨Nat.le_refl _, fun _ hi => absurd hi (Nat.not_lt_zero _), fun h => absurd h (Nat.lt_irrefl _)⟩
end Go.Proofs.Ytdhfbblameiloaa

/-
  Bytes behind which their sum stands, plainly: they are right; with one byte turned they are not.
-/
namespace Go.Proofs.Ytdhfbblameiloaa
open Go.RowKit
set_option maxRecDepth 4000

theorem sum_turned {m j : Nat} {F : Nat → Int} {v : Int} (hF : ∀ i, i < m + 4 → 0 ≤ F i ∧ F i ≤ 255) (hg : last4 m F = (crc m F : Int)) (hj : j < m + 4) (hv : 0 ≤ v ∧ v ≤ 255) (hne : v ≠ F j) :
    last4 m (fun i => if i = j then v else F i) ≠ (crc m (fun i => if i = j then v else F i) : Int) := by
  by_cases h : j < m
  · have hc : crc m (fun i => if i = j then v else F i) ≠ crc m F := by
      refine crc_parts (j := j) (fun i hi => ?_) (fun i hi => hF i (by omega)) h ?_ (fun i hi hij => ?_)
      · by_cases e : i = j
        · simp only [e, if_true]; exact hv
        · simp only [e, if_false]; exact hF i (by omega)
      · simp only [if_true]; exact hne
      · simp only [hij, if_false]
    have hl : last4 m (fun i => if i = j then v else F i) = last4 m F := by
      unfold last4
      dsimp only
      rw [if_neg (by omega), if_neg (by omega), if_neg (by omega), if_neg (by omega)]
    rw [hl, hg]
    intro e
    exact hc (by omega)
  · have hc : crc m (fun i => if i = j then v else F i) = crc m F := crc_congr (fun i hi => by rw [if_neg (by omega)])
    rw [hc, ← hg]
    have h0 := hF m (by omega)
    have h1 := hF (m + 1) (by omega)
    have h2 := hF (m + 2) (by omega)
    have h3 := hF (m + 3) (by omega)
    unfold last4
    dsimp only
    rcases (show j = m ∨ j = m + 1 ∨ j = m + 2 ∨ j = m + 3 by omega) with rfl | rfl | rfl | rfl
    · rw [if_pos rfl, if_neg (by omega), if_neg (by omega), if_neg (by omega)]; omega
    · rw [if_neg (by omega), if_pos rfl, if_neg (by omega), if_neg (by omega)]; omega
    · rw [if_neg (by omega), if_neg (by omega), if_pos rfl, if_neg (by omega)]; omega
    · rw [if_neg (by omega), if_neg (by omega), if_neg (by omega), if_pos rfl]; omega

/-- What PutSum lays is right. -/
theorem sum_put (m : Nat) (f : Nat → Int) (hf : ∀ i, i < m → 0 ≤ f i ∧ f i ≤ 255) : last4 m (fun i => (lof m f ++ sumL (crc m f)).getD i 0) = (crc m (fun i => (lof m f ++ sumL (crc m f)).getD i 0) : Int) := by
  have hl : ∀ i, i < m → (lof m f ++ sumL (crc m f)).getD i 0 = f i := by
    intro i hi
    rw [← lof_get m f i hi, List.getD_eq_getElem?_getD, List.getD_eq_getElem?_getD, List.getElem?_append_left (by rw [lof_len]; exact hi)]
  have hr : ∀ i, (lof m f ++ sumL (crc m f)).getD (m + i) 0 = (sumL (crc m f)).getD i 0 := by
    intro i
    rw [List.getD_eq_getElem?_getD, List.getD_eq_getElem?_getD, List.getElem?_append_right (by rw [lof_len]; omega), lof_len]
    congr 2
    omega
  have hc : crc m (fun i => (lof m f ++ sumL (crc m f)).getD i 0) = crc m f := crc_congr hl
  rw [hc]
  have hlt := crc_lt hf
  have r0 := hr 0
  have r1 := hr 1
  have r2 := hr 2
  have r3 := hr 3
  unfold last4
  dsimp only
  rw [Nat.add_zero] at r0
  rw [r0, r1, r2, r3]
  generalize crc m f = c at hlt
  show ((((c : Int) / 16777216 % 256) * 256 + (c : Int) / 65536 % 256) * 256 + (c : Int) / 256 % 256) * 256 + (c : Int) % 256 = (c : Int)
  omega

/-- A byte with one bit turned is another byte. -/
theorem bit_turned (x : Int) (k : Nat) (h : 0 ≤ x ∧ x ≤ 255) (hk : k < 8) : (0 ≤ bits .xor .u8 x (2 ^ k) ∧ bits .xor .u8 x (2 ^ k) ≤ 255) ∧ bits .xor .u8 x (2 ^ k) ≠ x := by
  obtain ⟨n, rfl⟩ := Int.eq_ofNat_of_zero_le h.1
  have hn : n < 256 := by omega
  have hp : 2 ^ k < 256 := Nat.lt_of_lt_of_le (Nat.pow_lt_pow_right (by decide) hk) (by decide)
  have e : bits .xor .u8 (n : Int) (2 ^ k) = ((n ^^^ 2 ^ k : Nat) : Int) := by
    have := u8_xor_nat n (2 ^ k) hn hp
    rw [← this]
    simp
  rw [e]
  have hlt : n ^^^ 2 ^ k < 256 := Nat.xor_lt_two_pow (n := 8) hn hp
  refine ⟨by omega, fun h => ?_⟩
  have h' : n ^^^ 2 ^ k = n := by omega
  have h2 := congrArg (fun z => z.testBit k) h'
  simp only [Nat.testBit_xor, Nat.testBit_two_pow_self, Bool.xor_true] at h2
  cases hb : n.testBit k <;> simp [hb] at h2

theorem small_pow (x : Nat) : (2 : Int) ^ min (x % 8) 8 % 256 = 2 ^ (x % 8) := by
  have hk : x % 8 < 8 := Nat.mod_lt _ (by decide)
  rw [Nat.min_eq_left (by omega)]
  rcases (show x % 8 = 0 ∨ x % 8 = 1 ∨ x % 8 = 2 ∨ x % 8 = 3 ∨ x % 8 = 4 ∨ x % 8 = 5 ∨ x % 8 = 6 ∨ x % 8 = 7 by omega) with h | h | h | h | h | h | h | h <;> rw [h] <;> rfl
end Go.Proofs.Ytdhfbblameiloaa

/-
  Pages, plainly: what is put, what is read; they come to each other.
-/
namespace Go.Proofs.Ytdhfbblameiloaa
open Go.RowKit
set_option maxRecDepth 4000

/-- What stands ahead of the sum; a page; what PutPage puts. -/
def innL (k : Int) (s : ByteArray) : List Int := groups k ++ txtL s
def pageL (k : Int) (s : ByteArray) : List Int := innL k s ++ sumL (crc (innL k s).length (fun i => (innL k s).getD i 0))
def pageF (k : Int) (s : ByteArray) : List Int := if (k = 1 ∨ k = 2) ∧ s.size ≤ 240 then pageL k s else []
theorem innL_len (k : Int) (s : ByteArray) : (innL k s).length = (groups k).length + (groups s.size).length + s.size := by
  unfold innL txtL; rw [List.length_append, List.length_append, sl_len]; omega
theorem innL_byte {k : Int} {s : ByteArray} (hk : k = 1 ∨ k = 2) (hs : s.size ≤ 240) : ∀ y ∈ innL k s, 0 ≤ y ∧ y ≤ 255 := by
  intro y hy
  unfold innL txtL at hy
  rcases List.mem_append.1 hy with h | h
  · exact groups_byte k (by omega) (by omega) y h
  · rcases List.mem_append.1 h with h | h
    · exact groups_byte _ (by omega) (by omega) y h
    · exact sl_byte s y h
theorem pageL_len (k : Int) (s : ByteArray) : (pageL k s).length = (innL k s).length + 4 := by
  unfold pageL; rw [List.length_append, sumL_len]
theorem pageL_byte {k : Int} {s : ByteArray} (hk : k = 1 ∨ k = 2) (hs : s.size ≤ 240) : ∀ y ∈ pageL k s, 0 ≤ y ∧ y ≤ 255 := by
  intro y hy
  rcases List.mem_append.1 hy with h | h
  · exact innL_byte hk hs y h
  · exact sumL_byte _ y h
theorem pageF_byte (k : Int) (s : ByteArray) : ∀ y ∈ pageF k s, 0 ≤ y ∧ y ≤ 255 := by
  unfold pageF
  split
  · rename_i h; exact pageL_byte h.1 h.2
  · intro y hy; simp at hy
theorem pageF_len (k : Int) (s : ByteArray) : (pageF k s).length ≤ 250 := by
  unfold pageF
  split
  · rename_i h
    rw [pageL_len, innL_len]
    have := (groups_len k).2
    have := (groups_len s.size).2
    have := h.2
    omega
  · simp

/-- What is read as a page. -/
def getPg (n : Nat) (f : Nat → Int) : Int × ByteArray × Bool :=
  if sumGood n f = true ∧ (getU (n - 4) f 0).2.2 = true ∧ (getText (n - 4) f (getU (n - 4) f 0).2.1).2.2 = true ∧ (getText (n - 4) f (getU (n - 4) f 0).2.1).2.1 = ((n - 4 : Nat) : Int) ∧ ((getU (n - 4) f 0).1 = 1 ∨ (getU (n - 4) f 0).1 = 2) ∧ (getText (n - 4) f (getU (n - 4) f 0).2.1).1.size ≤ 240
  then ((getU (n - 4) f 0).1, (getText (n - 4) f (getU (n - 4) f 0).2.1).1, true) else (0, strOfNums [], false)

theorem lof_all (l : List Int) {n : Nat} {f : Nat → Int} (hn : l.length = n) (h : ∀ i, i < n → f i = l.getD i 0) : lof n f = l := by
  subst hn
  rw [← lof_self l]
  conv => lhs; rw [show (lof l.length fun i => l.getD i 0).length = l.length by rw [lof_len]]
  exact lof_eq.2 h
/-- What was read as a kind and a text stands there. -/
theorem page_inner {m : Nat} {f : Nat → Int} {k q r : Int} {s : ByteArray} (hf : ∀ i, i < m → 0 ≤ f i ∧ f i ≤ 255) (h1 : getU m f 0 = (k, q, true)) (h2 : getText m f q = (s, r, true)) : AtF m f 0 (innL k s) ∧ r = ((innL k s).length : Int) ∧ 0 ≤ k ∧ k ≤ 1000000 ∧ s.size ≤ 1000000 := by
  obtain ⟨i, e0, hA, hq, hk0, hk1⟩ := getU_read hf h1
  obtain rfl : i = 0 := by omega
  obtain ⟨j, e1, hB, hr, hs⟩ := getText_read hf h2
  obtain rfl : j = (groups k).length := by omega
  refine ⟨hA.append (by rw [Nat.zero_add]; exact hB), ?_, hk0, hk1, hs⟩
  rw [hr]
  unfold innL
  rw [List.length_append]
  push_cast
  omega
/-- Bytes with their sum are a page just where the text ends there, its kind is one, and it is short. -/
theorem page_iff {n : Nat} {f : Nat → Int} {k q r : Int} {s : ByteArray} (hf : ∀ i, i < n → 0 ≤ f i ∧ f i ≤ 255) (hg : sumGood n f = true) (h1 : getU (n - 4) f 0 = (k, q, true)) (h2 : getText (n - 4) f q = (s, r, true)) : pageF k s = lof n f ↔ (r = ((n - 4 : Nat) : Int) ∧ (k = 1 ∨ k = 2) ∧ s.size ≤ 240) := by
  have hg' : 4 ≤ n ∧ last4 (n - 4) f = (crc (n - 4) f : Int) := by simpa [sumGood] using hg
  obtain ⟨hn, hl⟩ := hg'
  obtain ⟨m, rfl⟩ : ∃ m, n = m + 4 := ⟨n - 4, by omega⟩
  rw [Nat.add_sub_cancel] at *
  obtain ⟨hA, hr, -, -, -⟩ := page_inner (fun i hi => hf i (by omega)) h1 h2
  constructor
  · intro h
    unfold pageF at h
    split at h
    · rename_i hc
      have := congrArg List.length h
      rw [pageL_len, lof_len] at this
      exact ⟨by omega, hc.1, hc.2⟩
    · have := congrArg List.length h
      rw [lof_len] at this
      simp at this
  · rintro ⟨hrm, hk, hs⟩
    unfold pageF
    rw [if_pos ⟨hk, hs⟩]
    have hlen : (innL k s).length = m := by omega
    have hin : lof m f = innL k s := lof_all _ hlen (fun i hi => by have := hA.at' i (by omega); rwa [Nat.zero_add] at this)
    have hc : crc m (fun i => (innL k s).getD i 0) = crc m f := crc_congr (fun i hi => by rw [← hin, lof_get _ _ _ hi])
    unfold pageL
    rw [hlen, hc, ← hin]
    exact (sum_iff hf (crc_lt (fun i hi => hf i (by omega)))).2 hl
/-- A page comes back. -/
theorem getPg_put {k : Int} {s : ByteArray} {f : Nat → Int} (hk : k = 1 ∨ k = 2) (hs : s.size ≤ 240) (hf : ∀ i, i < (pageL k s).length → f i = (pageL k s).getD i 0) : getPg (pageL k s).length f = (k, s, true) := by
  have hfb : ∀ i, i < (pageL k s).length → 0 ≤ f i ∧ f i ≤ 255 := fun i hi => by rw [hf i hi]; exact bytes_of_list (pageL_byte hk hs) i hi
  rw [pageL_len] at hf hfb ⊢
  have hA : AtF (innL k s).length f 0 (innL k s) := ⟨by omega, fun j hj => by rw [Nat.zero_add, hf j (by omega)]; exact getD_left _ _ _ hj⟩
  have e1 := getU_at (x := k) (by omega) (by omega) (AtF.left (L := groups k) (K := txtL s) hA)
  have hB := AtF.right (L := groups k) (K := txtL s) hA
  rw [Nat.zero_add] at hB
  have e2 := getText_at (by omega) hB
  have hsum : sumGood ((innL k s).length + 4) f = true := by
    have := sum_put (innL k s).length (fun i => (innL k s).getD i 0) (bytes_of_list (innL_byte hk hs))
    simp only [sumGood, decide_eq_true_eq, Nat.add_sub_cancel]
    refine ⟨by omega, ?_⟩
    have hF : ∀ i, i < (innL k s).length + 4 → f i = (lof (innL k s).length (fun i => (innL k s).getD i 0) ++ sumL (crc (innL k s).length (fun i => (innL k s).getD i 0))).getD i 0 := by
      intro i hi
      rw [lof_self, hf i hi]
      rfl
    rw [← crc_congr (f := f) (fun i hi => hF i (by omega))] at this
    rw [← this]
    unfold last4
    rw [hF _ (by omega), hF _ (by omega), hF _ (by omega), hF _ (by omega)]
  unfold getPg
  rw [Nat.add_sub_cancel]
  have e1' : getU (innL k s).length f 0 = (k, ((groups k).length : Int), true) := by
    have : ((0 : Nat) : Int) = 0 := rfl
    rw [this] at e1
    rw [e1]
    simp
  rw [e1', e2]
  simp only
  rw [if_pos ⟨hsum, trivial, trivial, by unfold innL; rw [List.length_append]; push_cast; omega, hk, hs⟩]
theorem getPg_none {n : Nat} {f : Nat → Int} (h : (getPg n f).2.2 = false) : getPg n f = (0, strOfNums [], false) := by
  unfold getPg at h ⊢
  split at h
  · cases h
  · rw [if_neg (by assumption)]
/-- What was read as a page has these bytes. -/
theorem getPg_read {n : Nat} {f : Nat → Int} {k : Int} {s : ByteArray} (hf : ∀ i, i < n → 0 ≤ f i ∧ f i ≤ 255) (h : getPg n f = (k, s, true)) : (k = 1 ∨ k = 2) ∧ s.size ≤ 240 ∧ pageL k s = lof n f := by
  unfold getPg at h
  split at h
  · rename_i hc
    obtain ⟨hg, h1, h2, h3, h4, h5⟩ := hc
    obtain ⟨⟨k', q, b⟩, e1⟩ : ∃ x, getU (n - 4) f 0 = x := ⟨_, rfl⟩
    rw [e1] at h h1 h2 h3 h4 h5
    simp only at h h1 h2 h3 h4 h5
    obtain ⟨⟨s', r, b'⟩, e2⟩ : ∃ x, getText (n - 4) f q = x := ⟨_, rfl⟩
    rw [e2] at h h2 h3 h5
    simp only at h h2 h3 h5
    subst h1 h2
    simp only [Prod.mk.injEq, and_true] at h
    obtain ⟨rfl, rfl⟩ := h
    refine ⟨h4, h5, ?_⟩
    have := (page_iff hf hg e1 e2).2 ⟨h3, h4, h5⟩
    unfold pageF at this
    rwa [if_pos ⟨h4, h5⟩] at this
  · cases h
end Go.Proofs.Ytdhfbblameiloaa

/-
  The program's putNumbers at one number: what was there, and behind it the number's groups, in memory of its own.
-/
namespace Go.Proofs.Ytdhfbblameiloaa
open Go.RowKit
set_option maxRecDepth 4000

set_option maxHeartbeats 1000000 in
theorem putNums_one (b off n cap : Nat) (f : Nat → Int) (x : Int) (b2 : Nat) (w : World) (hv : View w (some ⟨b, off, none⟩) n cap f) (hn : n ≤ 35184372088832) (hx0 : -9223372036854775808 ≤ x) (hx1 : x ≤ 9223372036854775807)
    (hx : w.cell? ⟨b2, 0, none⟩ = some (.int .i64 x)) :
    Calls Try.prog 132 #[.slice (some ⟨b, off, none⟩) n cap, .slice (some ⟨b2, 0, none⟩) 1 1] w fun e w' => ∃ g c, e = .returned (.slice (some ⟨g, 0, none⟩) (n + (groups (clampN x)).length) c) ∧ w.heap.size ≤ g ∧ n + (groups (clampN x)).length ≤ c ∧ Row 5 w' g (n + (groups (clampN x)).length) (fun i => (lof n f ++ groups (clampN x)).getD i 0) ∧ Below w.heap.size w w' := by
  obtain ⟨i0, hi, hz0, hz1, hz2⟩ := info_parts Try.info5
  go_enter Try.func132, Try.ntmps132
  go_wp2
  refine wp_loop_rounds 2 ?_
  rw [rounds_succ]
  go_wp2
  all_goals
    go_loopg [5, 8] (clampN x).toNat (fun g v s wr => ∃ (y : Int) (ys : List Int), s = .int .i64 y ∧ 0 ≤ y ∧ y ≤ 1000000 ∧ g = y.toNat ∧ groups (clampN x) = ys ++ groups y ∧ wr.ownsRow w.heap.size 5 1 v ys.length (bl ys) ∧ Below w.heap.size w wr)
    case atStart => exact ⟨clampN x, [], congrArg (Value.int .i64) (by unfold clampN; split <;> (try split) <;> omega), (clampN_bd x).1, (clampN_bd x).2, rfl, rfl, World.ownsRow_nil _ _ _ _, Below.refl _ _⟩
    case round =>
      obtain ⟨y, ys, rfl, hy0, hy1, rfl, hgr, hown, hB⟩ := hrel
      have HG : Hid (groups (clampN x) = ys ++ groups y) := hgr
      have hlen : ys.length ≤ 3 := by have := groups_len (clampN x); rw [hgr] at this; simp at this; have := groups_len y; omega
      clear hgr
      by_cases hlt : y < 128
      · go_wp2_with (first | (at_builtin; go_must (refine wpList_append_own _ rfl (.tmp 29) (.tmp 32) 27 rfl w.heap.size 5 i0 (.int .u8 0) 1 1 Try.underlying27 hi hz0 hz1 hz2 rfl (by decide) u5 _ _ rfl (hown.alloc _) ⟨wr.heap.size, 0, none⟩ 1 1 [.int .u8 y] rfl rfl (cellNew _ _ _) (bl_one [y]) (by unfold maxLen; omega) (by omega) (by have := hB.size; simp; omega) ?_); intro v2 w2 hown2 hgr2 _))
        have hB2 : Below w.heap.size w w2 := (hB.alloc hB.size _).grown hgr2 (by have := hB.size; simp; omega) (fun k hk => (hown.lt k hk).1)
        have hO2 : w2.ownsRow w.heap.size 5 1 v2 (groups (clampN x)).length (bl (groups (clampN x))) := by
          rw [HG.out, groups_last y hlt, List.length_append, bl_append]
          exact hown2
        clear hgr2 hown hown2 hB
        obtain ⟨g, c, hv2, hg, hgc, hrow⟩ := row_of_own hO2 (groups_len (clampN x)).1
        clear hO2
        have HL : Hid ((groups (clampN x)).length ≤ 3) := (groups_len (clampN x)).2
        have HB : Hid (∀ i, i < (groups (clampN x)).length → 0 ≤ (groups (clampN x)).getD i 0 ∧ (groups (clampN x)).getD i 0 ≤ 255) := fun i hi => by
          have := groups_byte (clampN x) (clampN_bd x).1 (clampN_bd x).2 _ (List.getElem_mem hi)
          simpa [hi] using this
        generalize hgs : groups (clampN x) = gs at *
        have HE : Hid (groups (clampN x) = gs) := hgs
        clear hgs HG
        rw [hv2]
        clear hv2
        go_wp2
        rw [rounds_succ]
        go_wp2_with fail
        refine (putBytes_any b off n cap f (some ⟨g, 0, none⟩) gs.length c (fun i => gs.getD i 0) w2 (hv.below hB2) (hrow.view hgc HB.out) (by intro h; cases h) (by have := HL.out; omega)).mono ?_
        rintro e w3 ⟨rfl, hown3, hb3⟩
        go_wp2
        go_ret
        rw [lof_self] at hown3
        rw [HE.out]
        exact ⟨w2.heap.size, n + gs.length, rfl, hB2.size, Nat.le_refl _, row_of_owned hown3, hB2.trans (hb3.mono hB2.size)⟩
      · have hG2 : Hid (groups (clampN x) = (ys ++ [y % 128 + 128]) ++ groups (y / 128)) := by
          have := HG.out
          rw [groups_step y (by omega) hy1] at this
          rw [List.append_assoc]; exact this
        go_wp2_with (at_builtin; go_must (refine wpList_append_own _ rfl (.tmp 20) (.tmp 25) 27 rfl w.heap.size 5 i0 (.int .u8 0) 1 1 Try.underlying27 hi hz0 hz1 hz2 rfl (by decide) u5 _ _ rfl (hown.alloc _) ⟨wr.heap.size, 0, none⟩ 1 1 [.int .u8 (y % 128 + 128)] rfl rfl (cellNew _ _ _) (bl_one [y % 128 + 128]) (by unfold maxLen; omega) (by omega) (by have := hB.size; simp; omega) ?_); intro v2 w2 hown2 hgr2 _)
        have hB2 : Below w.heap.size w w2 := (hB.alloc hB.size _).grown hgr2 (by have := hB.size; simp; omega) (fun k hk => (hown.lt k hk).1)
        have hO2 : w2.ownsRow w.heap.size 5 1 v2 (ys ++ [y % 128 + 128]).length (bl (ys ++ [y % 128 + 128])) := by
          rw [List.length_append, bl_append]
          exact hown2
        clear hgr2 hown hown2 hB
        go_wp2
        go_roundg ((y / 128).toNat)
        case measure => omega
        case rel => exact ⟨y / 128, ys ++ [y % 128 + 128], rfl, by omega, by omega, rfl, hG2.out, hO2, hB2⟩

end Go.Proofs.Ytdhfbblameiloaa

