/-
  NodeKey
-/
import Derived.Test.YtofghefenfdlpaaCh3
/-
  The draw of a key.
-/
namespace Go.Proofs.Ytofghefenfdlpaa
open Go.RowKit
set_option maxRecDepth 4000

def key1L : List ByteArray := [⟨#[97]⟩, ⟨#[98]⟩, ⟨#[99]⟩, ⟨#[100]⟩, ⟨#[101]⟩, ⟨#[102]⟩, ⟨#[103]⟩, ⟨#[104]⟩]
def key2L : List ByteArray := [⟨#[]⟩, ⟨#[49]⟩, ⟨#[50]⟩, ⟨#[108, 111, 110, 103, 101, 114, 45, 97, 110, 100, 45, 108, 111, 110, 103, 101, 114, 45, 107, 101, 121]⟩]
set_option maxHeartbeats 2000000 in
theorem l14Key_any (g : Nat) (ao : Option Addr) (n cap : Nat) (f : Nat → Int) (w : World) (hn : n ≤ 1048576) (hC : Cur w g ao n cap f) :
    Calls Try.prog 44 #[.pointer (some ⟨g, 0, none⟩)] w fun e w' => ∃ s : ByteArray, e = .returned (.string s) ∧ s.size ≤ 100 ∧ CN w g ao n cap f w' := by
  have hR := CN.start hC
  have hSt := l1Str_mem g ao n cap f key1L w.heap.size w rfl hn (by decide) (by decide) hR.cur
  unfold key1L at hSt
  clear hC
  go_enter Try.func44, Try.ntmps44
  go_wp2_with fail
  refine hSt.mono ?_
  rintro e w1 ⟨y, rfl, hy, hC1, hB1⟩
  have hys : y.size ≤ 25 := few_of hy (by decide)
  replace hR := hR.next hC1 hB1
  clear hSt hy hC1 hB1
  have hSt := l1Str_mem g ao n cap f key2L w1.heap.size w1 rfl hn (by decide) (by decide) hR.cur
  unfold key2L at hSt
  go_wp2_with fail
  refine hSt.mono ?_
  rintro e w2 ⟨z, rfl, hz, hC2, hB2⟩
  have hzs : z.size ≤ 25 := few_of hz (by decide)
  replace hR := hR.next hC2 hB2
  clear hSt hz hC2 hB2
  have hzl : ¬ (y.size + z.size > 9223372036854775807) := by omega
  go_wp2
  go_ret
  exact ⟨_, rfl, by rw [ByteArray.size_append]; omega, hR⟩
end Go.Proofs.Ytofghefenfdlpaa

