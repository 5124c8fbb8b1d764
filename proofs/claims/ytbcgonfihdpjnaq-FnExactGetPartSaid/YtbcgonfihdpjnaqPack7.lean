/-
  Together: PartGetPlain, ValInner, ValOfWalk, ValOkImpl, PartImpl, FormOf
-/
import Derived.Test.YtbcgonfihdpjnaqPack6
import Derived.Test.YtbcgonfihdpjnaqPack5
import Derived.Test.YtbcgonfihdpjnaqPack1
import Derived.Test.YtbcgonfihdpjnaqPack2
import Derived.Deep.RegionWith
import Derived.BigQuiet
import Derived.Test.YtbcgonfihdpjnaqPack3
/-
  What the program reads as one value of a key, plainly: it is what is to be read.
-/
namespace Go.Proofs.Ytbcgonfihdpjnaq
open Go.RowKit
set_option maxRecDepth 4000

theorem getF_from {n : Nat} {f g : Nat → Int} {p : Int} (h : ∀ i : Nat, p ≤ i → f i = g i) : getF n f p = getF n g p := by
  unfold getF
  by_cases hp : p < 0 ∨ (n : Int) - p < 4
  · rw [if_pos hp, if_pos hp]
  · rw [if_neg hp, if_neg hp, show (fun i => f (p.toNat + i)) = (fun i => g (p.toNat + i)) from funext (fun i => h _ (by omega))]
theorem getV_from {n : Nat} {f g : Nat → Int} {p : Int} (h : ∀ i : Nat, p ≤ i → f i = g i) : getV n f p = getV n g p := by
  unfold getV
  by_cases hp : p < 0 ∨ (n : Int) ≤ p
  · rw [if_pos hp, if_pos hp]
  · have h0 : f p.toNat = g p.toNat := h _ (by omega)
    have h1 : (fun j => f (p.toNat + 1 + j)) = (fun j => g (p.toNat + 1 + j)) := funext (fun j => h _ (by omega))
    have hd : digF f p.toNat = digF g p.toNat := by unfold digF; rw [h0, h1]
    have hm : numV f p.toNat = numV g p.toNat := by unfold numV; rw [h0, hd]
    have hb : badV f p.toNat ↔ badV g p.toNat := by unfold badV; rw [h0, hd, hm]
    simp only [h0, hm, hb]
theorem getE_from {n : Nat} {f g : Nat → Int} {p : Int} (h : ∀ i : Nat, p ≤ i → f i = g i) : getE n f p = getE n g p := by
  unfold getE
  by_cases hp : p < 0
  · rw [if_pos hp, if_pos hp]
  · have e : fromL n f p.toNat = fromL n g p.toNat := by
      unfold fromL
      rw [show (fun i => f (p.toNat + i)) = (fun i => g (p.toNat + i)) from funext (fun i => h _ (by omega))]
    rw [e]
theorem getB_from {n : Nat} {f g : Nat → Int} {p : Int} (h : ∀ i : Nat, p ≤ i → f i = g i) : getB n f p = getB n g p := by
  unfold getB
  rw [h p.toNat (by omega)]
theorem rawI_from {n : Nat} {f g : Nat → Int} {t p : Int} (h : ∀ i : Nat, p ≤ i → f i = g i) : rawI n f t p = rawI n g t p := by
  unfold rawI
  rw [getF_from h, getV_from h, getE_from h, getB_from h]

theorem rawI_out {n : Nat} {f : Nat → Int} {t p : Int} (h : p < 0 ∨ (n : Int) < p) : (rawI n f t p).ok = false := by
  unfold rawI
  split
  · rw [getF_no n f p (by omega)]
  · split
    · rw [getV_out n f p (by omega)]
    · split
      · rcases h with h | h
        · rw [getE_neg n f p h]
        · obtain ⟨i, rfl⟩ : ∃ i : Nat, p = i := ⟨p.toNat, by omega⟩
          rw [getE_none (by rw [fromL_end n f i (by omega)]; rfl)]
      · unfold getB
        rw [if_pos (by omega)]

/-- What the program reads behind the part's own words: of bytes F from p on. -/
def nextI (n : Nat) (F : Nat → Int) (t : Int) (nul : Bool) (p : Int) : Got :=
  if nul then (if (getB n F p).2.2 = false then .no else if (getB n F p).1 = 0 then ⟨0, 0, noBytes, (getB n F p).2.1, true⟩ else (rawI n F t (getB n F p).2.1).chk) else (rawI n F t p).chk

theorem chk_no {g : Got} (h : g.ok = false) : g.chk = .no := by unfold Got.chk; rw [h]; rfl

theorem nextI_is {n : Nat} {f F : Nat → Int} {c t p : Int} {nul d : Bool} (hok : partOk c t = true) (ht : 1 ≤ t ∧ t ≤ 4) (hb : ∀ i, i < n → 0 ≤ f i ∧ f i ≤ 255) (hF : ∀ i : Nat, p ≤ i → F i = turned d f i) : nextI n F t nul p = getP n f c t nul d p := by
  by_cases hp : p < 0 ∨ (n : Int) < p
  · rw [getP_out hp]
    unfold nextI
    cases nul with
    | false => exact chk_no (rawI_out hp)
    | true =>
      have e : getB n F p = (0, 0, false) := by unfold getB; rw [if_pos (by omega)]
      simp [e]
  · rw [getP_in hok (by omega) (by omega)]
    obtain ⟨i, rfl⟩ : ∃ i : Nat, p = i := ⟨p.toNat, by omega⟩
    cases nul with
    | false =>
      rw [getN_no]
      show (rawI n F t (i : Int)).chk = _
      rw [rawI_from hF, rawI_chk ht]
    | true =>
      by_cases hn : i = n
      · subst hn
        rw [getN_end]
        have e : getB i F (i : Int) = (0, 0, false) := by unfold getB; rw [if_pos (by omega)]
        unfold nextI
        simp [e]
      · have hi : i < n := by omega
        have hG := hF i (Int.le_refl _)
        have hby : 0 ≤ turned d f i := by have := hb i hi; unfold turned; split <;> simp <;> omega
        by_cases h1 : 1 < turned d f i
        · rw [getN_big h1]
          have e : getB n F (i : Int) = (0, 0, false) := by unfold getB; rw [Int.toNat_natCast, hG, if_pos (Or.inr (Or.inr h1))]
          unfold nextI
          simp [e]
        · have e : getB n F (i : Int) = (turned d f i, (i : Int) + 1, true) := by unfold getB; rw [Int.toNat_natCast, hG, if_neg (by omega)]
          by_cases h0 : turned d f i = 0
          · rw [getN_zero hi h0]
            unfold nextI
            simp [e, h0]
          · rw [getN_one hi (by omega)]
            unfold nextI
            simp only [e, h0, if_true, if_false, Bool.true_eq_false]
            rw [rawI_from (fun j hj => hF j (by omega)), rawI_chk ht]
end Go.Proofs.Ytbcgonfihdpjnaq

/-
  The program's values within: what each function answers of each kind.
-/
namespace Go.Proofs.Ytbcgonfihdpjnaq
open Go.RowKit
set_option maxRecDepth 4000

/-- A value within, as the machine holds it. -/
def V.enc : V → Value
  | .null => .iface 85 (.agg #[])
  | .int n => .iface 86 (.int .i64 n)
  | .num n => .iface 87 (.int .i64 n)
  | .text s => .iface 88 (.string s)
  | .bool b => .iface 89 (.bool b)

theorem as_null_null (W : World) : (Instr.typeAssert (.iface 85 (.agg #[])) 78 85 true).run Try.prog W = .ok (.tuple #[.agg #[], .bool true]) W := by kernel_rfl
theorem as_null_int (W : World) : (Instr.typeAssert (.iface 85 (.agg #[])) 78 86 true).run Try.prog W = .ok (.tuple #[.int .i64 0, .bool false]) W := by kernel_rfl
theorem as_null_num (W : World) : (Instr.typeAssert (.iface 85 (.agg #[])) 78 87 true).run Try.prog W = .ok (.tuple #[.int .i64 0, .bool false]) W := by kernel_rfl
theorem as_null_text (W : World) : (Instr.typeAssert (.iface 85 (.agg #[])) 78 88 true).run Try.prog W = .ok (.tuple #[.string ⟨#[]⟩, .bool false]) W := by kernel_rfl
theorem as_null_bool (W : World) : (Instr.typeAssert (.iface 85 (.agg #[])) 78 89 true).run Try.prog W = .ok (.tuple #[.bool false, .bool false]) W := by kernel_rfl
theorem as_int_null (n : Int) (W : World) : (Instr.typeAssert (.iface 86 (.int .i64 n)) 78 85 true).run Try.prog W = .ok (.tuple #[.agg #[], .bool false]) W := by kernel_rfl
theorem as_int_int (n : Int) (W : World) : (Instr.typeAssert (.iface 86 (.int .i64 n)) 78 86 true).run Try.prog W = .ok (.tuple #[.int .i64 n, .bool true]) W := by kernel_rfl
theorem as_int_num (n : Int) (W : World) : (Instr.typeAssert (.iface 86 (.int .i64 n)) 78 87 true).run Try.prog W = .ok (.tuple #[.int .i64 0, .bool false]) W := by kernel_rfl
theorem as_int_text (n : Int) (W : World) : (Instr.typeAssert (.iface 86 (.int .i64 n)) 78 88 true).run Try.prog W = .ok (.tuple #[.string ⟨#[]⟩, .bool false]) W := by kernel_rfl
theorem as_int_bool (n : Int) (W : World) : (Instr.typeAssert (.iface 86 (.int .i64 n)) 78 89 true).run Try.prog W = .ok (.tuple #[.bool false, .bool false]) W := by kernel_rfl
theorem as_num_null (n : Int) (W : World) : (Instr.typeAssert (.iface 87 (.int .i64 n)) 78 85 true).run Try.prog W = .ok (.tuple #[.agg #[], .bool false]) W := by kernel_rfl
theorem as_num_int (n : Int) (W : World) : (Instr.typeAssert (.iface 87 (.int .i64 n)) 78 86 true).run Try.prog W = .ok (.tuple #[.int .i64 0, .bool false]) W := by kernel_rfl
theorem as_num_num (n : Int) (W : World) : (Instr.typeAssert (.iface 87 (.int .i64 n)) 78 87 true).run Try.prog W = .ok (.tuple #[.int .i64 n, .bool true]) W := by kernel_rfl
theorem as_num_text (n : Int) (W : World) : (Instr.typeAssert (.iface 87 (.int .i64 n)) 78 88 true).run Try.prog W = .ok (.tuple #[.string ⟨#[]⟩, .bool false]) W := by kernel_rfl
theorem as_num_bool (n : Int) (W : World) : (Instr.typeAssert (.iface 87 (.int .i64 n)) 78 89 true).run Try.prog W = .ok (.tuple #[.bool false, .bool false]) W := by kernel_rfl
theorem as_text_null (s : ByteArray) (W : World) : (Instr.typeAssert (.iface 88 (.string s)) 78 85 true).run Try.prog W = .ok (.tuple #[.agg #[], .bool false]) W := by kernel_rfl
theorem as_text_int (s : ByteArray) (W : World) : (Instr.typeAssert (.iface 88 (.string s)) 78 86 true).run Try.prog W = .ok (.tuple #[.int .i64 0, .bool false]) W := by kernel_rfl
theorem as_text_num (s : ByteArray) (W : World) : (Instr.typeAssert (.iface 88 (.string s)) 78 87 true).run Try.prog W = .ok (.tuple #[.int .i64 0, .bool false]) W := by kernel_rfl
theorem as_text_text (s : ByteArray) (W : World) : (Instr.typeAssert (.iface 88 (.string s)) 78 88 true).run Try.prog W = .ok (.tuple #[.string s, .bool true]) W := by kernel_rfl
theorem as_text_bool (s : ByteArray) (W : World) : (Instr.typeAssert (.iface 88 (.string s)) 78 89 true).run Try.prog W = .ok (.tuple #[.bool false, .bool false]) W := by kernel_rfl
theorem as_bool_null (b : Bool) (W : World) : (Instr.typeAssert (.iface 89 (.bool b)) 78 85 true).run Try.prog W = .ok (.tuple #[.agg #[], .bool false]) W := by kernel_rfl
theorem as_bool_int (b : Bool) (W : World) : (Instr.typeAssert (.iface 89 (.bool b)) 78 86 true).run Try.prog W = .ok (.tuple #[.int .i64 0, .bool false]) W := by kernel_rfl
theorem as_bool_num (b : Bool) (W : World) : (Instr.typeAssert (.iface 89 (.bool b)) 78 87 true).run Try.prog W = .ok (.tuple #[.int .i64 0, .bool false]) W := by kernel_rfl
theorem as_bool_text (b : Bool) (W : World) : (Instr.typeAssert (.iface 89 (.bool b)) 78 88 true).run Try.prog W = .ok (.tuple #[.string ⟨#[]⟩, .bool false]) W := by kernel_rfl
theorem as_bool_bool (b : Bool) (W : World) : (Instr.typeAssert (.iface 89 (.bool b)) 78 89 true).run Try.prog W = .ok (.tuple #[.bool b, .bool true]) W := by kernel_rfl

set_option maxHeartbeats 1000000 in
theorem inRange_any (v : V) (w : World) :
    Calls Try.prog 69 #[v.enc] w fun e w' => e = .returned (.bool v.rng) ∧ w' = w := by
  cases v with
  | null =>
    have q_int := as_null_int
    have q_num := as_null_num
    have q_text := as_null_text
    unfold V.enc
    go_enter Try.func69, Try.ntmps69
    go_wp2
    all_goals go_ret
    all_goals (refine ⟨?_, rfl⟩; first | rfl | (simp_all [V.rng] <;> omega))
  | int n =>
    have q_int := as_int_int n
    unfold V.enc
    go_enter Try.func69, Try.ntmps69
    go_wp2
    all_goals go_ret
    all_goals (refine ⟨?_, rfl⟩; first | rfl | (simp_all [V.rng] <;> omega))
  | num n =>
    have q_int := as_num_int n
    have q_num := as_num_num n
    unfold V.enc
    go_enter Try.func69, Try.ntmps69
    go_wp2
    all_goals go_ret
    all_goals (refine ⟨?_, rfl⟩; first | rfl | (simp_all [V.rng] <;> omega))
  | text s =>
    have q_int := as_text_int s
    have q_num := as_text_num s
    have q_text := as_text_text s
    unfold V.enc
    go_enter Try.func69, Try.ntmps69
    go_wp2
    all_goals go_ret
    all_goals (refine ⟨?_, rfl⟩; first | rfl | (simp_all [V.rng] <;> omega))
  | bool b =>
    have q_int := as_bool_int b
    have q_num := as_bool_num b
    have q_text := as_bool_text b
    unfold V.enc
    go_enter Try.func69, Try.ntmps69
    go_wp2
    all_goals go_ret
    all_goals (refine ⟨?_, rfl⟩; first | rfl | (simp_all [V.rng] <;> omega))

set_option maxHeartbeats 1000000 in
theorem valOf_any (v : V) (w : World) :
    Calls Try.prog 70 #[v.enc] w fun e w' => e = .returned (valAgg v.k v.n v.s) ∧ Below w.heap.size w w' := by
  cases v with
  | null =>
    have q_int := as_null_int
    have q_num := as_null_num
    have q_text := as_null_text
    have q_bool := as_null_bool
    have hm : ∀ W : World, (method 216 85 (.agg #[]) "loop.example/g00322/impl.kind").run Try.prog W = .ok (90, .agg #[]) W := fun _ => by kernel_rfl
    have hn : ∀ W : World, (nilAhead 216 85 (.agg #[]) "loop.example/g00322/impl.kind").run Try.prog W = .ok (some false) W := fun _ => by kernel_rfl
    unfold V.enc
    go_enter Try.func70, Try.ntmps70
    go_wp2
    all_goals refine bodyPost_ret (v := valAgg _ _ _) (by simp [results, Try.results70, go_sem, valAgg]; try exact ⟨rfl, rfl, rfl⟩) rfl ⟨rfl, ?_⟩
    all_goals repeat (first | exact Below.refl _ _ | refine Below.alloc ?_ (by simp <;> omega) _ | refine Below.drew ?_)
  | int n =>
    have q_int := as_int_int n
    have hm : ∀ W : World, (method 216 86 (.int .i64 n) "loop.example/g00322/impl.kind").run Try.prog W = .ok (91, .int .i64 n) W := fun _ => by kernel_rfl
    have hn : ∀ W : World, (nilAhead 216 86 (.int .i64 n) "loop.example/g00322/impl.kind").run Try.prog W = .ok (some false) W := fun _ => by kernel_rfl
    unfold V.enc
    go_enter Try.func70, Try.ntmps70
    go_wp2
    all_goals refine bodyPost_ret (v := valAgg _ _ _) (by simp [results, Try.results70, go_sem, valAgg]; try exact ⟨rfl, rfl, rfl⟩) rfl ⟨rfl, ?_⟩
    all_goals repeat (first | exact Below.refl _ _ | refine Below.alloc ?_ (by simp <;> omega) _ | refine Below.drew ?_)
  | num n =>
    have q_int := as_num_int n
    have q_num := as_num_num n
    have hm : ∀ W : World, (method 216 87 (.int .i64 n) "loop.example/g00322/impl.kind").run Try.prog W = .ok (92, .int .i64 n) W := fun _ => by kernel_rfl
    have hn : ∀ W : World, (nilAhead 216 87 (.int .i64 n) "loop.example/g00322/impl.kind").run Try.prog W = .ok (some false) W := fun _ => by kernel_rfl
    unfold V.enc
    go_enter Try.func70, Try.ntmps70
    go_wp2
    all_goals refine bodyPost_ret (v := valAgg _ _ _) (by simp [results, Try.results70, go_sem, valAgg]; try exact ⟨rfl, rfl, rfl⟩) rfl ⟨rfl, ?_⟩
    all_goals repeat (first | exact Below.refl _ _ | refine Below.alloc ?_ (by simp <;> omega) _ | refine Below.drew ?_)
  | text s =>
    have q_int := as_text_int s
    have q_num := as_text_num s
    have q_text := as_text_text s
    have hm : ∀ W : World, (method 216 88 (.string s) "loop.example/g00322/impl.kind").run Try.prog W = .ok (93, .string s) W := fun _ => by kernel_rfl
    have hn : ∀ W : World, (nilAhead 216 88 (.string s) "loop.example/g00322/impl.kind").run Try.prog W = .ok (some false) W := fun _ => by kernel_rfl
    unfold V.enc
    go_enter Try.func70, Try.ntmps70
    go_wp2
    all_goals refine bodyPost_ret (v := valAgg _ _ _) (by simp [results, Try.results70, go_sem, valAgg]; try exact ⟨rfl, rfl, rfl⟩) rfl ⟨rfl, ?_⟩
    all_goals repeat (first | exact Below.refl _ _ | refine Below.alloc ?_ (by simp <;> omega) _ | refine Below.drew ?_)
  | bool b =>
    have q_int := as_bool_int b
    have q_num := as_bool_num b
    have q_text := as_bool_text b
    have q_bool := as_bool_bool b
    have hm : ∀ W : World, (method 216 89 (.bool b) "loop.example/g00322/impl.kind").run Try.prog W = .ok (94, .bool b) W := fun _ => by kernel_rfl
    have hn : ∀ W : World, (nilAhead 216 89 (.bool b) "loop.example/g00322/impl.kind").run Try.prog W = .ok (some false) W := fun _ => by kernel_rfl
    unfold V.enc
    go_enter Try.func70, Try.ntmps70
    cases b <;> go_wp2
    all_goals refine bodyPost_ret (v := valAgg _ _ _) (by simp [results, Try.results70, go_sem, valAgg]; try exact ⟨rfl, rfl, rfl⟩) rfl ⟨rfl, ?_⟩
    all_goals repeat (first | exact Below.refl _ _ | refine Below.alloc ?_ (by simp <;> omega) _ | refine Below.drew ?_)

end Go.Proofs.Ytbcgonfihdpjnaq

/-
  What the program holds of three fields: the value within, and whether it is sound.
-/
namespace Go.Proofs.Ytbcgonfihdpjnaq
open Go.RowKit
set_option maxRecDepth 4000

theorem okF_at {k n : Int} {s : ByteArray} {v : V} (h : ofFields k n s = some v) : okF k n s = (v.rng && eqV v.k v.n v.s k n s) := by
  unfold okF
  rw [h]
  rfl

theorem box_cells (w W' : World) (k n : Int) (s : ByteArray) (h : Below (w.heap.size + 1) (w.alloc (.cells #[.int .i64 k, .int .i64 n, .string s] 38)) W') : W'.cell? ⟨w.heap.size, 0, none⟩ = some (.int .i64 k) ∧ W'.cell? ⟨w.heap.size, 1, none⟩ = some (.int .i64 n) ∧ W'.cell? ⟨w.heap.size, 2, none⟩ = some (.string s) := by
  refine ⟨?_, ?_, ?_⟩
  all_goals (rw [h.cell (by simp)]; simp [go_sem])

set_option maxHeartbeats 2000000 in
theorem valueOf_bool_true (n : Int) (s : ByteArray) (hz : (n != 0) = true) (w : World) :
    Calls Try.prog 61 #[.agg #[.int .i64 4, .int .i64 n, .string s]] w fun e w' => e = .returned (.tuple #[V.enc (.bool true), .bool (eqV 4 1 ⟨#[]⟩ 4 n s)]) ∧ Below w.heap.size w w' := by
  have hO : ∀ W, Calls Try.prog 70 #[.iface 89 (.bool true)] W fun e w' => e = .returned (.agg #[.int .i64 4, .int .i64 1, .string ⟨#[]⟩]) ∧ Below W.heap.size W w' := fun W => valOf_any (.bool true) W
  have hbox := fun W' h => box_cells w W' 4 n s h
  have qe := eqVal_run 4 1 ⟨#[]⟩ 4 n s
  have hI : ∀ W, Calls Try.prog 69 #[.iface 89 (.bool true)] W fun e w' => e = .returned (.bool true) ∧ w' = W := fun W => inRange_any (.bool true) W
  go_enter Try.func61, Try.ntmps61
  go_wp2_with (fail)
  go_region_with (first | (go_at_call 69; refine (hI _).mono ?_; rintro e _ ⟨rfl, rfl⟩) | (go_at_call 70; refine (hO _).mono ?_; rintro e w2 ⟨rfl, hB⟩; obtain ⟨hb0, hb1, hb2⟩ := hbox _ (Below.trans (by repeat (first | exact Below.refl _ _ | refine Below.drew ?_)) (hB.mono (by simp)))))
  all_goals go_wp2
  all_goals go_ret2
  all_goals refine ⟨rfl, Below.trans (b := w.alloc _) ((Below.refl _ _).alloc (Nat.le_refl _) _) (Below.trans (by repeat (first | exact Below.refl _ _ | refine Below.drew ?_)) (hB.mono (by simp)))⟩

set_option maxHeartbeats 2000000 in
theorem valueOf_bool_false (s : ByteArray) (w : World) :
    Calls Try.prog 61 #[.agg #[.int .i64 4, .int .i64 0, .string s]] w fun e w' => e = .returned (.tuple #[V.enc (.bool false), .bool (eqV 4 0 ⟨#[]⟩ 4 0 s)]) ∧ Below w.heap.size w w' := by
  have hO : ∀ W, Calls Try.prog 70 #[.iface 89 (.bool false)] W fun e w' => e = .returned (.agg #[.int .i64 4, .int .i64 0, .string ⟨#[]⟩]) ∧ Below W.heap.size W w' := fun W => valOf_any (.bool false) W
  have hbox := fun W' h => box_cells w W' 4 0 s h
  have qe := eqVal_run 4 0 ⟨#[]⟩ 4 0 s
  have hI : ∀ W, Calls Try.prog 69 #[.iface 89 (.bool false)] W fun e w' => e = .returned (.bool true) ∧ w' = W := fun W => inRange_any (.bool false) W
  go_enter Try.func61, Try.ntmps61
  go_wp2_with (fail)
  go_region_with (first | (go_at_call 69; refine (hI _).mono ?_; rintro e _ ⟨rfl, rfl⟩) | (go_at_call 70; refine (hO _).mono ?_; rintro e w2 ⟨rfl, hB⟩; obtain ⟨hb0, hb1, hb2⟩ := hbox _ (Below.trans (by repeat (first | exact Below.refl _ _ | refine Below.drew ?_)) (hB.mono (by simp)))))
  all_goals go_wp2
  all_goals go_ret2
  all_goals refine ⟨rfl, Below.trans (b := w.alloc _) ((Below.refl _ _).alloc (Nat.le_refl _) _) (Below.trans (by repeat (first | exact Below.refl _ _ | refine Below.drew ?_)) (hB.mono (by simp)))⟩

set_option maxHeartbeats 2000000 in
theorem valueOf_null (n : Int) (s : ByteArray) (w : World) :
    Calls Try.prog 61 #[.agg #[.int .i64 0, .int .i64 n, .string s]] w fun e w' => e = .returned (.tuple #[V.enc .null, .bool (V.rng .null && eqV 0 0 ⟨#[]⟩ 0 n s)]) ∧ Below w.heap.size w w' := by
  have hO : ∀ W, Calls Try.prog 70 #[.iface 85 (.agg #[])] W fun e w' => e = .returned (.agg #[.int .i64 0, .int .i64 0, .string ⟨#[]⟩]) ∧ Below W.heap.size W w' := fun W => valOf_any .null W
  have hbox := fun W' h => box_cells w W' 0 n s h
  have qe := eqVal_run 0 0 ⟨#[]⟩ 0 n s
  have hI : ∀ W, Calls Try.prog 69 #[.iface 85 (.agg #[])] W fun e w' => e = .returned (.bool true) ∧ w' = W := fun W => by have := inRange_any .null W; exact this
  go_enter Try.func61, Try.ntmps61
  go_wp2_with (fail)
  go_region_with (first | (go_at_call 69; refine (hI _).mono ?_; rintro e _ ⟨rfl, rfl⟩) | (go_at_call 70; refine (hO _).mono ?_; rintro e w2 ⟨rfl, hB⟩; obtain ⟨hb0, hb1, hb2⟩ := hbox _ (Below.trans (by repeat (first | exact Below.refl _ _ | refine Below.drew ?_)) (hB.mono (by simp)))))
  all_goals go_wp2
  all_goals go_ret2
  all_goals refine ⟨rfl, Below.trans (b := w.alloc _) ((Below.refl _ _).alloc (Nat.le_refl _) _) (Below.trans (by repeat (first | exact Below.refl _ _ | refine Below.drew ?_)) (hB.mono (by simp)))⟩

set_option maxHeartbeats 2000000 in
theorem valueOf_int (n : Int) (s : ByteArray) (w : World) :
    Calls Try.prog 61 #[.agg #[.int .i64 1, .int .i64 n, .string s]] w fun e w' => e = .returned (.tuple #[V.enc (.int n), .bool (V.rng (.int n) && eqV 1 n ⟨#[]⟩ 1 n s)]) ∧ Below w.heap.size w w' := by
  have hO : ∀ W, Calls Try.prog 70 #[.iface 86 (.int .i64 n)] W fun e w' => e = .returned (.agg #[.int .i64 1, .int .i64 n, .string ⟨#[]⟩]) ∧ Below W.heap.size W w' := fun W => valOf_any (.int n) W
  have hbox := fun W' h => box_cells w W' 1 n s h
  have qe := eqVal_run 1 n ⟨#[]⟩ 1 n s
  cases hr : V.rng (.int n)
  case true =>
    have hI : ∀ W, Calls Try.prog 69 #[.iface 86 (.int .i64 n)] W fun e w' => e = .returned (.bool true) ∧ w' = W := fun W => by have := inRange_any (.int n) W; rw [hr] at this; exact this
    clear hr
    go_enter Try.func61, Try.ntmps61
    go_wp2_with (fail)
    go_region_with (first | (go_at_call 69; refine (hI _).mono ?_; rintro e _ ⟨rfl, rfl⟩) | (go_at_call 70; refine (hO _).mono ?_; rintro e w2 ⟨rfl, hB⟩; obtain ⟨hb0, hb1, hb2⟩ := hbox _ (Below.trans (by repeat (first | exact Below.refl _ _ | refine Below.drew ?_)) (hB.mono (by simp)))))
    all_goals go_wp2
    all_goals go_ret2
    all_goals refine ⟨rfl, Below.trans (b := w.alloc _) ((Below.refl _ _).alloc (Nat.le_refl _) _) (Below.trans (by repeat (first | exact Below.refl _ _ | refine Below.drew ?_)) (hB.mono (by simp)))⟩
  case false =>
    have hI : ∀ W, Calls Try.prog 69 #[.iface 86 (.int .i64 n)] W fun e w' => e = .returned (.bool false) ∧ w' = W := fun W => by have := inRange_any (.int n) W; rw [hr] at this; exact this
    clear hr
    go_enter Try.func61, Try.ntmps61
    go_wp2_with (fail)
    go_quiet (first | (go_at_call 69; exact Calls.quiet_of_same (hI _)))
    all_goals go_wp2
    all_goals go_ret2
    all_goals refine ⟨rfl, ?_⟩
    exact Below.trans ((Below.refl _ _).alloc (Nat.le_refl _) _) ⟨rfl, rfl, rfl, Nat.le_refl _, fun _ _ => rfl⟩

set_option maxHeartbeats 2000000 in
theorem valueOf_num (n : Int) (s : ByteArray) (w : World) :
    Calls Try.prog 61 #[.agg #[.int .i64 2, .int .i64 n, .string s]] w fun e w' => e = .returned (.tuple #[V.enc (.num n), .bool (V.rng (.num n) && eqV 2 n ⟨#[]⟩ 2 n s)]) ∧ Below w.heap.size w w' := by
  have hO : ∀ W, Calls Try.prog 70 #[.iface 87 (.int .i64 n)] W fun e w' => e = .returned (.agg #[.int .i64 2, .int .i64 n, .string ⟨#[]⟩]) ∧ Below W.heap.size W w' := fun W => valOf_any (.num n) W
  have hbox := fun W' h => box_cells w W' 2 n s h
  have qe := eqVal_run 2 n ⟨#[]⟩ 2 n s
  cases hr : V.rng (.num n)
  case true =>
    have hI : ∀ W, Calls Try.prog 69 #[.iface 87 (.int .i64 n)] W fun e w' => e = .returned (.bool true) ∧ w' = W := fun W => by have := inRange_any (.num n) W; rw [hr] at this; exact this
    clear hr
    go_enter Try.func61, Try.ntmps61
    go_wp2_with (fail)
    go_region_with (first | (go_at_call 69; refine (hI _).mono ?_; rintro e _ ⟨rfl, rfl⟩) | (go_at_call 70; refine (hO _).mono ?_; rintro e w2 ⟨rfl, hB⟩; obtain ⟨hb0, hb1, hb2⟩ := hbox _ (Below.trans (by repeat (first | exact Below.refl _ _ | refine Below.drew ?_)) (hB.mono (by simp)))))
    all_goals go_wp2
    all_goals go_ret2
    all_goals refine ⟨rfl, Below.trans (b := w.alloc _) ((Below.refl _ _).alloc (Nat.le_refl _) _) (Below.trans (by repeat (first | exact Below.refl _ _ | refine Below.drew ?_)) (hB.mono (by simp)))⟩
  case false =>
    have hI : ∀ W, Calls Try.prog 69 #[.iface 87 (.int .i64 n)] W fun e w' => e = .returned (.bool false) ∧ w' = W := fun W => by have := inRange_any (.num n) W; rw [hr] at this; exact this
    clear hr
    go_enter Try.func61, Try.ntmps61
    go_wp2_with (fail)
    go_quiet (first | (go_at_call 69; exact Calls.quiet_of_same (hI _)))
    all_goals go_wp2
    all_goals go_ret2
    all_goals refine ⟨rfl, ?_⟩
    exact Below.trans ((Below.refl _ _).alloc (Nat.le_refl _) _) ⟨rfl, rfl, rfl, Nat.le_refl _, fun _ _ => rfl⟩

set_option maxHeartbeats 2000000 in
theorem valueOf_text (n : Int) (s : ByteArray) (w : World) :
    Calls Try.prog 61 #[.agg #[.int .i64 3, .int .i64 n, .string s]] w fun e w' => e = .returned (.tuple #[V.enc (.text s), .bool (V.rng (.text s) && eqV 3 0 s 3 n s)]) ∧ Below w.heap.size w w' := by
  have hO : ∀ W, Calls Try.prog 70 #[.iface 88 (.string s)] W fun e w' => e = .returned (.agg #[.int .i64 3, .int .i64 0, .string s]) ∧ Below W.heap.size W w' := fun W => valOf_any (.text s) W
  have hbox := fun W' h => box_cells w W' 3 n s h
  have qe := eqVal_run 3 0 s 3 n s
  cases hr : V.rng (.text s)
  case true =>
    have hI : ∀ W, Calls Try.prog 69 #[.iface 88 (.string s)] W fun e w' => e = .returned (.bool true) ∧ w' = W := fun W => by have := inRange_any (.text s) W; rw [hr] at this; exact this
    clear hr
    go_enter Try.func61, Try.ntmps61
    go_wp2_with (fail)
    go_region_with (first | (go_at_call 69; refine (hI _).mono ?_; rintro e _ ⟨rfl, rfl⟩) | (go_at_call 70; refine (hO _).mono ?_; rintro e w2 ⟨rfl, hB⟩; obtain ⟨hb0, hb1, hb2⟩ := hbox _ (Below.trans (by repeat (first | exact Below.refl _ _ | refine Below.drew ?_)) (hB.mono (by simp)))))
    all_goals go_wp2
    all_goals go_ret2
    all_goals refine ⟨rfl, Below.trans (b := w.alloc _) ((Below.refl _ _).alloc (Nat.le_refl _) _) (Below.trans (by repeat (first | exact Below.refl _ _ | refine Below.drew ?_)) (hB.mono (by simp)))⟩
  case false =>
    have hI : ∀ W, Calls Try.prog 69 #[.iface 88 (.string s)] W fun e w' => e = .returned (.bool false) ∧ w' = W := fun W => by have := inRange_any (.text s) W; rw [hr] at this; exact this
    clear hr
    go_enter Try.func61, Try.ntmps61
    go_wp2_with (fail)
    go_quiet (first | (go_at_call 69; exact Calls.quiet_of_same (hI _)))
    all_goals go_wp2
    all_goals go_ret2
    all_goals refine ⟨rfl, ?_⟩
    exact Below.trans ((Below.refl _ _).alloc (Nat.le_refl _) _) ⟨rfl, rfl, rfl, Nat.le_refl _, fun _ _ => rfl⟩

def vOpt : Option V → Value
  | none => .nilIface
  | some v => v.enc

set_option maxHeartbeats 2000000 in
theorem valueOf_any (k n : Int) (s : ByteArray) (w : World) :
    Calls Try.prog 61 #[valAgg k n s] w fun e w' => e = .returned (.tuple #[vOpt (ofFields k n s), .bool (okF k n s)]) ∧ Below w.heap.size w w' := by
  unfold valAgg
  by_cases k0 : k = 0
  · subst k0
    have e : ofFields 0 n s = some .null := rfl
    rw [okF_at e, e]
    exact valueOf_null n s w
  by_cases k1 : k = 1
  · subst k1
    have e : ofFields 1 n s = some (.int n) := rfl
    rw [okF_at e, e]
    exact valueOf_int n s w
  by_cases k2 : k = 2
  · subst k2
    have e : ofFields 2 n s = some (.num n) := rfl
    rw [okF_at e, e]
    exact valueOf_num n s w
  by_cases k3 : k = 3
  · subst k3
    have e : ofFields 3 n s = some (.text s) := rfl
    rw [okF_at e, e]
    exact valueOf_text n s w
  by_cases k4 : k = 4
  · subst k4
    have e : ofFields 4 n s = some (.bool (n != 0)) := rfl
    rw [okF_at e, e]
    by_cases hz : n = 0
    · subst hz
      exact valueOf_bool_false s w
    · have hz : (n != 0) = true := by simpa using hz
      rw [hz]
      exact valueOf_bool_true n s hz w
  have e : ofFields k n s = none := by simp [ofFields, k0, k1, k2, k3, k4]
  have e2 : okF k n s = false := by unfold okF; rw [e]
  rw [e2, e]
  have q0 : (k == 0) = false := by simpa using k0
  have q1 : (k == 1) = false := by simpa using k1
  have q2 : (k == 2) = false := by simpa using k2
  have q3 : (k == 3) = false := by simpa using k3
  have q4 : (k == 4) = false := by simpa using k4
  clear e e2 k0 k1 k2 k3 k4
  go_enter Try.func61, Try.ntmps61
  go_wp2
  go_ret2
  refine ⟨rfl, ?_⟩
  repeat (first | exact Below.refl _ _ | refine Below.alloc ?_ (by simp <;> omega) _ | refine Below.drew ?_)
end Go.Proofs.Ytbcgonfihdpjnaq

/-
  The program's ValOk comes to the plain one.
-/
namespace Go.Proofs.Ytbcgonfihdpjnaq
open Go.RowKit
set_option maxRecDepth 4000

set_option maxHeartbeats 1000000 in
theorem valOk_any (k n : Int) (s : ByteArray) (w : World) :
    Calls Try.prog 47 #[.agg #[.int .i64 k, .int .i64 n, .string s]] w fun e w' => e = .returned (.bool (okF k n s)) ∧ Below w.heap.size w w' := by
  go_enter Try.func47, Try.ntmps47
  go_wp2_with fail
  refine (valueOf_any k n s _).mono ?_
  rintro e w1 ⟨rfl, hB⟩
  go_wp2
  go_ret
  exact ⟨rfl, ((Below.refl _ _).alloc (Nat.le_refl _) _).trans (hB.mono (by simp))⟩

end Go.Proofs.Ytbcgonfihdpjnaq

/-
  The program's PartOk and Fits. (Nothing fits a part of no type, even where it may not be nothing: as the program has it.)
-/
namespace Go.Proofs.Ytbcgonfihdpjnaq
open Go.RowKit
set_option maxRecDepth 4000

set_option maxHeartbeats 1000000 in
theorem implPartOk_any (c t : Int) (nul d : Bool) (w : World) :
    Calls Try.prog 14 #[.agg #[.int .i64 c, .int .i64 t, .bool nul, .bool d]] w fun e w' => e = .returned (.bool (partOk c t)) ∧ Below w.heap.size w w' := by
  have hb0 : ∀ o, Below w.heap.size w (w.alloc o) := fun o => (Below.refl _ _).alloc (Nat.le_refl _) _
  by_cases h1 : 0 ≤ c
  · by_cases h2 : c ≤ 9
    · by_cases h3 : 1 ≤ t
      · by_cases h4 : t ≤ 4
        · have e : partOk c t = true := by unfold partOk; simp [h1, h2, h3, h4]
          rw [e]
          go_enter Try.func14, Try.ntmps14
          go_wp2
          go_ret
          exact ⟨rfl, hb0 _⟩
        · have e : partOk c t = false := by unfold partOk; simp [h1, h2, h3, h4]
          rw [e]
          go_enter Try.func14, Try.ntmps14
          go_wp2
          go_ret
          exact ⟨rfl, hb0 _⟩
      · have e : partOk c t = false := by unfold partOk; simp [h1, h2, h3]
        rw [e]
        go_enter Try.func14, Try.ntmps14
        go_wp2
        go_ret
        exact ⟨rfl, hb0 _⟩
    · have e : partOk c t = false := by unfold partOk; simp [h1, h2]
      rw [e]
      go_enter Try.func14, Try.ntmps14
      go_wp2
      go_ret
      exact ⟨rfl, hb0 _⟩
  · have e : partOk c t = false := by unfold partOk; simp [h1]
    rw [e]
    go_enter Try.func14, Try.ntmps14
    go_wp2
    go_ret
    exact ⟨rfl, hb0 _⟩

/-- What fits, as the program has it. -/
def fitsI (t : Int) (nul : Bool) (k n : Int) (s : ByteArray) : Bool := okF k n s && (decide (k = t) || (decide (k = 0) && nul))
theorem fitsI_ok {t : Int} {nul : Bool} {k n : Int} {s : ByteArray} (ht : 1 ≤ t) : fitsI t nul k n s = fitsP t nul k n s := by
  unfold fitsI fitsP
  by_cases hk : k = t
  · simp [hk, show t ≠ 0 by omega]
  · simp [hk]

set_option maxHeartbeats 1000000 in
theorem implFits_any (c t : Int) (nul d : Bool) (k n : Int) (s : ByteArray) (w : World) :
    Calls Try.prog 35 #[.agg #[.int .i64 c, .int .i64 t, .bool nul, .bool d], .agg #[.int .i64 k, .int .i64 n, .string s]] w fun e w' => e = .returned (.bool (fitsI t nul k n s)) ∧ Below w.heap.size w w' := by
  have hP := (PBox.new w c t nul d).below ((Below.refl _ _).alloc (Nat.le_refl _) (.cells #[.int .i64 k, .int .i64 n, .string s] 38))
  have hV := Box.new (w.alloc (.cells #[.int .i64 c, .int .i64 t, .bool nul, .bool d] 31)) k n s
  rw [show (w.alloc (.cells #[.int .i64 c, .int .i64 t, .bool nul, .bool d] 31)).heap.size = w.heap.size + 1 by simp] at hV
  have hb0 : Below w.heap.size w ((w.alloc (.cells #[.int .i64 c, .int .i64 t, .bool nul, .bool d] 31)).alloc (.cells #[.int .i64 k, .int .i64 n, .string s] 38)) := ((Below.refl _ _).alloc (Nat.le_refl _) _).alloc (by simp) _
  cases ho : okF k n s with
  | false =>
    have hr : fitsI t nul k n s = false := by unfold fitsI; rw [ho]; rfl
    rw [hr]
    clear hr
    go_enter Try.func35, Try.ntmps35
    go_wp2_with fail
    refine (valOk_any k n s _).mono ?_
    rw [ho]
    rintro e w1 ⟨rfl, hb1⟩
    have hB : Below w.heap.size w w1 := hb0.trans (hb1.mono hb0.size)
    clear hP hV hb0 hb1 ho
    go_wp2
    go_ret
    exact ⟨rfl, hB⟩
  | true =>
    by_cases kt : k = t
    · subst kt
      have hr : fitsI k nul k n s = true := by unfold fitsI; rw [ho]; simp
      rw [hr]
      have q4 : (k == k) = true := by simp
      clear hr
      go_enter Try.func35, Try.ntmps35
      go_wp2_with fail
      refine (valOk_any k n s _).mono ?_
      rw [ho]
      rintro e w1 ⟨rfl, hb1⟩
      obtain ⟨p0, p1, p2, p3⟩ := (hP.below hb1).cells
      obtain ⟨v0, v1, v2⟩ := (hV.below hb1).cells
      have hB : Below w.heap.size w w1 := hb0.trans (hb1.mono hb0.size)
      clear hP hV hb0 hb1 ho
      go_wp2
      go_ret
      exact ⟨rfl, hB⟩
    · have q4 : (k == t) = false := by simpa using kt
      by_cases k0 : k = 0
      · have hr : fitsI t nul k n s = nul := by unfold fitsI; rw [ho]; simp [k0, show ¬ (0 : Int) = t by omega]
        rw [hr]
        have q2 : (k == 0) = true := by simpa using k0
        clear hr k0 kt
        go_enter Try.func35, Try.ntmps35
        go_wp2_with fail
        refine (valOk_any k n s _).mono ?_
        rw [ho]
        rintro e w1 ⟨rfl, hb1⟩
        obtain ⟨p0, p1, p2, p3⟩ := (hP.below hb1).cells
        obtain ⟨v0, v1, v2⟩ := (hV.below hb1).cells
        have hB : Below w.heap.size w w1 := hb0.trans (hb1.mono hb0.size)
        clear hP hV hb0 hb1 ho
        go_wp2
        go_ret
        exact ⟨rfl, hB⟩
      · have hr : fitsI t nul k n s = false := by unfold fitsI; rw [ho]; simp [kt, k0]
        rw [hr]
        have q2 : (k == 0) = false := by simpa using k0
        clear hr k0 kt
        go_enter Try.func35, Try.ntmps35
        go_wp2_with fail
        refine (valOk_any k n s _).mono ?_
        rw [ho]
        rintro e w1 ⟨rfl, hb1⟩
        obtain ⟨p0, p1, p2, p3⟩ := (hP.below hb1).cells
        obtain ⟨v0, v1, v2⟩ := (hV.below hb1).cells
        have hB : Below w.heap.size w w1 := hb0.trans (hb1.mono hb0.size)
        clear hP hV hb0 hb1 ho
        go_wp2
        go_ret
        exact ⟨rfl, hB⟩
end Go.Proofs.Ytbcgonfihdpjnaq

/-
  The program's table of forms: a type's writer and reader.
-/
namespace Go.Proofs.Ytbcgonfihdpjnaq
open Go.RowKit
set_option maxRecDepth 4000

theorem form_put (F G : Nat) (W : World) : (Instr.field 61 (.agg #[.func (.func F) #[] #[], .func (.func G) #[] #[]]) 0).run Try.prog W = .ok (.func (.func F) #[] #[]) W := by kernel_rfl
theorem form_get (F G : Nat) (W : World) : (Instr.field 61 (.agg #[.func (.func F) #[] #[], .func (.func G) #[] #[]]) 1).run Try.prog W = .ok (.func (.func G) #[] #[]) W := by kernel_rfl
theorem store_nil (W : World) (a : Addr) (m : Mode) : (store a .nilFunc m).run Try.prog W = stored Try.prog W a .nilFunc m := run_store Try.prog W a _ m rfl
theorem store_fn (W : World) (a : Addr) (m : Mode) (n : Nat) : (store a (.func (.func n) #[] #[]) m).run Try.prog W = stored Try.prog W a (.func (.func n) #[] #[]) m := run_store Try.prog W a _ m rfl
def fv (n : Nat) : Value := .func (.func n) #[] #[]
/-- The form of a type: its writer and its reader. -/
def formV (t : Int) : Value × Value := if t = 1 then (fv 48, fv 49) else if t = 2 then (fv 50, fv 51) else if t = 3 then (fv 52, fv 53) else (fv 54, fv 55)

set_option maxHeartbeats 1000000 in
theorem formOf_Int (w : World) :
    Calls Try.prog 38 #[.int .i64 1] w fun e w' => e = .returned (.agg #[.func (.func 48) #[] #[], .func (.func 49) #[] #[]]) ∧ Below w.heap.size w w' := by
  have hR := World.rowIs_alloc (w.alloc (.cells #[.nilFunc, .nilFunc] 61)) #[.nilFunc, .nilFunc, .nilFunc, .nilFunc, .nilFunc, .nilFunc, .nilFunc, .nilFunc, .nilFunc, .nilFunc] 71 (fun _ => .nilFunc) (fun j hj => by match j, hj with | 0, _ => rfl | 1, _ => rfl | 2, _ => rfl | 3, _ => rfl | 4, _ => rfl | 5, _ => rfl | 6, _ => rfl | 7, _ => rfl | 8, _ => rfl | 9, _ => rfl)
  rw [show (w.alloc (.cells #[.nilFunc, .nilFunc] 61)).heap.size = w.heap.size + 1 by simp] at hR
  have hS := (World.rowIs_alloc w #[.nilFunc, .nilFunc] 61 (fun _ => .nilFunc) (fun j hj => by match j, hj with | 0, _ => rfl | 1, _ => rfl)).of_block (w' := ((w.alloc (.cells #[.nilFunc, .nilFunc] 61)).alloc (.cells #[.nilFunc, .nilFunc, .nilFunc, .nilFunc, .nilFunc, .nilFunc, .nilFunc, .nilFunc, .nilFunc, .nilFunc] 71))) (Below.heap_alloc _ _ _ (by simp))
  have hB : Below w.heap.size w ((w.alloc (.cells #[.nilFunc, .nilFunc] 61)).alloc (.cells #[.nilFunc, .nilFunc, .nilFunc, .nilFunc, .nilFunc, .nilFunc, .nilFunc, .nilFunc, .nilFunc, .nilFunc] 71)) := ((Below.refl _ _).alloc (Nat.le_refl _) _).alloc (by simp) _
  obtain ⟨W, hW⟩ : ∃ W, Hid (W = ((w.alloc (.cells #[.nilFunc, .nilFunc] 61)).alloc (.cells #[.nilFunc, .nilFunc, .nilFunc, .nilFunc, .nilFunc, .nilFunc, .nilFunc, .nilFunc, .nilFunc, .nilFunc] 71))) := ⟨_, rfl⟩
  rw [← hW.out] at hR hS hB
  have c0 : W.cell? ⟨w.heap.size + 1, 0, none⟩ = some .nilFunc := hR.cell (i := 0) (by decide)
  have r0 : W.frozen? ⟨w.heap.size + 1, 0, none⟩ = false := World.rowIs.frozen hR 0
  have c1 : W.cell? ⟨w.heap.size + 1, 1, none⟩ = some .nilFunc := hR.cell (i := 1) (by decide)
  have r1 : W.frozen? ⟨w.heap.size + 1, 1, none⟩ = false := World.rowIs.frozen hR 1
  have c2 : W.cell? ⟨w.heap.size + 1, 2, none⟩ = some .nilFunc := hR.cell (i := 2) (by decide)
  have r2 : W.frozen? ⟨w.heap.size + 1, 2, none⟩ = false := World.rowIs.frozen hR 2
  have c3 : W.cell? ⟨w.heap.size + 1, 3, none⟩ = some .nilFunc := hR.cell (i := 3) (by decide)
  have r3 : W.frozen? ⟨w.heap.size + 1, 3, none⟩ = false := World.rowIs.frozen hR 3
  have c4 : W.cell? ⟨w.heap.size + 1, 4, none⟩ = some .nilFunc := hR.cell (i := 4) (by decide)
  have r4 : W.frozen? ⟨w.heap.size + 1, 4, none⟩ = false := World.rowIs.frozen hR 4
  have c5 : W.cell? ⟨w.heap.size + 1, 5, none⟩ = some .nilFunc := hR.cell (i := 5) (by decide)
  have r5 : W.frozen? ⟨w.heap.size + 1, 5, none⟩ = false := World.rowIs.frozen hR 5
  have c6 : W.cell? ⟨w.heap.size + 1, 6, none⟩ = some .nilFunc := hR.cell (i := 6) (by decide)
  have r6 : W.frozen? ⟨w.heap.size + 1, 6, none⟩ = false := World.rowIs.frozen hR 6
  have c7 : W.cell? ⟨w.heap.size + 1, 7, none⟩ = some .nilFunc := hR.cell (i := 7) (by decide)
  have r7 : W.frozen? ⟨w.heap.size + 1, 7, none⟩ = false := World.rowIs.frozen hR 7
  have c8 : W.cell? ⟨w.heap.size + 1, 8, none⟩ = some .nilFunc := hR.cell (i := 8) (by decide)
  have r8 : W.frozen? ⟨w.heap.size + 1, 8, none⟩ = false := World.rowIs.frozen hR 8
  have c9 : W.cell? ⟨w.heap.size + 1, 9, none⟩ = some .nilFunc := hR.cell (i := 9) (by decide)
  have r9 : W.frozen? ⟨w.heap.size + 1, 9, none⟩ = false := World.rowIs.frozen hR 9
  have d0 : W.cell? ⟨w.heap.size, 0, none⟩ = some .nilFunc := hS.cell (i := 0) (by decide)
  have s0 : W.frozen? ⟨w.heap.size, 0, none⟩ = false := World.rowIs.frozen hS 0
  have d1 : W.cell? ⟨w.heap.size, 1, none⟩ = some .nilFunc := hS.cell (i := 1) (by decide)
  have s1 : W.frozen? ⟨w.heap.size, 1, none⟩ = false := World.rowIs.frozen hS 1
  have HB : Hid (Below w.heap.size w ((((((((((((W.setCell ⟨w.heap.size + 1, 0, none⟩ (.nilFunc)).setCell ⟨w.heap.size + 1, 1, none⟩ (.nilFunc)).setCell ⟨w.heap.size + 1, 2, none⟩ (.func (.func 48) #[] #[])).setCell ⟨w.heap.size + 1, 3, none⟩ (.func (.func 49) #[] #[])).setCell ⟨w.heap.size + 1, 4, none⟩ (.func (.func 50) #[] #[])).setCell ⟨w.heap.size + 1, 5, none⟩ (.func (.func 51) #[] #[])).setCell ⟨w.heap.size + 1, 6, none⟩ (.func (.func 52) #[] #[])).setCell ⟨w.heap.size + 1, 7, none⟩ (.func (.func 53) #[] #[])).setCell ⟨w.heap.size + 1, 8, none⟩ (.func (.func 54) #[] #[])).setCell ⟨w.heap.size + 1, 9, none⟩ (.func (.func 55) #[] #[])).setCell ⟨w.heap.size, 0, none⟩ (.func (.func 48) #[] #[])).setCell ⟨w.heap.size, 1, none⟩ (.func (.func 49) #[] #[]))) := (((((((((((hB.setCell (Nat.le_succ _) _).setCell (Nat.le_succ _) _).setCell (Nat.le_succ _) _).setCell (Nat.le_succ _) _).setCell (Nat.le_succ _) _).setCell (Nat.le_succ _) _).setCell (Nat.le_succ _) _).setCell (Nat.le_succ _) _).setCell (Nat.le_succ _) _).setCell (Nat.le_succ _) _).setCell (Nat.le_refl _) _).setCell (Nat.le_refl _) _
  clear hR hS
  have sn := store_nil
  have sf := store_fn
  go_enter Try.func38, Try.ntmps38
  go_wp2_with (rw [← hW.out])
  exact bodyPost_ret (v := .agg #[.func (.func 48) #[] #[], .func (.func 49) #[] #[]]) (by simp [results, Try.results38, go_sem, d0, d1]) rfl ⟨rfl, HB.out⟩
set_option maxHeartbeats 1000000 in
theorem formOf_Num (w : World) :
    Calls Try.prog 38 #[.int .i64 2] w fun e w' => e = .returned (.agg #[.func (.func 50) #[] #[], .func (.func 51) #[] #[]]) ∧ Below w.heap.size w w' := by
  have hR := World.rowIs_alloc (w.alloc (.cells #[.nilFunc, .nilFunc] 61)) #[.nilFunc, .nilFunc, .nilFunc, .nilFunc, .nilFunc, .nilFunc, .nilFunc, .nilFunc, .nilFunc, .nilFunc] 71 (fun _ => .nilFunc) (fun j hj => by match j, hj with | 0, _ => rfl | 1, _ => rfl | 2, _ => rfl | 3, _ => rfl | 4, _ => rfl | 5, _ => rfl | 6, _ => rfl | 7, _ => rfl | 8, _ => rfl | 9, _ => rfl)
  rw [show (w.alloc (.cells #[.nilFunc, .nilFunc] 61)).heap.size = w.heap.size + 1 by simp] at hR
  have hS := (World.rowIs_alloc w #[.nilFunc, .nilFunc] 61 (fun _ => .nilFunc) (fun j hj => by match j, hj with | 0, _ => rfl | 1, _ => rfl)).of_block (w' := ((w.alloc (.cells #[.nilFunc, .nilFunc] 61)).alloc (.cells #[.nilFunc, .nilFunc, .nilFunc, .nilFunc, .nilFunc, .nilFunc, .nilFunc, .nilFunc, .nilFunc, .nilFunc] 71))) (Below.heap_alloc _ _ _ (by simp))
  have hB : Below w.heap.size w ((w.alloc (.cells #[.nilFunc, .nilFunc] 61)).alloc (.cells #[.nilFunc, .nilFunc, .nilFunc, .nilFunc, .nilFunc, .nilFunc, .nilFunc, .nilFunc, .nilFunc, .nilFunc] 71)) := ((Below.refl _ _).alloc (Nat.le_refl _) _).alloc (by simp) _
  obtain ⟨W, hW⟩ : ∃ W, Hid (W = ((w.alloc (.cells #[.nilFunc, .nilFunc] 61)).alloc (.cells #[.nilFunc, .nilFunc, .nilFunc, .nilFunc, .nilFunc, .nilFunc, .nilFunc, .nilFunc, .nilFunc, .nilFunc] 71))) := ⟨_, rfl⟩
  rw [← hW.out] at hR hS hB
  have c0 : W.cell? ⟨w.heap.size + 1, 0, none⟩ = some .nilFunc := hR.cell (i := 0) (by decide)
  have r0 : W.frozen? ⟨w.heap.size + 1, 0, none⟩ = false := World.rowIs.frozen hR 0
  have c1 : W.cell? ⟨w.heap.size + 1, 1, none⟩ = some .nilFunc := hR.cell (i := 1) (by decide)
  have r1 : W.frozen? ⟨w.heap.size + 1, 1, none⟩ = false := World.rowIs.frozen hR 1
  have c2 : W.cell? ⟨w.heap.size + 1, 2, none⟩ = some .nilFunc := hR.cell (i := 2) (by decide)
  have r2 : W.frozen? ⟨w.heap.size + 1, 2, none⟩ = false := World.rowIs.frozen hR 2
  have c3 : W.cell? ⟨w.heap.size + 1, 3, none⟩ = some .nilFunc := hR.cell (i := 3) (by decide)
  have r3 : W.frozen? ⟨w.heap.size + 1, 3, none⟩ = false := World.rowIs.frozen hR 3
  have c4 : W.cell? ⟨w.heap.size + 1, 4, none⟩ = some .nilFunc := hR.cell (i := 4) (by decide)
  have r4 : W.frozen? ⟨w.heap.size + 1, 4, none⟩ = false := World.rowIs.frozen hR 4
  have c5 : W.cell? ⟨w.heap.size + 1, 5, none⟩ = some .nilFunc := hR.cell (i := 5) (by decide)
  have r5 : W.frozen? ⟨w.heap.size + 1, 5, none⟩ = false := World.rowIs.frozen hR 5
  have c6 : W.cell? ⟨w.heap.size + 1, 6, none⟩ = some .nilFunc := hR.cell (i := 6) (by decide)
  have r6 : W.frozen? ⟨w.heap.size + 1, 6, none⟩ = false := World.rowIs.frozen hR 6
  have c7 : W.cell? ⟨w.heap.size + 1, 7, none⟩ = some .nilFunc := hR.cell (i := 7) (by decide)
  have r7 : W.frozen? ⟨w.heap.size + 1, 7, none⟩ = false := World.rowIs.frozen hR 7
  have c8 : W.cell? ⟨w.heap.size + 1, 8, none⟩ = some .nilFunc := hR.cell (i := 8) (by decide)
  have r8 : W.frozen? ⟨w.heap.size + 1, 8, none⟩ = false := World.rowIs.frozen hR 8
  have c9 : W.cell? ⟨w.heap.size + 1, 9, none⟩ = some .nilFunc := hR.cell (i := 9) (by decide)
  have r9 : W.frozen? ⟨w.heap.size + 1, 9, none⟩ = false := World.rowIs.frozen hR 9
  have d0 : W.cell? ⟨w.heap.size, 0, none⟩ = some .nilFunc := hS.cell (i := 0) (by decide)
  have s0 : W.frozen? ⟨w.heap.size, 0, none⟩ = false := World.rowIs.frozen hS 0
  have d1 : W.cell? ⟨w.heap.size, 1, none⟩ = some .nilFunc := hS.cell (i := 1) (by decide)
  have s1 : W.frozen? ⟨w.heap.size, 1, none⟩ = false := World.rowIs.frozen hS 1
  have HB : Hid (Below w.heap.size w ((((((((((((W.setCell ⟨w.heap.size + 1, 0, none⟩ (.nilFunc)).setCell ⟨w.heap.size + 1, 1, none⟩ (.nilFunc)).setCell ⟨w.heap.size + 1, 2, none⟩ (.func (.func 48) #[] #[])).setCell ⟨w.heap.size + 1, 3, none⟩ (.func (.func 49) #[] #[])).setCell ⟨w.heap.size + 1, 4, none⟩ (.func (.func 50) #[] #[])).setCell ⟨w.heap.size + 1, 5, none⟩ (.func (.func 51) #[] #[])).setCell ⟨w.heap.size + 1, 6, none⟩ (.func (.func 52) #[] #[])).setCell ⟨w.heap.size + 1, 7, none⟩ (.func (.func 53) #[] #[])).setCell ⟨w.heap.size + 1, 8, none⟩ (.func (.func 54) #[] #[])).setCell ⟨w.heap.size + 1, 9, none⟩ (.func (.func 55) #[] #[])).setCell ⟨w.heap.size, 0, none⟩ (.func (.func 50) #[] #[])).setCell ⟨w.heap.size, 1, none⟩ (.func (.func 51) #[] #[]))) := (((((((((((hB.setCell (Nat.le_succ _) _).setCell (Nat.le_succ _) _).setCell (Nat.le_succ _) _).setCell (Nat.le_succ _) _).setCell (Nat.le_succ _) _).setCell (Nat.le_succ _) _).setCell (Nat.le_succ _) _).setCell (Nat.le_succ _) _).setCell (Nat.le_succ _) _).setCell (Nat.le_succ _) _).setCell (Nat.le_refl _) _).setCell (Nat.le_refl _) _
  clear hR hS
  have sn := store_nil
  have sf := store_fn
  go_enter Try.func38, Try.ntmps38
  go_wp2_with (rw [← hW.out])
  exact bodyPost_ret (v := .agg #[.func (.func 50) #[] #[], .func (.func 51) #[] #[]]) (by simp [results, Try.results38, go_sem, d0, d1]) rfl ⟨rfl, HB.out⟩
set_option maxHeartbeats 1000000 in
theorem formOf_Text (w : World) :
    Calls Try.prog 38 #[.int .i64 3] w fun e w' => e = .returned (.agg #[.func (.func 52) #[] #[], .func (.func 53) #[] #[]]) ∧ Below w.heap.size w w' := by
  have hR := World.rowIs_alloc (w.alloc (.cells #[.nilFunc, .nilFunc] 61)) #[.nilFunc, .nilFunc, .nilFunc, .nilFunc, .nilFunc, .nilFunc, .nilFunc, .nilFunc, .nilFunc, .nilFunc] 71 (fun _ => .nilFunc) (fun j hj => by match j, hj with | 0, _ => rfl | 1, _ => rfl | 2, _ => rfl | 3, _ => rfl | 4, _ => rfl | 5, _ => rfl | 6, _ => rfl | 7, _ => rfl | 8, _ => rfl | 9, _ => rfl)
  rw [show (w.alloc (.cells #[.nilFunc, .nilFunc] 61)).heap.size = w.heap.size + 1 by simp] at hR
  have hS := (World.rowIs_alloc w #[.nilFunc, .nilFunc] 61 (fun _ => .nilFunc) (fun j hj => by match j, hj with | 0, _ => rfl | 1, _ => rfl)).of_block (w' := ((w.alloc (.cells #[.nilFunc, .nilFunc] 61)).alloc (.cells #[.nilFunc, .nilFunc, .nilFunc, .nilFunc, .nilFunc, .nilFunc, .nilFunc, .nilFunc, .nilFunc, .nilFunc] 71))) (Below.heap_alloc _ _ _ (by simp))
  have hB : Below w.heap.size w ((w.alloc (.cells #[.nilFunc, .nilFunc] 61)).alloc (.cells #[.nilFunc, .nilFunc, .nilFunc, .nilFunc, .nilFunc, .nilFunc, .nilFunc, .nilFunc, .nilFunc, .nilFunc] 71)) := ((Below.refl _ _).alloc (Nat.le_refl _) _).alloc (by simp) _
  obtain ⟨W, hW⟩ : ∃ W, Hid (W = ((w.alloc (.cells #[.nilFunc, .nilFunc] 61)).alloc (.cells #[.nilFunc, .nilFunc, .nilFunc, .nilFunc, .nilFunc, .nilFunc, .nilFunc, .nilFunc, .nilFunc, .nilFunc] 71))) := ⟨_, rfl⟩
  rw [← hW.out] at hR hS hB
  have c0 : W.cell? ⟨w.heap.size + 1, 0, none⟩ = some .nilFunc := hR.cell (i := 0) (by decide)
  have r0 : W.frozen? ⟨w.heap.size + 1, 0, none⟩ = false := World.rowIs.frozen hR 0
  have c1 : W.cell? ⟨w.heap.size + 1, 1, none⟩ = some .nilFunc := hR.cell (i := 1) (by decide)
  have r1 : W.frozen? ⟨w.heap.size + 1, 1, none⟩ = false := World.rowIs.frozen hR 1
  have c2 : W.cell? ⟨w.heap.size + 1, 2, none⟩ = some .nilFunc := hR.cell (i := 2) (by decide)
  have r2 : W.frozen? ⟨w.heap.size + 1, 2, none⟩ = false := World.rowIs.frozen hR 2
  have c3 : W.cell? ⟨w.heap.size + 1, 3, none⟩ = some .nilFunc := hR.cell (i := 3) (by decide)
  have r3 : W.frozen? ⟨w.heap.size + 1, 3, none⟩ = false := World.rowIs.frozen hR 3
  have c4 : W.cell? ⟨w.heap.size + 1, 4, none⟩ = some .nilFunc := hR.cell (i := 4) (by decide)
  have r4 : W.frozen? ⟨w.heap.size + 1, 4, none⟩ = false := World.rowIs.frozen hR 4
  have c5 : W.cell? ⟨w.heap.size + 1, 5, none⟩ = some .nilFunc := hR.cell (i := 5) (by decide)
  have r5 : W.frozen? ⟨w.heap.size + 1, 5, none⟩ = false := World.rowIs.frozen hR 5
  have c6 : W.cell? ⟨w.heap.size + 1, 6, none⟩ = some .nilFunc := hR.cell (i := 6) (by decide)
  have r6 : W.frozen? ⟨w.heap.size + 1, 6, none⟩ = false := World.rowIs.frozen hR 6
  have c7 : W.cell? ⟨w.heap.size + 1, 7, none⟩ = some .nilFunc := hR.cell (i := 7) (by decide)
  have r7 : W.frozen? ⟨w.heap.size + 1, 7, none⟩ = false := World.rowIs.frozen hR 7
  have c8 : W.cell? ⟨w.heap.size + 1, 8, none⟩ = some .nilFunc := hR.cell (i := 8) (by decide)
  have r8 : W.frozen? ⟨w.heap.size + 1, 8, none⟩ = false := World.rowIs.frozen hR 8
  have c9 : W.cell? ⟨w.heap.size + 1, 9, none⟩ = some .nilFunc := hR.cell (i := 9) (by decide)
  have r9 : W.frozen? ⟨w.heap.size + 1, 9, none⟩ = false := World.rowIs.frozen hR 9
  have d0 : W.cell? ⟨w.heap.size, 0, none⟩ = some .nilFunc := hS.cell (i := 0) (by decide)
  have s0 : W.frozen? ⟨w.heap.size, 0, none⟩ = false := World.rowIs.frozen hS 0
  have d1 : W.cell? ⟨w.heap.size, 1, none⟩ = some .nilFunc := hS.cell (i := 1) (by decide)
  have s1 : W.frozen? ⟨w.heap.size, 1, none⟩ = false := World.rowIs.frozen hS 1
  have HB : Hid (Below w.heap.size w ((((((((((((W.setCell ⟨w.heap.size + 1, 0, none⟩ (.nilFunc)).setCell ⟨w.heap.size + 1, 1, none⟩ (.nilFunc)).setCell ⟨w.heap.size + 1, 2, none⟩ (.func (.func 48) #[] #[])).setCell ⟨w.heap.size + 1, 3, none⟩ (.func (.func 49) #[] #[])).setCell ⟨w.heap.size + 1, 4, none⟩ (.func (.func 50) #[] #[])).setCell ⟨w.heap.size + 1, 5, none⟩ (.func (.func 51) #[] #[])).setCell ⟨w.heap.size + 1, 6, none⟩ (.func (.func 52) #[] #[])).setCell ⟨w.heap.size + 1, 7, none⟩ (.func (.func 53) #[] #[])).setCell ⟨w.heap.size + 1, 8, none⟩ (.func (.func 54) #[] #[])).setCell ⟨w.heap.size + 1, 9, none⟩ (.func (.func 55) #[] #[])).setCell ⟨w.heap.size, 0, none⟩ (.func (.func 52) #[] #[])).setCell ⟨w.heap.size, 1, none⟩ (.func (.func 53) #[] #[]))) := (((((((((((hB.setCell (Nat.le_succ _) _).setCell (Nat.le_succ _) _).setCell (Nat.le_succ _) _).setCell (Nat.le_succ _) _).setCell (Nat.le_succ _) _).setCell (Nat.le_succ _) _).setCell (Nat.le_succ _) _).setCell (Nat.le_succ _) _).setCell (Nat.le_succ _) _).setCell (Nat.le_succ _) _).setCell (Nat.le_refl _) _).setCell (Nat.le_refl _) _
  clear hR hS
  have sn := store_nil
  have sf := store_fn
  go_enter Try.func38, Try.ntmps38
  go_wp2_with (rw [← hW.out])
  exact bodyPost_ret (v := .agg #[.func (.func 52) #[] #[], .func (.func 53) #[] #[]]) (by simp [results, Try.results38, go_sem, d0, d1]) rfl ⟨rfl, HB.out⟩
set_option maxHeartbeats 1000000 in
theorem formOf_Bool (w : World) :
    Calls Try.prog 38 #[.int .i64 4] w fun e w' => e = .returned (.agg #[.func (.func 54) #[] #[], .func (.func 55) #[] #[]]) ∧ Below w.heap.size w w' := by
  have hR := World.rowIs_alloc (w.alloc (.cells #[.nilFunc, .nilFunc] 61)) #[.nilFunc, .nilFunc, .nilFunc, .nilFunc, .nilFunc, .nilFunc, .nilFunc, .nilFunc, .nilFunc, .nilFunc] 71 (fun _ => .nilFunc) (fun j hj => by match j, hj with | 0, _ => rfl | 1, _ => rfl | 2, _ => rfl | 3, _ => rfl | 4, _ => rfl | 5, _ => rfl | 6, _ => rfl | 7, _ => rfl | 8, _ => rfl | 9, _ => rfl)
  rw [show (w.alloc (.cells #[.nilFunc, .nilFunc] 61)).heap.size = w.heap.size + 1 by simp] at hR
  have hS := (World.rowIs_alloc w #[.nilFunc, .nilFunc] 61 (fun _ => .nilFunc) (fun j hj => by match j, hj with | 0, _ => rfl | 1, _ => rfl)).of_block (w' := ((w.alloc (.cells #[.nilFunc, .nilFunc] 61)).alloc (.cells #[.nilFunc, .nilFunc, .nilFunc, .nilFunc, .nilFunc, .nilFunc, .nilFunc, .nilFunc, .nilFunc, .nilFunc] 71))) (Below.heap_alloc _ _ _ (by simp))
  have hB : Below w.heap.size w ((w.alloc (.cells #[.nilFunc, .nilFunc] 61)).alloc (.cells #[.nilFunc, .nilFunc, .nilFunc, .nilFunc, .nilFunc, .nilFunc, .nilFunc, .nilFunc, .nilFunc, .nilFunc] 71)) := ((Below.refl _ _).alloc (Nat.le_refl _) _).alloc (by simp) _
  obtain ⟨W, hW⟩ : ∃ W, Hid (W = ((w.alloc (.cells #[.nilFunc, .nilFunc] 61)).alloc (.cells #[.nilFunc, .nilFunc, .nilFunc, .nilFunc, .nilFunc, .nilFunc, .nilFunc, .nilFunc, .nilFunc, .nilFunc] 71))) := ⟨_, rfl⟩
  rw [← hW.out] at hR hS hB
  have c0 : W.cell? ⟨w.heap.size + 1, 0, none⟩ = some .nilFunc := hR.cell (i := 0) (by decide)
  have r0 : W.frozen? ⟨w.heap.size + 1, 0, none⟩ = false := World.rowIs.frozen hR 0
  have c1 : W.cell? ⟨w.heap.size + 1, 1, none⟩ = some .nilFunc := hR.cell (i := 1) (by decide)
  have r1 : W.frozen? ⟨w.heap.size + 1, 1, none⟩ = false := World.rowIs.frozen hR 1
  have c2 : W.cell? ⟨w.heap.size + 1, 2, none⟩ = some .nilFunc := hR.cell (i := 2) (by decide)
  have r2 : W.frozen? ⟨w.heap.size + 1, 2, none⟩ = false := World.rowIs.frozen hR 2
  have c3 : W.cell? ⟨w.heap.size + 1, 3, none⟩ = some .nilFunc := hR.cell (i := 3) (by decide)
  have r3 : W.frozen? ⟨w.heap.size + 1, 3, none⟩ = false := World.rowIs.frozen hR 3
  have c4 : W.cell? ⟨w.heap.size + 1, 4, none⟩ = some .nilFunc := hR.cell (i := 4) (by decide)
  have r4 : W.frozen? ⟨w.heap.size + 1, 4, none⟩ = false := World.rowIs.frozen hR 4
  have c5 : W.cell? ⟨w.heap.size + 1, 5, none⟩ = some .nilFunc := hR.cell (i := 5) (by decide)
  have r5 : W.frozen? ⟨w.heap.size + 1, 5, none⟩ = false := World.rowIs.frozen hR 5
  have c6 : W.cell? ⟨w.heap.size + 1, 6, none⟩ = some .nilFunc := hR.cell (i := 6) (by decide)
  have r6 : W.frozen? ⟨w.heap.size + 1, 6, none⟩ = false := World.rowIs.frozen hR 6
  have c7 : W.cell? ⟨w.heap.size + 1, 7, none⟩ = some .nilFunc := hR.cell (i := 7) (by decide)
  have r7 : W.frozen? ⟨w.heap.size + 1, 7, none⟩ = false := World.rowIs.frozen hR 7
  have c8 : W.cell? ⟨w.heap.size + 1, 8, none⟩ = some .nilFunc := hR.cell (i := 8) (by decide)
  have r8 : W.frozen? ⟨w.heap.size + 1, 8, none⟩ = false := World.rowIs.frozen hR 8
  have c9 : W.cell? ⟨w.heap.size + 1, 9, none⟩ = some .nilFunc := hR.cell (i := 9) (by decide)
  have r9 : W.frozen? ⟨w.heap.size + 1, 9, none⟩ = false := World.rowIs.frozen hR 9
  have d0 : W.cell? ⟨w.heap.size, 0, none⟩ = some .nilFunc := hS.cell (i := 0) (by decide)
  have s0 : W.frozen? ⟨w.heap.size, 0, none⟩ = false := World.rowIs.frozen hS 0
  have d1 : W.cell? ⟨w.heap.size, 1, none⟩ = some .nilFunc := hS.cell (i := 1) (by decide)
  have s1 : W.frozen? ⟨w.heap.size, 1, none⟩ = false := World.rowIs.frozen hS 1
  have HB : Hid (Below w.heap.size w ((((((((((((W.setCell ⟨w.heap.size + 1, 0, none⟩ (.nilFunc)).setCell ⟨w.heap.size + 1, 1, none⟩ (.nilFunc)).setCell ⟨w.heap.size + 1, 2, none⟩ (.func (.func 48) #[] #[])).setCell ⟨w.heap.size + 1, 3, none⟩ (.func (.func 49) #[] #[])).setCell ⟨w.heap.size + 1, 4, none⟩ (.func (.func 50) #[] #[])).setCell ⟨w.heap.size + 1, 5, none⟩ (.func (.func 51) #[] #[])).setCell ⟨w.heap.size + 1, 6, none⟩ (.func (.func 52) #[] #[])).setCell ⟨w.heap.size + 1, 7, none⟩ (.func (.func 53) #[] #[])).setCell ⟨w.heap.size + 1, 8, none⟩ (.func (.func 54) #[] #[])).setCell ⟨w.heap.size + 1, 9, none⟩ (.func (.func 55) #[] #[])).setCell ⟨w.heap.size, 0, none⟩ (.func (.func 54) #[] #[])).setCell ⟨w.heap.size, 1, none⟩ (.func (.func 55) #[] #[]))) := (((((((((((hB.setCell (Nat.le_succ _) _).setCell (Nat.le_succ _) _).setCell (Nat.le_succ _) _).setCell (Nat.le_succ _) _).setCell (Nat.le_succ _) _).setCell (Nat.le_succ _) _).setCell (Nat.le_succ _) _).setCell (Nat.le_succ _) _).setCell (Nat.le_succ _) _).setCell (Nat.le_succ _) _).setCell (Nat.le_refl _) _).setCell (Nat.le_refl _) _
  clear hR hS
  have sn := store_nil
  have sf := store_fn
  go_enter Try.func38, Try.ntmps38
  go_wp2_with (rw [← hW.out])
  exact bodyPost_ret (v := .agg #[.func (.func 54) #[] #[], .func (.func 55) #[] #[]]) (by simp [results, Try.results38, go_sem, d0, d1]) rfl ⟨rfl, HB.out⟩

theorem formOf_any (t : Int) (w : World) (h : 1 ≤ t ∧ t ≤ 4) :
    Calls Try.prog 38 #[.int .i64 t] w fun e w' => e = .returned (.agg #[(formV t).1, (formV t).2]) ∧ Below w.heap.size w w' := by
  obtain rfl | rfl | rfl | rfl : t = 1 ∨ t = 2 ∨ t = 3 ∨ t = 4 := by omega
  · exact formOf_Int w
  · exact formOf_Num w
  · exact formOf_Text w
  · exact formOf_Bool w
end Go.Proofs.Ytbcgonfihdpjnaq

