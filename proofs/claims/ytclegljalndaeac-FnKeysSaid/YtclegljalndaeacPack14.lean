/-
  Together: InBytes, OwnK, DecImpl, SameImpl, PartLessImpl
-/
import Derived.Test.YtclegljalndaeacPack9
import Derived.Test.YtclegljalndaeacPack5
import Derived.Test.YtclegljalndaeacPack7
import Derived.Test.YtclegljalndaeacPack13
import Derived.Test.YtclegljalndaeacPack2
import Derived.Test.YtclegljalndaeacPack4
/-
  The program's valsInBytes: each value that the bytes have, with the place behind it.
-/
namespace Go.Proofs.Ytclegljalndaeac
open Go.RowKit
set_option maxRecDepth 4000

attribute [local go_sem] Oper.semAt_some

/-- A value and the place behind it, as they are yielded. -/
abbrev encG (x : Got) : Array Value := #[.int .i64 x.q, .agg #[.int .i64 x.k, .int .i64 x.n, .string x.s]]
/-- What has come when j values were read. -/
def gotU (N : Nat) (F : Nat → Int) (fc ft : Nat → Int) (fu fd : Nat → Bool) (j : Nat) : List Got := (List.range j).map (decG N F fc ft fu fd)
theorem gotU_succ (N : Nat) (F : Nat → Int) (fc ft : Nat → Int) (fu fd : Nat → Bool) (j : Nat) : gotU N F fc ft fu fd (j + 1) = gotU N F fc ft fu fd j ++ [decG N F fc ft fu fd j] := by simp [gotU, List.range_succ]
theorem gotU_len (N : Nat) (F : Nat → Int) (fc ft : Nat → Int) (fu fd : Nat → Bool) (j : Nat) : (gotU N F fc ft fu fd j).length = j := by simp [gotU]
/-- All that the bytes have, up to the first part that has none there. -/
def GotAll (N : Nat) (F : Nat → Int) (fc ft : Nat → Int) (fu fd : Nat → Bool) (n : Nat) (xs : List Got) : Prop :=
  ∃ r p, r ≤ n ∧ decQ N F fc ft fu fd r = some p ∧ (r < n → decQ N F fc ft fu fd (r + 1) = none) ∧ xs = gotU N F fc ft fu fd r

set_option linter.unusedSimpArgs false in
set_option maxRecDepth 100000 in
set_option maxHeartbeats 4000000 in
theorem inBytes1_in (NN : Nat) (hNN : 1 ≤ NN) (l Bl Bv : Nat) (a : Option Addr) (n cap : Nat) (fc ft : Nat → Int) (fu fd : Nat → Bool) (b off N cb : Nat) (F : Nat → Int) (w : World) (hp : PView w a n cap fc ft fu fd) (hq : View w (some ⟨b, off, none⟩) N cb F) (hn : n ≤ 281474976710656) (hN : N ≤ 10000000)
    (J Jx : List Got → World → Prop) (W : World) (hJ : AbidesFrom W.heap.size J)
    (hY : ∀ pre x W1, J pre W1 → pre.length < n → YieldAt Fence.wide (NN - 1) Try.prog l (encG x) W1 fun e W' =>
      (e = .returned (.bool true) ∧ J (pre ++ [x]) W' ∧ KpB w.heap.size Bl Bv W1 W') ∨ (e = .returned (.bool false) ∧ Jx (pre ++ [x]) W'))
    (hb : Below w.heap.size w W) (hl : Boxed W Bl 38 (.slice a n cap)) (hv : Boxed W Bv 22 (.slice (some ⟨b, off, none⟩) N cb)) (h0 : J [] W) :
    CallsIn Fence.wide NN Try.prog 97 #[.func (.yield l) #[] #[], .pointer (some ⟨Bl, 0, none⟩), .pointer (some ⟨Bv, 0, none⟩)] W fun e W' => (∃ v, e = .returned v) ∧
      ((∃ xs, GotAll N F fc ft fu fd n xs ∧ J xs W') ∨ (∃ pre, True ∧ Jx pre W')) := by
  refine callsIn_of_wp Try.func97 rfl trivial ?_ rfl
  simp only [Try.ntmps97, List.size_toArray, List.length_cons, List.length_nil, Nat.reduceAdd, Nat.reduceSub, Array.replicate_succ, Array.replicate_zero, List.push_toArray, List.append_toArray, List.nil_append, List.cons_append]
  have cl := hl.cell
  have cv := hv.cell
  gi_wp2
  gi_loopw [4, 12] (fun at' i wr => ∃ (j : Nat) (p : Int), j ≤ n ∧ at' = .int .i64 p ∧ i = .int .i64 j ∧ decQ N F fc ft fu fd j = some p ∧ J (gotU N F fc ft fu fd j) wr ∧ KpB w.heap.size Bl Bv W wr) (fun _ i _ => n - (intOf i).toNat)
  case atStart => exact ⟨0, 0, Nat.zero_le _, rfl, rfl, rfl, h0, KpB.refl _ _ _ _⟩
  case round =>
    obtain ⟨j, p, hj, rfl, rfl, hdq, hJs, hk⟩ := hrel
    by_cases hlt : j < n
    · have hbw : Below w.heap.size w wr := hb.trans hk.below
      obtain ⟨b1, o1, rfl, hb1, hd1⟩ := (hp.below hbw).cells (by omega)
      obtain ⟨x0, x1, x2, x3⟩ := hd1 j (by omega)
      have bv' := Boxed.kpv hv hk
      have bl' := Boxed.kpl hl hk
      have hjz : (j : Int) < (n : Int) := by omega
      have hpb := decQ_bd hq.byte hdq
      have hws := hbw.size
      obtain ⟨kk, y, s, q, ok, hg⟩ : ∃ kk y s q ok, getP N F (fc j) (ft j) (fu j) (fd j) p = ⟨kk, y, s, q, ok⟩ := ⟨_, _, _, _, _, rfl⟩
      have hG : ∀ W1, Below w.heap.size w W1 → Calls Try.prog 10 #[.slice (some ⟨b, off, none⟩) N cb, .agg #[.int .i64 (fc j), .int .i64 (ft j), .bool (fu j), .bool (fd j)], .int .i64 p] W1 fun e w' => e = .returned (.tuple #[.agg #[.int .i64 kk, .int .i64 y, .string s], .int .i64 q, .bool ok]) ∧ Below W1.heap.size W1 w' := fun W1 hb => by
        refine (getPart_impl b off N cb F (fc j) (ft j) (fu j) (fd j) p W1 (hq.below hb) hN (by omega)).mono ?_
        rintro e w' ⟨rfl, h⟩
        exact ⟨by rw [hg]; rfl, h⟩
      have hdg : decG N F fc ft fu fd j = ⟨kk, y, s, q, ok⟩ := by unfold decG; rw [hdq]; exact hg
      have hd2 : decQ N F fc ft fu fd (j + 1) = if ok then some q else none := by rw [decQ, hdq]; show (if (getP N F (fc j) (ft j) (fu j) (fd j) p).ok = true then _ else _) = _; rw [hg]
      have hU := gotU_succ N F fc ft fu fd j
      have hUl := gotU_len N F fc ft fu fd j
      rw [hdg] at hU
      obtain ⟨U, hUU⟩ : ∃ U, gotU N F fc ft fu fd j = U := ⟨_, rfl⟩
      rw [hUU] at hU hUl hJs
      have cv' := bv'.cell
      have cv1 := ((bv'.alloc (.cells #[.int .i64 (fc j), .int .i64 (ft j), .bool (fu j), .bool (fd j)] 25))).cell
      have hba : Below wr.heap.size wr (wr.alloc (.cells #[.int .i64 (fc j), .int .i64 (ft j), .bool (fu j), .bool (fd j)] 25)) := (Below.refl _ _).alloc (Nat.le_refl _) _
      have hbb := hbw.trans (hba.mono hws)
      have HD : Hid (decQ N F fc ft fu fd (j + 1) = if ok then some q else none) := hd2
      have HDQ : Hid (decQ N F fc ft fu fd j = some p) := hdq
      have HU : Hid (gotU N F fc ft fu fd (j + 1) = U ++ [⟨kk, y, s, q, ok⟩]) := hU
      have HU0 : Hid (gotU N F fc ft fu fd j = U) := hUU
      have hC := hG _ hbb
      clear hd1 cl cv hd2 hdg hg hdq hU hG hUU
      cases ok with
      | false =>
        gi_wp2_with (refine ⟨trivial, ?_⟩; gi_at_call 10; refine (callsIn_wide.2 hC).mono ?_; rintro e w2 ⟨rfl, hB2⟩)
        refine ⟨fun _ h => (by cases h), ?_⟩
        have hB3 : Below wr.heap.size wr (w2.alloc (.cells #[.int .i64 kk, .int .i64 y, .string s] 29)) := (hba.trans (hB2.mono hba.size)).alloc (hba.trans (hB2.mono hba.size)).size _
        clear cv1 cv' hba hbb x0 x1 x2 x3 hC
        gi_wp2
        refine bodyPost_ret (results_none rfl _ _ _) rfl ?_
        exact ⟨⟨_, rfl⟩, .inl ⟨_, ⟨j, p, hj, HDQ.out, fun _ => HD.out.trans (if_neg (by simp)), rfl⟩, by rw [HU0.out]; exact AbidesFrom.step hJ hJs (grownBy_below' hB3)⟩⟩
      | true =>
        gi_wp2_with (refine ⟨trivial, ?_⟩; gi_at_call 10; refine (callsIn_wide.2 hC).mono ?_; rintro e w2 ⟨rfl, hB2⟩; have hB3 : Below wr.heap.size wr (w2.alloc (.cells #[.int .i64 kk, .int .i64 y, .string s] 29)) := (hba.trans (hB2.mono hba.size)).alloc (hba.trans (hB2.mono hba.size)).size _; obtain ⟨fn', tmps, assign, body, hy, hR⟩ := hY U ⟨kk, y, s, q, true⟩ (w2.alloc (.cells #[.int .i64 kk, .int .i64 y, .string s] 29)) (AbidesFrom.step hJ hJs (grownBy_below' hB3)) (by omega); dsimp only [encG] at hy)
        refine hR.mono ?_
        rintro e W3 (⟨rfl, hJ3, hk3⟩ | ⟨rfl, hJx3⟩)
        · clear hy hR hC cv1 cv' hba hbb x0 x1 x2 x3
          gi_wp2
          go_roundw
          case rel => exact ⟨j + 1, q, by omega, rfl, by go_num, HD.out.trans (if_pos trivial), by rw [HU.out]; exact hJ3, hk.trans ((KpB.ofBelow hB3 hws bl'.lt bv'.lt).trans hk3)⟩
          case measure => simp [intOf]; omega
        · clear hy hR hC cv1 cv' hba hbb x0 x1 x2 x3
          gi_wp2
          refine bodyPost_ret (results_none rfl _ _ _) rfl ?_
          exact ⟨⟨_, rfl⟩, .inr ⟨_, trivial, hJx3⟩⟩
    · have hjz : ¬ (j : Int) < (n : Int) := by omega
      have hjn : j = n := by omega
      have HDQ : Hid (decQ N F fc ft fu fd j = some p) := hdq
      clear hdq
      gi_wp2
      go_end0
      exact ⟨⟨_, rfl⟩, .inl ⟨_, ⟨j, p, hj, HDQ.out, fun h => absurd h hlt, rfl⟩, hJs⟩⟩

theorem inBytes_stops (NN : Nat) (hNN : 1 ≤ NN) (Bl Bv : Nat) (a : Option Addr) (n cap : Nat) (fc ft : Nat → Int) (fu fd : Nat → Bool) (b off N cb : Nat) (F : Nat → Int) (w : World) (hp : PView w a n cap fc ft fu fd) (hq : View w (some ⟨b, off, none⟩) N cb F) (hn : n ≤ 281474976710656) (hN : N ≤ 10000000)
    (W0 : World) (hb : Below w.heap.size w W0) (hl : Boxed W0 Bl 38 (.slice a n cap)) (hv : Boxed W0 Bv 22 (.slice (some ⟨b, off, none⟩) N cb)) :
    SeqStopsK Fence.wide NN Try.prog 97 #[.pointer (some ⟨Bl, 0, none⟩), .pointer (some ⟨Bv, 0, none⟩)] encG (KpB w.heap.size Bl Bv) (GotAll N F fc ft fu fd n) (fun _ => True) n W0 :=
  fun l J Jx W hW hJ _ hY h0 => inBytes1_in NN hNN l Bl Bv a n cap fc ft fu fd b off N cb F w hp hq hn hN J Jx W hJ hY (hb.trans (hW.mono hb.size)) (Boxed.below' hl hW) (Boxed.below' hv hW) h0

set_option maxHeartbeats 1000000 in
/-- valsInBytes boxes its two arguments. -/
theorem valsInBytes_in (NN : Nat) (a : Option Addr) (n cap : Nat) (a2 : Option Addr) (m c2 : Nat) (w : World) :
    CallsIn Fence.wide NN Try.prog 62 #[.slice a n cap, .slice a2 m c2] w fun e w' => e = .returned (.func (.func 97) #[] #[.pointer (some ⟨w.heap.size, 0, none⟩), .pointer (some ⟨w.heap.size + 1, 0, none⟩)]) ∧ w' = (w.alloc (.cells #[.slice a n cap] 38)).alloc (.cells #[.slice a2 m c2] 22) := by
  refine callsIn_of_wp Try.func62 rfl trivial ?_ rfl
  simp only [Try.ntmps62, List.size_toArray, List.length_cons, List.length_nil, Nat.reduceAdd, Nat.reduceSub, Array.replicate_succ, Array.replicate_zero, List.push_toArray, List.append_toArray, List.nil_append, List.cons_append]
  gi_wp2
  go_ret
  exact ⟨rfl, rfl⟩
end Go.Proofs.Ytclegljalndaeac

/-
  Rows of the call's own, and what the loop over an iterator itself turns.
-/
namespace Go.Proofs.Ytclegljalndaeac
open Go.RowKit
set_option maxRecDepth 4000

theorem own_ge {W : World} {base : Nat} {e : TypeId} {size : Nat} {v : Value} {k : Nat} {xs : List Value} (h : W.ownsRow base e size v k xs) : ∀ j, v.ownBlock = some j → base ≤ j := by
  intro j hj
  rcases h.2 with ⟨rfl, _⟩ | ⟨g, cap, cur, rfl, hb, _⟩
  · simp [Value.ownBlock] at hj
  · obtain rfl : g = j := by simpa [Value.ownBlock] using hj
    exact hb
theorem own_ownK {W W' : World} {row : Option Nat} {base : Nat} {e : TypeId} {size : Nat} {v : Value} {k : Nat} {xs : List Value} (h : W.ownsRow base e size v k xs) (hg : W.grownBy W' row) (hr : ∀ r, row = some r → ∃ o : Obj, W.heap[r]? = some o ∧ o.isCells = false) : W'.ownsRow base e size v k xs := by
  refine h.kept hg ?_
  rcases h.2 with ⟨rfl, _⟩ | ⟨g, cap, cur, rfl, _, hgb, _⟩
  · exact .inl rfl
  · refine .inr fun e' => ?_
    obtain ⟨o, ho, hc⟩ := hr g (by simpa [Value.ownBlock] using e'.symm)
    rw [hgb] at ho; cases ho; cases hc
end Go.Proofs.Ytclegljalndaeac

/-
  The program's DecodeKey: the values of a key, in a row of its own.
-/
namespace Go.Proofs.Ytclegljalndaeac
open Go.RowKit
set_option maxRecDepth 4000

attribute [local go_sem] Oper.semAt_some

/-- The cells of the values that have come. -/
def rowG (pre : List Got) : List Value := pre.flatMap (fun x => [.int .i64 x.k, .int .i64 x.n, .string x.s])
theorem rowG_snoc (pre : List Got) (x : Got) : rowG (pre ++ [x]) = rowG pre ++ [.int .i64 x.k, .int .i64 x.n, .string x.s] := by simp [rowG]
theorem rowG_U (N : Nat) (F : Nat → Int) (fc ft : Nat → Int) (fu fd : Nat → Bool) : ∀ r, rowG (gotU N F fc ft fu fd r) = rowC (decK N F fc ft fu fd) (decNm N F fc ft fu fd) (decS N F fc ft fu fd) r
  | 0 => rfl
  | r + 1 => by rw [gotU_succ, rowG_snoc, rowG_U N F fc ft fu fd r, rowC]; rfl
/-- The place behind what has come. -/
def endG (pre : List Got) : Int := (pre.getLast?.map (·.q)).getD 0
theorem endG_snoc (pre : List Got) (x : Got) : endG (pre ++ [x]) = x.q := by simp [endG]
theorem endG_U {N : Nat} {F : Nat → Int} {fc ft : Nat → Int} {fu fd : Nat → Bool} : ∀ {r : Nat} {p : Int}, decQ N F fc ft fu fd r = some p → endG (gotU N F fc ft fu fd r) = p
  | 0, p, h => by rw [decQ] at h; exact Option.some.inj h
  | r + 1, p, h => by
    obtain ⟨p', h1, h2, h3⟩ := decQ_succ h
    rw [gotU_succ, endG_snoc]
    unfold decG
    rw [h1]
    exact h3
theorem decOk_short {N : Nat} {F : Nat → Int} {fc ft : Nat → Int} {fu fd : Nat → Bool} {n r : Nat} (hr : r < n) (h : decQ N F fc ft fu fd (r + 1) = none) : decOk N F fc ft fu fd n = false := by
  unfold decOk
  have h2 := decQ_none h (n - (r + 1))
  rw [show r + 1 + (n - (r + 1)) = n by omega] at h2
  rw [h2]; simp

set_option linter.unusedSimpArgs false in
set_option maxRecDepth 100000 in
set_option maxHeartbeats 4000000 in
theorem implDecodeKey_any (a : Option Addr) (n cap : Nat) (fc ft : Nat → Int) (fu fd : Nat → Bool) (b off N cb : Nat) (F : Nat → Int) (w : World) (hp : PView w a n cap fc ft fu fd) (hq : View w (some ⟨b, off, none⟩) N cb F) (hn : n ≤ 281474976710656) (hN : N ≤ 10000000) :
    Calls Try.prog 20 #[.slice a n cap, .slice (some ⟨b, off, none⟩) N cb] w (Decs w n N F fc ft fu fd) := by
  obtain ⟨i0, hi, hz0, hz1, hz2⟩ := infoVal3
  refine (callsIn_wide (n := 6)).1 ?_
  refine callsIn_of_wp_marks Try.func20 rfl trivial ?_ rfl
  simp only [Try.ntmps20, List.size_toArray, List.length_cons, List.length_nil, Nat.reduceAdd, Nat.reduceSub, Array.replicate_succ, Array.replicate_zero, List.push_toArray, List.append_toArray, List.nil_append, List.cons_append]
  have hPl := implPlanOk_any a n cap fc ft fu fd w hp
  cases hpk : planOk n fc ft with
  | false =>
    rw [hpk] at hPl
    have HF : Hid (decOk N F fc ft fu fd n = false) := by show _ = _; unfold decOk; rw [hpk]; rfl
    gi_wp2_with (refine ⟨trivial, ?_⟩; gi_at_call 22; refine (callsIn_wide.2 hPl).mono ?_; rintro e w2 ⟨rfl, hB2⟩)
    have hO := World.ownsRow_lit (base := w.heap.size) (e := 29) (size := 3) w2 #[] 0 hB2.size (Nat.zero_le _) rfl
    refine ⟨.tuple #[.slice (some ⟨w2.heap.size, 0, none⟩) 0 0, .bool false], by simp [results, Try.results20, go_sem], .slice (some ⟨w2.heap.size, 0, none⟩) 0 0, 0, by rw [HF.out], by simp, by rw [HF.out]; rfl, hO, hB2.alloc hB2.size _⟩
  | true =>
    rw [hpk] at hPl
    gi_wp2_with (first | (refine ⟨trivial, ?_⟩; gi_at_call 22; refine (callsIn_wide.2 hPl).mono ?_; rintro e w2 ⟨rfl, hB2⟩) | (refine ⟨trivial, ?_⟩; gi_at_call 62; refine (valsInBytes_in _ _ _ _ _ _ _ _).mono ?_; rintro e w' ⟨rfl, rfl⟩))
    have hn6 : n ≤ 6 := (planOk_iff.1 hpk).2
    have hO2 := World.ownsRow_lit (base := w.heap.size) (e := 29) (size := 3) w2 #[] 0 hB2.size (Nat.zero_le _) rfl
    have hb4 : Below (w2.alloc (.cells #[] 29)).heap.size (w2.alloc (.cells #[] 29)) (((((w2.alloc (.cells #[] 29)).alloc (.cells #[.slice (some ⟨w2.heap.size, 0, none⟩) 0 0] 39)).alloc (.cells #[.int .i64 0] 3)).alloc (.cells #[.slice a n cap] 38)).alloc (.cells #[.slice (some ⟨b, off, none⟩) N cb] 22)) := ((((Below.refl _ _).alloc (by simp) _).alloc (by simp) _).alloc (by simp) _).alloc (by simp) _
    have hO3 := own_below3 hO2 hb4
    have hb5 : Below w2.heap.size w2 (((((w2.alloc (.cells #[] 29)).alloc (.cells #[.slice (some ⟨w2.heap.size, 0, none⟩) 0 0] 39)).alloc (.cells #[.int .i64 0] 3)).alloc (.cells #[.slice a n cap] 38)).alloc (.cells #[.slice (some ⟨b, off, none⟩) N cb] 22)) := ((Below.refl _ _).alloc (Nat.le_refl _) _).trans (hb4.mono (by simp))
    have hB0 := hB2.trans (hb5.mono hB2.size)
    have bV := (((Boxed.new (w2.alloc (.cells #[] 29)) 39 (.slice (some ⟨w2.heap.size, 0, none⟩) 0 0)).alloc (.cells #[.int .i64 0] 3)).alloc (.cells #[.slice a n cap] 38)).alloc (.cells #[.slice (some ⟨b, off, none⟩) N cb] 22)
    have bE := ((Boxed.new ((w2.alloc (.cells #[] 29)).alloc (.cells #[.slice (some ⟨w2.heap.size, 0, none⟩) 0 0] 39)) 3 (.int .i64 0)).alloc (.cells #[.slice a n cap] 38)).alloc (.cells #[.slice (some ⟨b, off, none⟩) N cb] 22)
    have bL := (Boxed.new (((w2.alloc (.cells #[] 29)).alloc (.cells #[.slice (some ⟨w2.heap.size, 0, none⟩) 0 0] 39)).alloc (.cells #[.int .i64 0] 3)) 38 (.slice a n cap)).alloc (.cells #[.slice (some ⟨b, off, none⟩) N cb] 22)
    have bB := Boxed.new ((((w2.alloc (.cells #[] 29)).alloc (.cells #[.slice (some ⟨w2.heap.size, 0, none⟩) 0 0] 39)).alloc (.cells #[.int .i64 0] 3)).alloc (.cells #[.slice a n cap] 38)) 22 (.slice (some ⟨b, off, none⟩) N cb)
    simp only [World.size_alloc] at bV bE bL bB
    have hsz : (((((w2.alloc (.cells #[] 29)).alloc (.cells #[.slice (some ⟨w2.heap.size, 0, none⟩) 0 0] 39)).alloc (.cells #[.int .i64 0] 3)).alloc (.cells #[.slice a n cap] 38)).alloc (.cells #[.slice (some ⟨b, off, none⟩) N cb] 22)).heap.size = w2.heap.size + 5 := by simp
    obtain ⟨W0, hW0⟩ : ∃ W0, (((((w2.alloc (.cells #[] 29)).alloc (.cells #[.slice (some ⟨w2.heap.size, 0, none⟩) 0 0] 39)).alloc (.cells #[.int .i64 0] 3)).alloc (.cells #[.slice a n cap] 38)).alloc (.cells #[.slice (some ⟨b, off, none⟩) N cb] 22)) = W0 := ⟨_, rfl⟩
    rw [hW0] at hO3 hB0 bV bE bL bB hsz ⊢
    have hwA := hB2.size
    clear hW0 hO2 hb4 hb5 hB2 hPl
    obtain ⟨A, hA⟩ : ∃ A, w2.heap.size = A := ⟨_, rfl⟩
    rw [hA] at hO3 bV bE bL bB hsz hwA ⊢
    clear hA
    refine wpIn_rangeFunc_ownH rfl (by decide) (gf := 97) (lb := #[.pointer (some ⟨A + 1 + 1 + 1, 0, none⟩), .pointer (some ⟨A + 1 + 1 + 1 + 1, 0, none⟩)]) rfl trivial (enters_of Try.func97 (by kernel_rfl) rfl)
      (inBytes_stops (6 - 1) (by decide) (A + 1 + 1 + 1) (A + 1 + 1 + 1 + 1) a n cap fc ft fu fd b off N cb F w hp hq hn hN W0 hB0 bL bB) (fun h k => KpB.trans h k) (KpB.put (by omega) (by omega) (by omega)) (Below.refl _ _) (fun _ => rfl)
      (fun pre W => ((∃ v, Boxed W (A + 1) 39 v ∧ v ≠ .slice none 0 0 ∧ W.ownsRow w.heap.size 29 3 v pre.length (rowG pre)) ∧ Boxed W (A + 1 + 1) 3 (.int .i64 (endG pre))) ∧ KpB w.heap.size (A + 1 + 1 + 1) (A + 1 + 1 + 1 + 1) W0 W)
      (fun c pre W => False)
      (OwnFrom.and (fun s X Y row hs hg hr => by obtain ⟨⟨v, h1, h2, h3⟩, h4⟩ := hs; exact ⟨⟨v, Boxed.ownK h1 hg (fun r e => (hr r e).2), h2, own_ownK h3 hg (fun r e => (hr r e).2)⟩, Boxed.ownK h4 hg (fun r e => (hr r e).2)⟩) (ownFrom_kpB (by omega) (by omega) (by omega) (Nat.le_refl _)))
      (fun c s X Y row hs hg hr => hs)
      ⟨⟨⟨_, bV, by simp, hO3⟩, bE⟩, KpB.refl _ _ _ _⟩
      (fun x a' W => ∃ Bq, Box W Bq x.k x.n x.s ∧ a' = { tmps := #[.slice a n cap, .slice (some ⟨b, off, none⟩) N cb, undef, undef, .slice none 0 0, .bool false, .pointer (some ⟨A + 1, 0, none⟩), .pointer (some ⟨A + 1 + 1, 0, none⟩), .int .i64 x.q, .pointer (some ⟨Bq, 0, none⟩), .slice a n cap, .bool true, .bool false, undef, .slice (some ⟨A, 0, none⟩) 0 0, .slice a n cap, .slice (some ⟨b, off, none⟩) N cb, .func (.func 97) #[] #[.pointer (some ⟨A + 1 + 1 + 1, 0, none⟩), .pointer (some ⟨A + 1 + 1 + 1 + 1, 0, none⟩)], .int .i64 x.q, .agg #[.int .i64 x.k, .int .i64 x.n, .string x.s], undef, undef, undef, undef, undef, undef, undef, undef, undef, undef, undef, undef, undef, undef, undef, undef, undef, undef], defers := [] })
      (fun x a' _ X Y row hs hg hr => by obtain ⟨Bq, h1, h3⟩ := hs; exact ⟨Bq, h1.ownK hg (fun r e => (hr r e).2), h3⟩)
      ?assign ?body ?done ?stop
    case assign =>
      rintro l pre x W K ⟨⟨⟨v, bV1, hne, hO⟩, bE1⟩, hk⟩ hK
      gi_wp2
      have hb1 : Below W.heap.size W (W.alloc (.cells #[.int .i64 x.k, .int .i64 x.n, .string x.s] 29)) := (Below.refl _ _).alloc (Nat.le_refl _) _
      have hs1 := hk.below.size
      have hkk := KpB.ofBelow (n₀ := w.heap.size) (Bl := A + 1 + 1 + 1) (Bv := A + 1 + 1 + 1 + 1) hb1 (by omega) (by omega) (by omega)
      exact hK _ _ (KeepsFrom.ofBelow hb1) hkk ⟨⟨⟨v, Boxed.below' bV1 hb1, hne, own_below3 hO hb1⟩, Boxed.below' bE1 hb1⟩, hk.trans hkk⟩ ⟨W.heap.size, Box.new W _ _ _, rfl⟩
    case body =>
      rintro l pre x a' W hl ⟨r, hr⟩ ⟨⟨⟨v, bV1, hne, hO⟩, bE1⟩, hk⟩ ⟨Bq, hQ, rfl⟩ hlt
      obtain ⟨q0, q1, q2⟩ := hQ.cells
      have hs1 := hk.below.size
      have cV := bV1.cell
      have HNE : Hid (v ≠ .slice none 0 0) := hne
      have hBL : W.heap[A + 1 + 1 + 1]? = some (.cells #[.slice a n cap] 38 (0, 0)) := Boxed.kpl bL hk
      clear hr hne
      gi_wp2_with (gi_at_builtin; refine wpListIn_append_own _ rfl _ _ 39 rfl w.heap.size 29 i0 (.agg #[.int .i64 0, .int .i64 0, .string ⟨#[]⟩]) 3 32 Try.underlying39 hi hz0 hz1 hz2 rfl (by decide) v _ _ rfl (own_below3 hO ((Below.refl _ _).alloc (Nat.le_refl _) _)) ⟨W.heap.size, 0, none⟩ 1 1 [.int .i64 x.k, .int .i64 x.n, .string x.s] rfl rfl (cells_one W x.k x.n x.s) (one_cells _ _ _) (by unfold maxLen; omega) (by omega) (by simp; omega) ?_; intro v' w1 hown' hgrow hnil; obtain ⟨g', cap', rfl⟩ := ownsRow_succ hown'; obtain ⟨hv1, hv2, hr2, hk2, hb2⟩ := Boxed.appended bV1 (by decide) hO (by omega) (by omega) hown' hgrow; have hc1 := hv1.cell; have hf1 := hv1.frozen; have bE2 := (bE1.alloc (.cells #[.int .i64 x.k, .int .i64 x.n, .string x.s] 29)).kept hgrow (bE1.not_row (by decide) hO); have hc2 := bE2.cell; have hf2 := bE2.frozen)
      have bL1 := Boxed.kpl bL hk
      have bB1 := Boxed.kpv bB hk
      have hsg := hgrow.size
      rw [World.size_alloc] at hsg
      have hkk : KpB w.heap.size (A + 1 + 1 + 1) (A + 1 + 1 + 1 + 1) W ((w1.setCell ⟨A + 1, 0, none⟩ (.slice (some ⟨g', 0, none⟩) (pre.length + 1) cap')).setCell ⟨A + 1 + 1, 0, none⟩ (.int .i64 x.q)) := by
        refine (((KpB.ofBelow ((Below.refl _ _).alloc (Nat.le_refl _) _) (by omega) (by omega) (by omega)).trans (KpB.ofGrown hgrow (by rw [World.size_alloc]; omega) (by rw [World.size_alloc]; omega) (by rw [World.size_alloc]; omega) (fun k e => ⟨own_ge hO k e, fun h => ?_, fun h => ?_⟩))).trans (KpB.ofGrown (grownBy_setCell' w1 (A + 1) _) (by omega) (by omega) (by omega) (fun k e => by cases e; omega))).trans (KpB.ofGrown (grownBy_setCell' _ (A + 1 + 1) _) (by simp; omega) (by simp; omega) (by simp; omega) (fun k e => by cases e; omega))
        · subst h; exact bL1.not_row (by decide) hO e.symm
        · subst h; exact bB1.not_row (by decide) hO e.symm
      have bE3 := bE2.other (B' := A + 1) (by omega) (.slice (some ⟨g', 0, none⟩) (pre.length + 1) cap')
      refine ⟨(hk2.from _).trans ((KeepsOthers.setCell _ _ _).from _), hkk, ⟨⟨_, hv2.other (by omega) _, by simp, ?_⟩, ?_⟩, hk.trans hkk⟩
      · rw [rowG_snoc, List.length_append]
        exact hr2.kept (grownBy_setCell' _ (A + 1 + 1) _) (.inr (bE3.not_row (by decide) hr2).symm)
      · rw [endG_snoc]; exact bE3.set _
    case done =>
      rintro D ys W hD ⟨r, p, hr, hdq, hst, rfl⟩ ⟨⟨⟨v, bV1, hne, hO⟩, bE1⟩, hk⟩ hK
      have hk0 := hB0.trans hk.below
      rw [endG_U hdq] at bE1
      rw [rowG_U, gotU_len] at hO
      have hpb := decQ_bd hq.byte hdq
      obtain ⟨g, cg, rfl⟩ : ∃ g cg, v = .slice (some ⟨g, 0, none⟩) r cg := by
        rcases hO.2 with ⟨e, _⟩ | ⟨g, cg, _, e, _⟩
        · exact absurd e hne
        · exact ⟨g, cg, e⟩
      have cV := bV1.cell
      have cE := bE1.cell
      have hnone : Hid (∀ (hF : decOk N F fc ft fu fd n = false), Decs w n N F fc ft fu fd (.returned (.tuple #[.slice (some ⟨W.heap.size, 0, none⟩) 0 0, .bool false])) ((W.alloc (.cells #[] 29)).putObj D (.deferred none))) := by
        intro hF
        have hO2 := World.ownsRow_lit (base := w.heap.size) (e := 29) (size := 3) W #[] 0 hk0.size (Nat.zero_le _) rfl
        have hKD : (W.alloc (.cells #[] 29)).heap[D]? = some (.deferred (some [])) := (Below.heap_alloc W _ D (Array.getElem?_eq_some_iff.1 hK).1).trans hK
        refine ⟨_, 0, by rw [hF], by simp, by rw [hF]; rfl, own_ownK hO2 (grownBy_putObj' _ D _) (fun r e => by cases e; exact ⟨_, hKD, rfl⟩), Below.put' (hk0.alloc hk0.size _) (by omega) hKD⟩
      by_cases hrn : r < n
      · have hrz : (r : Int) < (n : Int) := by omega
        have HF : Hid (decOk N F fc ft fu fd n = false) := decOk_short hrn (hst hrn)
        have hKD : (W.alloc (.cells #[] 29)).heap[D]? = some (.deferred (some [])) := (Below.heap_alloc W _ D (Array.getElem?_eq_some_iff.1 hK).1).trans hK
        clear hdq hst hO hk
        gi_wp2
        refine ⟨by simp, .inl ⟨_, _, rfl, run_takeDeferred hKD, ?_⟩⟩
        exact ⟨.tuple #[.slice (some ⟨W.heap.size, 0, none⟩) 0 0, .bool false], by simp [results, Try.results20, go_sem], hnone.out HF.out⟩
      · have hrz : ¬ (r : Int) < (n : Int) := by omega
        obtain rfl : r = n := by omega
        by_cases hpN : p < N
        · have HF : Hid (decOk N F fc ft fu fd r = false) := by
            show _ = _
            unfold decOk
            rw [hdq]
            simp
            intro _; omega
          have hKD : (W.alloc (.cells #[] 29)).heap[D]? = some (.deferred (some [])) := (Below.heap_alloc W _ D (Array.getElem?_eq_some_iff.1 hK).1).trans hK
          clear hdq hst hO hk
          gi_wp2
          refine ⟨by simp, .inl ⟨_, _, rfl, run_takeDeferred hKD, ?_⟩⟩
          exact ⟨.tuple #[.slice (some ⟨W.heap.size, 0, none⟩) 0 0, .bool false], by simp [results, Try.results20, go_sem], hnone.out HF.out⟩
        · have HF : Hid (decOk N F fc ft fu fd r = true) := by
            show _ = _
            unfold decOk
            rw [hdq, hpk, show p = (N : Int) by omega]
            simp
          clear hdq hst hk hnone
          gi_wp2
          refine ⟨by simp, .inl ⟨_, _, rfl, run_takeDeferred hK, ?_⟩⟩
          refine ⟨.tuple #[.slice (some ⟨g, 0, none⟩) r cg, .bool true], by simp [results, Try.results20, go_sem], _, r, by rw [HF.out], hne, by rw [HF.out]; rfl, own_ownK hO (grownBy_putObj' _ D _) (fun r e => by cases e; exact ⟨_, hK, rfl⟩), Below.put' hk0 (by omega) hK⟩
    case stop =>
      rintro D c pre W hD hpre h hK
      exact h.elim
end Go.Proofs.Ytclegljalndaeac

/-
  The program's SameVal: whether two values are alike.
-/
namespace Go.Proofs.Ytclegljalndaeac
open Go.RowKit
set_option maxRecDepth 4000

set_option maxHeartbeats 1000000 in
theorem sameVal_impl (k n : Int) (s : ByteArray) (k' n' : Int) (s' : ByteArray) (w : World) :
    Calls Try.prog 64 #[.agg #[.int .i64 k, .int .i64 n, .string s], .agg #[.int .i64 k', .int .i64 n', .string s']] w fun e w' => e = .returned (.bool (eqV k n s k' n' s')) ∧ Below w.heap.size w w' := by
  have q := eqVal_run k n s k' n' s'
  go_enter Try.func64, Try.ntmps64
  go_wp2
  go_ret
  refine ⟨rfl, ?_⟩
  repeat (first | exact Below.refl _ _ | refine Below.alloc ?_ (by simp <;> omega) _ | refine Below.drew ?_)

end Go.Proofs.Ytclegljalndaeac

/-
  The program's LessPart: values as they stand, the other way round where it is asked.
-/
namespace Go.Proofs.Ytclegljalndaeac
open Go.RowKit
set_option maxRecDepth 4000

set_option maxHeartbeats 1000000 in
theorem implLessPart_any (c t : Int) (nul d : Bool) (k n : Int) (s : ByteArray) (k' n' : Int) (s' : ByteArray) (w : World) :
    Calls Try.prog 13 #[.agg #[.int .i64 c, .int .i64 t, .bool nul, .bool d], .agg #[.int .i64 k, .int .i64 n, .string s], .agg #[.int .i64 k', .int .i64 n', .string s']] w fun e w' => e = .returned (.bool (lessP d k n s k' n' s')) ∧ Below w.heap.size w w' := by
  have hb0 : ∀ o o' o'', Below w.heap.size w (((w.alloc o).alloc o').alloc o'') := fun o o' o'' => (((Below.refl _ _).alloc (Nat.le_refl _) _).alloc (by simp) _).alloc (by simp; omega) _
  cases d with
  | true =>
    go_enter Try.func13, Try.ntmps13
    go_wp2_with fail
    refine (lessVal_impl k' n' s' k n s _).mono ?_
    rintro e w1 ⟨rfl, hb1⟩
    have HB : Hid (Below w.heap.size w w1) := (hb0 _ _ _).trans (hb1.mono (by simp; omega))
    clear hb1 hb0
    go_wp2
    go_ret
    exact ⟨rfl, HB.out⟩
  | false =>
    go_enter Try.func13, Try.ntmps13
    go_wp2_with fail
    refine (lessVal_impl k n s k' n' s' _).mono ?_
    rintro e w1 ⟨rfl, hb1⟩
    have HB : Hid (Below w.heap.size w w1) := (hb0 _ _ _).trans (hb1.mono (by simp; omega))
    clear hb1 hb0
    go_wp2
    go_ret
    exact ⟨rfl, HB.out⟩
end Go.Proofs.Ytclegljalndaeac

