/-
  What the program reads of a text, ahead of its looks: in one.
-/
import Derived.Test.YthjddmhcppdleaaDoorReadImpl
import Derived.Test.YthjddmhcppdleaaDoorParseSpec
namespace Go.Proofs.YthjddmhcppdleaaDoor
open Go.RowKit Go.Lib

def ReadEnd (l : List UInt8) (e : Ending) : Prop :=
  (∃ v : V, readV l = (some v, true) ∧ e = .returned (.tuple #[v.enc, .bool true])) ∨ ((∀ v : V, readV l ≠ (some v, true)) ∧ ∃ x, e = .returned (.tuple #[x, .bool false]))

theorem readV_long {c : UInt8} {d : List UInt8} (h1 : c :: d ≠ [110, 117, 108, 108]) (h2 : c :: d ≠ [110, 111]) (h3 : c :: d ≠ [121, 101, 115]) : readV (c :: d) = (if c = 105 then match atoiAll d with
        | .ok n => (some (.int n), true)
        | .«syntax» => (some (.int 0), false)
        | .range => (some (.int (atoiSat d)), false)
      else if c = 110 then match atoiAll d with
        | .ok n => (some (.num n), true)
        | .«syntax» => (some (.num 0), false)
        | .range => (some (.num (atoiSat d)), false)
      else if c = 39 ∧ d ≠ [] ∧ d.getLast? = some 39 then (some (.text (bytesOf d.dropLast)), true)
      else (none, false)) := by
  unfold readV
  rw [if_neg h1, if_neg h2, if_neg h3]
  simp only
  cases atoiAll d <;> rfl

theorem readValue_any (s : ByteArray) (w : World) (hs : s.size ≤ 1048576) (E1 : ErrVar "strconv.ErrSyntax" w) (E2 : ErrVar "strconv.ErrRange" w) :
    Calls Tryd.prog 17 #[.string s] w fun e w' => ReadEnd s.data.toList e ∧ Below w.heap.size w w' := by
  have yes : ∀ (v : V), readV s.data.toList = (some v, true) → (Calls Tryd.prog 17 #[.string s] w fun e w' => e = .returned (.tuple #[v.enc, .bool true]) ∧ Below w.heap.size w w') → Calls Tryd.prog 17 #[.string s] w fun e w' => ReadEnd s.data.toList e ∧ Below w.heap.size w w' :=
    fun v hv h => h.mono fun e w' he => ⟨.inl ⟨v, hv, he.1⟩, he.2⟩
  have no : (∀ v : V, readV s.data.toList ≠ (some v, true)) → (Calls Tryd.prog 17 #[.string s] w fun e w' => ∃ x, e = .returned (.tuple #[x, .bool false]) ∧ Below w.heap.size w w') → Calls Tryd.prog 17 #[.string s] w fun e w' => ReadEnd s.data.toList e ∧ Below w.heap.size w w' :=
    fun hv h => h.mono fun e w' ⟨x, he, hB⟩ => ⟨.inr ⟨hv, x, he⟩, hB⟩
  have none' : (∀ v : V, readV s.data.toList ≠ (some v, true)) → (Calls Tryd.prog 17 #[.string s] w fun e w' => e = .returned (.tuple #[.nilIface, .bool false]) ∧ Below w.heap.size w w') → Calls Tryd.prog 17 #[.string s] w fun e w' => ReadEnd s.data.toList e ∧ Below w.heap.size w w' :=
    fun hv h => no hv (h.mono fun e w' he => ⟨_, he.1, he.2⟩)
  by_cases a1 : s = ⟨[110, 117, 108, 108].toArray⟩
  · subst a1; exact yes .null rfl (read_null w)
  by_cases a2 : s = ⟨[110, 111].toArray⟩
  · subst a2; exact yes (.bool false) rfl (read_no w)
  by_cases a3 : s = ⟨[121, 101, 115].toArray⟩
  · subst a3; exact yes (.bool true) rfl (read_yes w)
  have h3 : Not3 s := ⟨a1, a2, a3⟩
  have b1 : s.data.toList ≠ [110, 117, 108, 108] := fun e => a1 (bytes_eq e)
  have b2 : s.data.toList ≠ [110, 111] := fun e => a2 (bytes_eq e)
  have b3 : s.data.toList ≠ [121, 101, 115] := fun e => a3 (bytes_eq e)
  clear a1 a2 a3
  obtain ⟨⟨l⟩⟩ := s
  cases l with
  | nil =>
    obtain ⟨t1, hc1⟩ := cuts_no (s := ⟨⟨[]⟩⟩) (c := 105) (by simp)
    obtain ⟨t2, hc2⟩ := cuts_no (s := ⟨⟨[]⟩⟩) (c := 110) (by simp)
    exact none' (by intro v h; cases h) (read_none_short _ w hs h3 t1 t2 hc1 hc2 (by decide))
  | cons c d =>
    have hsz : (ByteArray.mk ⟨c :: d⟩).size = d.length + 1 := rfl
    have e0 : ByteArray.mk ⟨c :: d⟩ = bytesOf (c :: d) := rfl
    have b1 : c :: d ≠ [110, 117, 108, 108] := b1
    have b2 : c :: d ≠ [110, 111] := b2
    have b3 : c :: d ≠ [121, 101, 115] := b3
    have hd : (bytesOf d).data.toList = d := by simp [bytesOf]
    have hds : (bytesOf d).size ≤ 1048576 := by
      have : (bytesOf d).size = d.length := by simp [bytesOf, ByteArray.size]
      omega
    have hR := readV_long b1 b2 b3
    have yes : ∀ (v : V), readV (c :: d) = (some v, true) → _ := yes
    have no : (∀ v : V, readV (c :: d) ≠ (some v, true)) → _ := no
    have none' : (∀ v : V, readV (c :: d) ≠ (some v, true)) → _ := none'
    by_cases c105 : c = 105
    · rw [if_pos c105] at hR
      subst c105
      by_cases hn : ∃ n, atoiAll d = .ok n
      · obtain ⟨n, hn⟩ := hn
        rw [hn] at hR
        exact yes _ hR (read_int_ok _ _ n w h3 (cuts_yes 105 d) (atoi_yes w hds (by rw [hd]; exact hn)))
      · have hn' : ∀ n, atoiAll d ≠ .ok n := fun n h => hn ⟨n, h⟩
        refine no (fun v h => ?_) (read_int_err _ _ w h3 (cuts_yes 105 d) (atoi_no w hds (by rw [hd]; exact hn') E1 E2))
        rw [hR] at h
        cases ha : atoiAll d with
        | ok n => exact hn' n ha
        | «syntax» => rw [ha] at h; cases h
        | range => rw [ha] at h; cases h
    · rw [if_neg c105] at hR
      obtain ⟨t1, hc1⟩ := cuts_no (s := ⟨⟨c :: d⟩⟩) (c := 105) (by simpa using c105)
      by_cases c110 : c = 110
      · rw [if_pos c110] at hR
        subst c110
        by_cases hn : ∃ n, atoiAll d = .ok n
        · obtain ⟨n, hn⟩ := hn
          rw [hn] at hR
          exact yes _ hR (read_num_ok _ _ n w h3 t1 hc1 (cuts_yes 110 d) (atoi_yes w hds (by rw [hd]; exact hn)))
        · have hn' : ∀ n, atoiAll d ≠ .ok n := fun n h => hn ⟨n, h⟩
          refine no (fun v h => ?_) (read_num_err _ _ w h3 t1 hc1 (cuts_yes 110 d) (atoi_no w hds (by rw [hd]; exact hn') E1 E2))
          rw [hR] at h
          cases ha : atoiAll d with
          | ok n => exact hn' n ha
          | «syntax» => rw [ha] at h; cases h
          | range => rw [ha] at h; cases h
      · rw [if_neg c110] at hR
        obtain ⟨t2, hc2⟩ := cuts_no (s := ⟨⟨c :: d⟩⟩) (c := 110) (by simpa using c110)
        have h0 : 0 < (ByteArray.mk ⟨c :: d⟩).size := by rw [hsz]; omega
        have hc : (ByteArray.mk ⟨c :: d⟩)[0] = c := rfl
        by_cases hl : 1 ≤ d.length
        case neg =>
          have : d = [] := List.length_eq_zero_iff.1 (by omega)
          refine none' (fun v h => ?_) (read_none_short _ w hs h3 t1 t2 hc1 hc2 (by omega))
          rw [hR, if_neg (by rw [this]; simp)] at h
          cases h
        by_cases c39 : c = 39
        case neg =>
          refine none' (fun v h => ?_) (read_none_head _ w hs h3 t1 t2 hc1 hc2 (by omega) h0 (by
            rw [hc, show (39 : Int) = ((39 : Nat) : Int) from rfl, beq_byte (by decide)]; exact decide_eq_false c39))
          rw [hR, if_neg (fun e => c39 e.1)] at h
          cases h
        have hx : ((ByteArray.mk ⟨c :: d⟩).extract 1 d.length).data.toList = d.dropLast := by simp [List.dropLast_eq_take]
        have hx2 : (ByteArray.mk ⟨c :: d⟩).extract 1 d.length = bytesOf d.dropLast := by rw [← hx]; exact (bytes_data _).symm
        have hlt : d.length < (ByteArray.mk ⟨c :: d⟩).size := by rw [hsz]; omega
        have hlast : d.getLast? = some ((ByteArray.mk ⟨c :: d⟩)[d.length]) := by
          have : (ByteArray.mk ⟨c :: d⟩)[d.length] = (c :: d)[d.length]'(by simp) := rfl
          rw [this, List.getLast?_eq_getElem?, ← List.getElem?_eq_getElem]
          obtain ⟨k, hk⟩ : ∃ k, d.length = k + 1 := ⟨d.length - 1, by omega⟩
          rw [hk, List.getElem?_cons_succ]
          rfl
        have hne : d ≠ [] := fun e => by rw [e] at hl; simp at hl
        by_cases hz : (ByteArray.mk ⟨c :: d⟩)[d.length] = 39
        · rw [if_pos ⟨c39, hne, by rw [hlast, hz]⟩] at hR
          exact yes _ hR (read_text _ w hs h3 t1 t2 hc1 hc2 (by omega) h0 (by rw [hc, c39]; rfl) d.length (by omega) (by omega) (by omega) (by omega) hlt (by rw [hz]; rfl) _ hx2 (by simp [bytesOf, ByteArray.size] at hs ⊢; omega))
        · refine none' (fun v h => ?_) (read_none_tail _ w hs h3 t1 t2 hc1 hc2 (by omega) h0 (by rw [hc, c39]; rfl) d.length (by omega) (by omega) (by omega) (by omega) hlt (by
            rw [show (39 : Int) = ((39 : Nat) : Int) from rfl, beq_byte (by decide)]; exact decide_eq_false hz))
          rw [hR, if_neg (fun e => hz (by have := e.2.2; rw [hlast] at this; exact Option.some.inj this))] at h
          cases h
theorem errVar_below {nm : String} {w w' : World} (h : ErrVar nm w) (hb : Below w.heap.size w w') : ErrVar nm w' := by
  obtain ⟨tp, p, h⟩ := h
  refine ⟨tp, p, ?_⟩
  unfold World.var? at *
  cases hg : Tryd.prog.globalNamed nm with
  | none => simp [hg] at h
  | some g =>
    simp only [hg, Option.bind_some] at h ⊢
    have hlt : g < w.heap.size := by
      rcases Nat.lt_or_ge g w.heap.size with h' | h'
      · exact h'
      · rw [Array.getElem?_eq_none h'] at h; simp at h
    rw [hb.block g hlt]
    exact h

set_option maxHeartbeats 2000000 in
theorem parseVal_impl (s : ByteArray) (w : World) (hs : s.size ≤ 1048576) (ht : Tab w) (E1 : ErrVar "strconv.ErrSyntax" w) (E2 : ErrVar "strconv.ErrRange" w) (k n : Int) (t : ByteArray) (b : Bool) (hP : Parsed s.data.toList k n t b) :
    Calls Tryd.prog 7 #[.string s] w fun e w' => e = .returned (.tuple #[.agg #[.int .i64 k, .int .i64 n, .string t], .bool b]) ∧ Below w.heap.size w w' := by
  have tab : ∀ {W : World}, Below w.heap.size w W → Tab W := fun h => tab_below ht h
  have E1' : ErrVar "strconv.ErrSyntax" (w.alloc (.cells #[.int .i64 0, .int .i64 0, .string ⟨#[]⟩] 25)) := errVar_below E1 ((Below.refl _ _).alloc (Nat.le_refl _) _)
  have E2' : ErrVar "strconv.ErrRange" (w.alloc (.cells #[.int .i64 0, .int .i64 0, .string ⟨#[]⟩] 25)) := errVar_below E2 ((Below.refl _ _).alloc (Nat.le_refl _) _)
  have hRV := readValue_any s _ hs E1' E2'
  clear E1 E2 E1' E2'
  go_enter Tryd.func7, Tryd.ntmps7
  go_wp2_with fail
  refine hRV.mono ?_
  rintro e w1 ⟨hE, hB⟩
  have hC := hB.mono (show w.heap.size + 1 ≤ _ by simp)
  have hD : Below w.heap.size w w1 := ((Below.refl _ _).alloc (Nat.le_refl _) _).trans (hB.mono (by simp))
  have hlt : w.heap.size + 1 ≤ w1.heap.size := by have := hB.size; simpa using this
  have hlt2 : w.heap.size < w1.heap.size := by omega
  obtain ⟨c0, c1, c2⟩ := boxed hC (by omega)
  obtain ⟨f0, f1, f2⟩ := boxedF hC (by omega)
  clear hB hRV
  rcases hE with ⟨v, hv, rfl⟩ | ⟨hno, x, rfl⟩
  · cases hr : v.rng with
    | false =>
      obtain ⟨rfl, rfl, rfl, rfl⟩ := hP.unique (read_none (l := s.data.toList) (fun u hu hru => by
        rw [hv] at hu
        cases hu
        rw [hr] at hru
        cases hru))
      have hI := fun W => inRange_any v W
      rw [hr] at hI
      have g := stored3 (.int .i64 0) (.int .i64 0) (.string ⟨#[]⟩) c0 c1 c2
      clear hv hr hP
      generalize v.enc = x at *
      go_wp2_with (first | (go_at_call 18; refine (hI _).mono ?_; rintro e _ ⟨rfl, rfl⟩))
      refine bodyPost_ret (v := .tuple #[.agg #[_, _, _], .bool _]) (by simp [results, Tryd.results7, go_sem, g, noBytes]) rfl ⟨rfl, ?_⟩
      repeat (first | exact hD | refine Below.alloc ?_ (by simp <;> omega) _ | refine Below.setCell ?_ (by exact Nat.le_refl _) _ | refine Below.drew ?_)
    | true =>
      have hI := fun W => inRange_any v W
      rw [hr] at hI
      have hX := fun W h => valueText_any v W h hr
      have hO := fun W => valOf_any v W
      unfold valAgg at hO
      by_cases htx : v.txt = s.data.toList
      · obtain ⟨rfl, rfl, rfl, rfl⟩ := hP.unique (read_some hv hr htx)
        have e : bytesOf v.txt = s := by rw [htx]; exact bytes_data s
        rw [e] at hX
        clear hv hr hP htx e c0 c1 c2 f0 f1 f2
        generalize v.enc = x at *
        go_wp2_with (first | (go_at_call 18; refine (hI _).mono ?_; rintro e _ ⟨rfl, rfl⟩))
        refine (hX _ (tab hD)).mono ?_
        rintro e w2 ⟨rfl, hB2⟩
        have hC2 := hC.trans (hB2.mono hlt)
        have hD2 := hD.trans (hB2.mono (by omega))
        have hlt3 : w.heap.size + 1 ≤ w2.heap.size := by have := hB2.size; omega
        clear hB2
        go_wp2_with fail
        refine (hO _).mono ?_
        rintro e w3 ⟨rfl, hB3⟩
        have hC3 := hC2.trans (hB3.mono hlt3)
        have hD3 := hD2.trans (hB3.mono (by omega))
        obtain ⟨c0, c1, c2⟩ := boxed hC3 (by omega)
        obtain ⟨f0, f1, f2⟩ := boxedF hC3 (by omega)
        have g := stored3 (.int .i64 v.k) (.int .i64 v.n) (.string v.s) c0 c1 c2
        clear hB3 hC3 hC2 hC hD hD2 hlt hlt2 hlt3 tab ht hI hX hO
        go_wp2
        refine bodyPost_ret (v := .tuple #[.agg #[_, _, _], .bool _]) (by simp [results, Tryd.results7, go_sem, g]) rfl ⟨rfl, ?_⟩
        repeat (first | exact hD3 | refine Below.alloc ?_ (by simp <;> omega) _ | refine Below.setCell ?_ (by exact Nat.le_refl _) _ | refine Below.drew ?_)
      · obtain ⟨rfl, rfl, rfl, rfl⟩ := hP.unique (read_none (l := s.data.toList) (fun u hu _ hut => by
          rw [hv] at hu
          cases hu
          exact htx hut))
        have hne : ((bytesOf v.txt).toList == s.toList) = false := by
          rw [beq_eq_false_iff_ne]
          intro e
          have := toList_inj.1 e
          apply htx
          rw [← this]
          simp [bytesOf]
        clear hv hr hP htx c0 c1 c2 f0 f1 f2 hO
        generalize v.enc = x at *
        generalize bytesOf v.txt = r at *
        go_wp2_with (first | (go_at_call 18; refine (hI _).mono ?_; rintro e _ ⟨rfl, rfl⟩))
        refine (hX _ (tab hD)).mono ?_
        rintro e w2 ⟨rfl, hB2⟩
        have hC2 := hC.trans (hB2.mono hlt)
        have hD2 := hD.trans (hB2.mono (by omega))
        obtain ⟨c0, c1, c2⟩ := boxed hC2 (by omega)
        obtain ⟨f0, f1, f2⟩ := boxedF hC2 (by omega)
        have g := stored3 (.int .i64 0) (.int .i64 0) (.string ⟨#[]⟩) c0 c1 c2
        clear hB2 hC2 hC hD hlt hlt2 tab ht hI hX
        go_wp2
        refine bodyPost_ret (v := .tuple #[.agg #[_, _, _], .bool _]) (by simp [results, Tryd.results7, go_sem, g, noBytes]) rfl ⟨rfl, ?_⟩
        repeat (first | exact hD2 | refine Below.alloc ?_ (by simp <;> omega) _ | refine Below.setCell ?_ (by exact Nat.le_refl _) _ | refine Below.drew ?_)
  · obtain ⟨rfl, rfl, rfl, rfl⟩ := hP.unique (read_none (l := s.data.toList) (fun u hu _ => absurd hu (hno u)))
    have g := stored3 (.int .i64 0) (.int .i64 0) (.string ⟨#[]⟩) c0 c1 c2
    clear hno hP
    go_wp2
    refine bodyPost_ret (v := .tuple #[.agg #[_, _, _], .bool _]) (by simp [results, Tryd.results7, go_sem, g, noBytes]) rfl ⟨rfl, ?_⟩
    repeat (first | exact hD | refine Below.alloc ?_ (by simp <;> omega) _ | refine Below.setCell ?_ (by exact Nat.le_refl _) _ | refine Below.drew ?_)
end Go.Proofs.YthjddmhcppdleaaDoor
