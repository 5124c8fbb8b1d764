/-
  WriteS
-/
import Derived.Test.YtdhfbblameiloaaUP7
import Derived.Test.YtdhfbblameiloaaUP3
import Derived.Test.YtdhfbblameiloaaUP5
import Derived.Deep.CutBlock
/-
  The model's l12Write.
-/
namespace Go.Proofs.Ytdhfbblameiloaa
open Go.RowKit
set_option maxRecDepth 4000

theorem View.offVN {w : World} {ba : Option Addr} {n c : Nat} {f : Nat → Int} {X i : Nat} {a b : Option Addr} {k m j d p e : Nat} {o : Int} {y : Bool} {u : Value} {q : Option Addr} {T : TypeId} (hv : View w ba n c f) (hX : VN w X T [.slice a k m, .slice b j d, .int .i64 o, .slice q p e, .bool y]) : View (w.setCell ⟨X, i, none⟩ u) ba n c f := by
  refine ⟨hv.le, hv.byte, fun hn => ?_⟩
  obtain ⟨b1, off, eb, hlt, hc⟩ := hv.cells hn
  have hne : b1 ≠ X := by
    rintro rfl
    have h0 := hc 0 hn
    rw [hX.cell, Nat.add_zero] at h0
    match off, h0 with
    | 0, h0 => cases h0
    | 1, h0 => cases h0
    | 2, h0 => cases h0
    | 3, h0 => cases h0
    | 4, h0 => cases h0
    | _ + 5, h0 => simp at h0
  refine ⟨b1, off, eb, by simpa using hlt, fun j hj => ?_⟩
  rw [World.cell?_of_block (w := w) (a := ⟨b1, off + j, none⟩) (Below.heap_setCell _ _ _ _ hne)]
  exact hc j hj
theorem ob_own {w : World} {B : Nat} {v : Value} {l : List Int} (h : w.ownsRow B 5 1 v l.length (bl l)) (hb : ∀ x ∈ l, 0 ≤ x ∧ x ≤ 255) : OB w B v l := by
  obtain ⟨a, c, e, h1, h2, h3⟩ := own_rl h
  refine ⟨a, c, e, h1, h2, hb, ?_⟩
  by_cases hl : l = []
  · exact .inl hl
  · rcases h3 with h3 | ⟨g, cur, ea, hB, hg, hc⟩
    · have := congrArg List.length h3
      rw [bl_len] at this
      exact absurd (List.eq_nil_of_length_eq_zero this) hl
    · have hcc : ∀ i, i < l.length → cur[i]? = some (.int .u8 (bf l i)) := fun i hi => hc i _ (by simp [bl, bf, hi])
      refine .inr ⟨g, ea, hB, cur, hg, ?_, hcc⟩
      rcases Nat.lt_or_ge cur.size l.length with hlt | hge
      · have := hcc cur.size hlt
        simp at this
      · exact hge
/-- One write more, in the variable too. -/
theorem MS.more {w wa : World} {B X gs sc : Nat} {ca : Option Addr} {cc : Nat} {fa : Option Addr} {fc : Nat} {ss cs : List Value} {D : PDisk} {S : List (List Int)} (h : MS w B X gs sc ca cc fa fc ss cs D S) (hk : KeepT (fun t => t = 51) w wa) {n : Int} {l : List Int} {u : Value} (hu : OB w B u l) {cb : Option Addr} {cd : Nat} (hO : wa.ownsRow B 51 2 (.slice cb (D.cache.length + 1) cd) (D.cache.length + 1) (wcells D.cache cs ++ [.int .i64 n, u])) :
    MS (wa.setCell ⟨X, 1, none⟩ (.slice cb (D.cache.length + 1) cd)) B X gs sc cb cd fa fc ss (cs ++ [u]) { D with cache := D.cache ++ [(n, l)] } S ∧ (wa.setCell ⟨X, 1, none⟩ (.slice cb (D.cache.length + 1) cd)).ownsRow B 51 2 (.slice cb (D.cache.length + 1) cd) (D.cache.length + 1) (wcells (D.cache ++ [(n, l)]) (cs ++ [u])) := by
  have hXa := h.x.block (hk _ _ _ _ h.x (by decide))
  have hk2 := keep_vn (P := fun t => t = 32) (i := 1) (u := .slice cb (D.cache.length + 1) cd) hXa rfl
  have hX2 := hXa.set 1 (.slice cb (D.cache.length + 1) cd)
  simp only [List.set] at hX2
  have hO2 := own_keepT hO hk2 (by decide)
  have hwc : wcells (D.cache ++ [(n, l)]) (cs ++ [u]) = wcells D.cache cs ++ [.int .i64 n, u] := wcells_push h.nc (n, l) u
  refine ⟨⟨?_, (h.secs.keepT hk (by decide)).keepT hk2 (by decide), h.ns, h.len, fun i v x h1 h2 => ((h.ob i v x h1 h2).keepT hk (by decide)).keepT hk2 (by decide), ?_, by simp [h.nc], fun i v x h1 h2 => ?_, own_keepT (own_keepT h.fown hk (by decide)) hk2 (by decide)⟩, ?_⟩
  · show VN _ X _ [.slice (some ⟨gs, 0, none⟩) D.secs.length sc, .slice cb (D.cache ++ [(n, l)]).length cd, .int .i64 D.ops, .slice fa D.faults.length fc, .bool D.down]
    rw [List.length_append]
    exact hX2
  · show World.ownsRow _ B _ 2 (.slice cb (D.cache ++ [(n, l)]).length cd) (D.cache ++ [(n, l)]).length (wcells (D.cache ++ [(n, l)]) (cs ++ [u]))
    rw [hwc, List.length_append]
    exact hO2
  · have h2' : ((D.cache ++ [(n, l)]).map (·.2))[i]? = some x := h2
    by_cases hi : i < cs.length
    · rw [List.getElem?_append_left hi] at h1
      rw [List.map_append, List.getElem?_append_left (by rw [List.length_map, ← h.nc]; exact hi)] at h2'
      exact ((h.cb i v x h1 h2').keepT hk (by decide)).keepT hk2 (by decide)
    · rw [List.getElem?_append_right (by omega)] at h1
      rw [List.map_append, List.getElem?_append_right (by rw [List.length_map, ← h.nc]; omega), List.length_map, ← h.nc] at h2'
      have e0 : i - cs.length = 0 := by
        have := (List.getElem?_eq_some_iff.1 h1).1
        simp at this; omega
      rw [e0] at h1 h2'
      simp at h1 h2'
      subst h1 h2'
      exact (hu.keepT hk (by decide)).keepT hk2 (by decide)
  · rw [hwc]
    exact hO2
/-- Behind the append: the disk with one write more, in its variable. -/
def MidS (w : World) (B X FB gs sc : Nat) (fa : Option Addr) (fc : Nat) (ss cs : List Value) (D : PDisk) (S : List (List Int)) (fv : List Value) (wx : World) : Prop :=
  ∃ cb cd u, MS wx B X gs sc cb cd fa fc ss (cs ++ [u]) D S ∧ wx.ownsRow B 51 2 (.slice cb D.cache.length cd) D.cache.length (wcells D.cache (cs ++ [u])) ∧ VN wx FB 79 fv ∧ Below B w wx ∧ B ≤ wx.heap.size

set_option maxHeartbeats 20000000 in
theorem l12Write_any (B X gs sc : Nat) (ca : Option Addr) (cc : Nat) (fa : Option Addr) (fc : Nat) (ss cs : List Value) (D0 : PDisk) (n : Int) (ba : Option Addr) (bc : Nat) (l : List Int) (w : World) (h : MS w B X gs sc ca cc fa fc ss cs D0 D0.secs) (hl : ML D0 sc ca cc fa fc) (hmay : MayW D0 n l) (hvb : View w ba l.length bc (bf l)) (hbn : ba = none → bc = 0) (hBw : B ≤ w.heap.size) (hBX : B ≤ X) :
    Calls Try.prog 57 #[.pointer (some ⟨X, 0, none⟩), .int .i64 n, .slice ba l.length bc] w (OpTo w B X gs sc fa fc (writeF D0 n l).1 (writeF D0 n l).2) := by
  have hO := h.own
  have hok := hmay.1
  have HMAY : Hid (MayW D0 n l) := hmay
  have HVB : Hid (View w ba l.length bc (bf l)) := hvb
  have hll : l.length ≤ 256 := hmay.2.2.1
  have hc60 : D0.cache.length < 60 := hmay.2.2.2
  have hcz : ¬ (60 : Int) ≤ (D0.cache.length : Int) := by omega
  clear hmay hvb
  have hf := hok.fine
  have HOK : Hid (OkD D0) := hok
  have hp : 0 < D0.secs.length := by have := hok.1.1; omega
  have hops : 0 ≤ D0.ops ∧ D0.ops ≤ 100000 := hok.2.2.1
  have x2 : w.cell? ⟨X, 2, none⟩ = some (.int .i64 D0.ops) := h.x.cell 2
  have x4 : w.cell? ⟨X, 4, none⟩ = some (.bool D0.down) := h.x.cell 4
  clear hok
  by_cases hdn : D0.down = true ∨ 100000 ≤ D0.ops
  · have HF : Hid (writeF D0 n l = (D0, 9)) := writeF_down hdn
    have HR : Hid (OpTo w B X gs sc fa fc (writeF D0 n l).1 (writeF D0 n l).2 (.returned (.int .i64 9)) w) := by
      rw [HF.out]
      exact ⟨rfl, ⟨ca, cc, ss, cs, h, hl⟩, Below.refl _ _⟩
    clear h hl hf hO
    by_cases hd1 : D0.down = true
    · rw [hd1] at x4
      go_enter Try.func57, Try.ntmps57
      go_wp2
      go_ret
      exact HR.out
    · have hd2 : D0.down = false := by simpa using hd1
      have hd3 : (100000 : Int) ≤ D0.ops := hdn.resolve_left hd1
      rw [hd2] at x4
      go_enter Try.func57, Try.ntmps57
      go_wp2
      go_ret
      exact HR.out
  have hd2 : D0.down = false := by
    cases hx : D0.down with
    | false => rfl
    | true => exact absurd (.inl hx) hdn
  have hd3 : ¬ (100000 : Int) ≤ D0.ops := fun hx => hdn (.inr hx)
  have x0 : w.cell? ⟨X, 0, none⟩ = some (.slice (some ⟨gs, 0, none⟩) D0.secs.length sc) := h.x.cell 0
  have x1 : w.cell? ⟨X, 1, none⟩ = some (.slice ca D0.cache.length cc) := h.x.cell 1
  have x3 : w.cell? ⟨X, 3, none⟩ = some (.slice fa D0.faults.length fc) := h.x.cell 3
  have hFt := l12Fault_any _ D0 w (h.kview hl hp) hf
  have HM : Hid (MS w B X gs sc ca cc fa fc ss cs D0 D0.secs ∧ ML D0 sc ca cc fa fc) := ⟨h, hl⟩
  have HDN : Hid (¬ (D0.down = true ∨ 100000 ≤ D0.ops)) := hdn
  have hw1 : IntKind.i64.wrap (D0.ops + 1) = D0.ops + 1 := by rw [IntKind.wrap_i64]; omega
  have HO : Hid (w.ownsRow B 51 2 (.slice ca D0.cache.length cc) D0.cache.length (wcells D0.cache cs)) := hO
  clear h hl hdn hf hO
  obtain ⟨dv, hdv⟩ := hidEx D0.down
  rw [hd2] at hdv
  rw [hd2] at x4 hFt
  go_enter Try.func57, Try.ntmps57
  go_wp2_with fail
  refine hFt.mono ?_
  rintro e w1 ⟨hb1, hres⟩
  clear hFt x0 x1 x2 x3 x4
  have HVX : Hid (∀ (W : World) (x : Value), VN W X 32 [.slice (some ⟨gs, 0, none⟩) D0.secs.length sc, .slice ca D0.cache.length cc, .int .i64 D0.ops, .slice fa D0.faults.length fc, .bool D0.down] → View W ba l.length bc (bf l) → View (W.setCell ⟨X, 2, none⟩ x) ba l.length bc (bf l)) := by
    exact fun W x hX hW => hW.offVN hX
  rcases hres with ⟨f, hff, rfl⟩ | ⟨hff, rfl⟩
  · have HF0 : Hid (writeF D0 n l = (loseD (moreD D0 n l) f, 9)) := writeF_lose HDN.out hff
    have hfo := findF_ok HOK.out hff
    obtain ⟨p, q, c⟩ := f
    obtain ⟨-, ⟨hq0, hq1⟩, hc0, hc1⟩ := hfo
    dsimp only at hq0 hq1 hc0 hc1 ⊢
    obtain ⟨r, rfl⟩ := Int.eq_ofNat_of_zero_le hc0
    obtain ⟨i0, hi, hz0, hz1, hz2⟩ := infoWrite
    obtain ⟨ib, hib, hib0, hib1, hib2⟩ := info_parts Try.info5
    have hbA : Below w1.heap.size w1 (w1.alloc (.cells #[.int .i64 p, .int .i64 q, .int .i64 (r : Int)] 79)) := (Below.refl _ _).alloc (Nat.le_refl _) _
    have hMA := (HM.out.1.on hb1).on hbA
    have hOA := own_upK (own_upK HO.out (Up.ofBelow hb1)) (Up.ofBelow hbA)
    have hBA : Below B w (w1.alloc (.cells #[.int .i64 p, .int .i64 q, .int .i64 (r : Int)] 79)) := (hb1.mono hBw).trans (hbA.mono (by have := hb1.size; omega))
    have hFA := VN.new w1 79 [.int .i64 p, .int .i64 q, .int .i64 (r : Int)]
    have y2 : (w1.alloc (.cells #[.int .i64 p, .int .i64 q, .int .i64 (r : Int)] 79)).cell? ⟨X, 2, none⟩ = some (.int .i64 D0.ops) := hMA.x.cell 2
    have z2 := hMA.x.fz 2
    have hXA := hMA.x
    have hkx := keep_vn (P := fun t => t = 32) (i := 2) (u := .int .i64 (D0.ops + 1)) hMA.x rfl
    have hM2 := hMA.ops (D0.ops + 1)
    have hO2 := own_keepT hOA hkx (by decide)
    have hB2 : Below B w ((w1.alloc (.cells #[.int .i64 p, .int .i64 q, .int .i64 (r : Int)] 79)).setCell ⟨X, 2, none⟩ (.int .i64 (D0.ops + 1))) := hBA.setCell (p := ⟨X, 2, none⟩) hBX _
    have hF2 := hFA.block (hkx _ _ _ _ hFA (by decide))
    have hsz2 : B ≤ ((w1.alloc (.cells #[.int .i64 p, .int .i64 q, .int .i64 (r : Int)] 79)).setCell ⟨X, 2, none⟩ (.int .i64 (D0.ops + 1))).heap.size := by have h1 := hb1.size; simp; omega
    have hbw2 : Below w.heap.size w w1 := hb1
    obtain ⟨WF, hWF⟩ := hidEx ((w1.alloc (.cells #[.int .i64 p, .int .i64 q, .int .i64 (r : Int)] 79)).setCell ⟨X, 2, none⟩ (.int .i64 (D0.ops + 1)))
    obtain ⟨FB, hFB⟩ := hidEx w1.heap.size
    rw [hFB.out] at hF2
    rw [hWF.out] at hM2 hO2 hB2 hF2 hsz2
    have HVF : Hid (View WF ba l.length bc (bf l)) := by
      show View _ _ _ _ _
      rw [← hWF.out]
      exact HVX.out _ _ hXA (HVB.out.below (hb1.trans (hbA.mono hb1.size)))
    have HML : Hid (ML D0 sc ca cc fa fc) := HM.out.2
    clear hMA hOA hBA hFA hkx HM HO hb1 hbA hbw2 hXA
    go_upto_region 7 with (rw [hWF.out])
    rw [hFB.out]
    go_cut [] (fun wx => MidS w B X FB gs sc fa fc ss cs { { D0 with ops := D0.ops + 1 } with cache := D0.cache ++ [(n, l)] } D0.secs [.int .i64 p, .int .i64 q, .int .i64 (r : Int)] wx)
    case first =>
     as_aux_lemma =>
      refine wp_region_held_drew (S := fun _ => True) (by kernel_rfl) trivial (fun hHeld => ?_)
      have hbd : Below WF.heap.size WF WF.drew := (Below.refl _ _).drew
      have hM7 := hM2.on hbd
      have hO7 := own_upK hO2 (Up.ofBelow hbd)
      have hF7 := hF2.below hbd
      have hB7 := hB2.trans (hbd.mono hsz2)
      have hs7 : B ≤ WF.drew.heap.size := hsz2
      have hV7 := HVF.out.below hbd
      clear hbd hM2 hO2 hF2 hB2 hsz2 HVF
      obtain ⟨wd, hwd⟩ := hidEx WF.drew
      rw [hwd.out] at hM7 hO7 hF7 hB7 hs7 hV7 ⊢
      refine' wpAnyH_take (i := 0) (v := _) rfl (by kernel_rfl) (by kernel_rfl) (by kernel_rfl) (fun _ _ _ h => h) (Or.inl ⟨by kernel_rfl, ?hwa1⟩) (by assumption) ?rwa1
      case hwa1 => intro W hW; go_simp; all_goals with_reducible rfl
      change wpAnyH _ _ _ _ _ _ _ (Act.put _ (some 41) _) _
      simp only [Act.put, List.setIfInBounds_toArray, List.set_cons_zero, List.set_cons_succ]
      refine' wpAnyH_take (i := 1) (v := _) rfl (by kernel_rfl) (by kernel_rfl) (by kernel_rfl) (fun _ _ _ h => h) (Or.inl ⟨by kernel_rfl, ?hwa2⟩) (by assumption) ?rwa2
      case hwa2 => intro W hW; go_simp; all_goals with_reducible rfl
      change wpAnyH _ _ _ _ _ _ _ (Act.put _ (some 42) _) _
      simp only [Act.put, List.setIfInBounds_toArray, List.set_cons_zero, List.set_cons_succ]
      refine' wpAnyH_take (i := 2) (v := _) rfl (by kernel_rfl) (by kernel_rfl) (by kernel_rfl) (fun _ _ _ h => h) (Or.inl ⟨by kernel_rfl, ?hwa3⟩) (by assumption) ?rwa3
      case hwa3 => intro W hW; go_simp; all_goals with_reducible rfl
      change wpAnyH _ _ _ _ _ _ _ (Act.put _ (some 43) _) _
      simp only [Act.put, List.setIfInBounds_toArray, List.set_cons_zero, List.set_cons_succ]
      refine' wpAnyH_take (i := 3) (v := _) rfl (by kernel_rfl) (by kernel_rfl) (by kernel_rfl) (fun _ _ _ h => h) (Or.inl ⟨by kernel_rfl, ?hwa4⟩) (by assumption) ?rwa4
      case hwa4 => intro W hW; go_simp; all_goals with_reducible rfl
      change wpAnyH _ _ _ _ _ _ _ (Act.put _ (some 44) _) _
      simp only [Act.put, List.setIfInBounds_toArray, List.set_cons_zero, List.set_cons_succ]
      refine' wpAnyH_take (i := 5) (v := _) rfl (by kernel_rfl) (by kernel_rfl) (by kernel_rfl) (fun _ _ _ h => h) (Or.inl ⟨by kernel_rfl, ?hwa5⟩) (by assumption) ?rwa5
      case hwa5 => intro W hW; go_simp; all_goals with_reducible rfl
      change wpAnyH _ _ _ _ _ _ _ (Act.put _ (some 46) _) _
      simp only [Act.put, List.setIfInBounds_toArray, List.set_cons_zero, List.set_cons_succ]
      refine' wpAnyH_take (i := 7) (v := _) rfl (by kernel_rfl) (by kernel_rfl) (by kernel_rfl) (fun _ _ _ h => h) (Or.inl ⟨by kernel_rfl, ?hwa6⟩) (by assumption) ?rwa6
      case hwa6 => intro W hW; go_simp; all_goals with_reducible rfl
      change wpAnyH _ _ _ _ _ _ _ (Act.put _ (some 48) _) _
      simp only [Act.put, List.setIfInBounds_toArray, List.set_cons_zero, List.set_cons_succ]
      refine wpAnyH_ready (rs := [4, 6]) (by kernel_rfl) (by simp) ?_
      refine AllReadyH.cons rfl (fun KK hK => ?_) (AllReadyH.cons rfl (fun KK hK => ?_) AllReadyH.nil)
      ·
        have xl : wd.cell? ⟨X, 1, none⟩ = some (.slice ca D0.cache.length cc) := hM7.x.cell 1
        go_simp
        clear xl
        refine hK.out _ _ trivial (fun hHeld => ?_)
        clear hK KK
        try simp only [Act.put, List.setIfInBounds_toArray, List.set_cons_zero, List.set_cons_succ]
        refine wpAnyH_ready (rs := [6]) (by kernel_rfl) (by simp) ?_
        refine AllReadyH.cons rfl (fun KK hK => ?_) AllReadyH.nil
        go_simp
        have hb6 : Below wd.heap.size wd (wd.alloc (.cells #[] 5)) := (Below.refl _ _).alloc (Nat.le_refl _) _
        have hL6 := World.ownsRow_lit (base := wd.heap.size) (e := 5) (size := 1) wd #[] 0 (Nat.le_refl _) (Nat.zero_le _) rfl
        refine hK.out _ _ trivial (fun hHeld => ?_)
        clear hK KK
        try simp only [Act.put, List.setIfInBounds_toArray, List.set_cons_zero, List.set_cons_succ]
        obtain ⟨w6, hw6⟩ := hidEx (wd.alloc (.cells #[] 5))
        obtain ⟨g6, hg6⟩ := hidEx wd.heap.size
        rw [hw6.out, hg6.out] at hL6
        rw [hw6.out] at hb6 ⊢
        try rw [hg6.out]
        have hMc := hM7.on hb6
        refine wpAnyH_ready (rs := [8]) (by kernel_rfl) (by simp) ?_
        refine AllReadyH.cons rfl (fun KK hK => ?_) AllReadyH.nil
        rw [if_pos (by kernel_rfl)]
        refine wp_append_opt (.tmp 47) (.tmp 48) 27 rfl g6 5 ib (.int .u8 0) 1 1 Try.underlying27 hib hib0 hib1 hib2 rfl (by decide) (.slice (some ⟨g6, 0, none⟩) 0 0) 0 [] rfl hL6 ba l.length bc (bl l) rfl (fun e => by have h1 := hbn e; have h2 := HVB.out.le; omega) (by rw [bl_len]; omega) (view_news (hV7.below hb6)) (bl_one _) (by unfold maxLen; omega) (by omega) (by rw [← hg6.out]; exact hb6.size) ?_
        intro v8 w8 hO8 hgr8
        have hb8 : Below wd.heap.size wd w8 := hb6.grown hgr8 hb6.size (fun k e => by simp only [Value.ownBlock, Option.some.injEq] at e; have := hg6.out; omega)
        simp only [Nat.zero_add, List.nil_append] at hO8
        have hu8 : OB w8 B v8 l := (ob_own hO8 (lv_bytes HVB.out)).mono (by have := hg6.out; omega)
        obtain ⟨a8, c8, ev8, -, -, -, -⟩ := hu8.is
        subst ev8
        have hM8 := hM7.on hb8
        have hO8c := own_upK hO7 (Up.ofBelow hb8)
        have hF8 := hF7.below hb8
        have hB8 := hB7.trans (hb8.mono hs7)
        have hs8 : B ≤ w8.heap.size := Nat.le_trans hs7 hb8.size
        clear hL6 hb6 hMc hO8 hgr8 hb8 hg6 hw6 hV7
        refine hK.out _ _ trivial (fun hHeld => ?_)
        clear hK KK
        change wpAnyH _ _ _ _ _ _ _ (Act.put _ (some 49) _) _
        try simp only [Act.put, List.setIfInBounds_toArray, List.set_cons_zero, List.set_cons_succ]
        refine' wpAnyH_take (i := 9) (v := _) rfl (by kernel_rfl) (by kernel_rfl) (by kernel_rfl) (fun _ _ _ h => h) (Or.inl ⟨by kernel_rfl, ?hwa7⟩) (by assumption) ?rwa7
        case hwa7 => intro W hW; go_simp; all_goals with_reducible rfl
        change wpAnyH _ _ _ _ _ _ _ (Act.put _ (some 50) _) _
        simp only [Act.put, List.setIfInBounds_toArray, List.set_cons_zero, List.set_cons_succ]
        refine wpAnyH_ready (rs := [10]) (by kernel_rfl) (by simp) ?_
        refine AllReadyH.cons rfl (fun KK hK => ?_) AllReadyH.nil
        go_simp
        have hbA : Below w8.heap.size w8 (w8.alloc (.cells #[.int .i64 n, .slice a8 l.length c8] 51)) := (Below.refl _ _).alloc (Nat.le_refl _) _
        have hcl : ∀ j u, [Value.int .i64 n, .slice a8 l.length c8][j]? = some u → (w8.alloc (.cells #[.int .i64 n, .slice a8 l.length c8] 51)).cell? ((⟨w8.heap.size, 0, none⟩ : Addr).add j) = some u := by
          have ea : ∀ j, (⟨w8.heap.size, 0, none⟩ : Addr).add j = ⟨w8.heap.size, 0 + j, none⟩ := fun j => by unfold Addr.add; split <;> simp_all
          intro j u hj
          match j, hj with
          | 0, hj => cases hj; rw [ea]; simp
          | 1, hj => cases hj; rw [ea]; simp [go_sem]
        have hM9 := hM8.on hbA
        have hO9c := own_upK hO8c (Up.ofBelow hbA)
        have hF9 := hF8.below hbA
        have hu9 := hu8.up (Up.ofBelow hbA)
        have hBx := hB8.trans (hbA.mono hs8)
        have hs9 : B ≤ (w8.alloc (.cells #[.int .i64 n, .slice a8 l.length c8] 51)).heap.size := by have := hbA.size; omega
        clear hM8 hO8c hF8 hu8 hbA
        refine hK.out _ _ trivial (fun hHeld => ?_)
        clear hK KK
        try simp only [Act.put, List.setIfInBounds_toArray, List.set_cons_zero, List.set_cons_succ]
        obtain ⟨w9, hw9⟩ := hidEx (w8.alloc (.cells #[.int .i64 n, .slice a8 l.length c8] 51))
        obtain ⟨g9, hg9⟩ := hidEx w8.heap.size
        rw [hw9.out, hg9.out] at hcl
        rw [hw9.out] at hM9 hO9c hF9 hu9 hBx hs9 ⊢
        try rw [hg9.out]
        refine wpAnyH_ready (rs := [11]) (by kernel_rfl) (by simp) ?_
        refine AllReadyH.cons rfl (fun KK hK => ?_) AllReadyH.nil
        rw [if_pos (by kernel_rfl)]
        refine wp_append_own _ (.tmp 45) (.tmp 51) 29 rfl B 51 i0 (.agg #[.int .i64 0, .slice none 0 0]) 2 32 Try.underlying29 hi hz0 hz1 hz2 rfl (by decide) _ _ _ rfl hO9c ⟨g9, 0, none⟩ 1 1 [.int .i64 n, .slice a8 l.length c8] rfl rfl hcl (by intro u hu; simp at hu; rcases hu with rfl | rfl <;> rfl) (by unfold maxLen; omega) (by omega) hs9 ?_
        intro v6 wa hOa hgra hnila
        have hKa := keep_grown hO9c hgra
        obtain ⟨cb, cd, rfl⟩ := own_succK hOa
        have hBa := hBx.grown hgra hs9 (fun k e => by have := own_geK hO9c k e; omega)
        have hFa := hF9.block (hKa _ _ _ _ hF9 (by decide))
        have hXa := hM9.x.block (hKa _ _ _ _ hM9.x (by decide))
        obtain ⟨hMb, hOb⟩ := hM9.more hKa hu9 hOa
        have hsa : B ≤ wa.heap.size := Nat.le_trans hs9 hgra.size
        clear hM9 hO9c hF9 hu9 hBx hs9 hcl hgra hnila hKa hOa
        refine hK.out _ _ trivial (fun hHeld => ?_)
        clear hK KK
        change wpAnyH _ _ _ _ _ _ _ (Act.put _ (some 52) _) _
        try simp only [Act.put, List.setIfInBounds_toArray, List.set_cons_zero, List.set_cons_succ]
        refine' wpAnyH_take (i := 12) (v := _) rfl (by kernel_rfl) (by kernel_rfl) (by kernel_rfl) (fun _ _ _ h => h) (Or.inl ⟨by kernel_rfl, ?hwa8⟩) (by assumption) ?rwa8
        case hwa8 => intro W hW; go_simp; all_goals with_reducible rfl
        change wpAnyH _ _ _ _ _ _ _ (Act.put _ (some 53) _) _
        simp only [Act.put, List.setIfInBounds_toArray, List.set_cons_zero, List.set_cons_succ]
        refine' wpAnyH_take (i := 13) (v := _) rfl (by kernel_rfl) (by kernel_rfl) (by kernel_rfl) (fun _ _ _ h => h) (Or.inl ⟨by kernel_rfl, ?hwa9⟩) (by assumption) ?rwa9
        case hwa9 => intro W hW; go_simp; all_goals with_reducible rfl
        change wpAnyH _ _ _ _ _ _ _ (Act.put _ (some 54) _) _
        simp only [Act.put, List.setIfInBounds_toArray, List.set_cons_zero, List.set_cons_succ]
        refine wpAnyH_ready (rs := [14]) (by kernel_rfl) (by simp) ?_
        refine AllReadyH.cons rfl (fun KK hK => ?_) AllReadyH.nil
        have xa : wa.cell? ⟨X, 1, none⟩ = some (.slice ca D0.cache.length cc) := hXa.cell 1
        have za := hXa.fz 1
        go_simp
        have hKb := keep_vn (P := fun t => t = 32) (i := 1) (u := .slice (some ⟨cb, 0, none⟩) (D0.cache.length + 1) cd) hXa rfl
        have hFb := hFa.block (hKb _ _ _ _ hFa (by decide))
        have hBb : Below B w (wa.setCell ⟨X, 1, none⟩ (.slice (some ⟨cb, 0, none⟩) (D0.cache.length + 1) cd)) := hBa.setCell (p := ⟨X, 1, none⟩) hBX _
        clear xa za hXa hFa hBa hKb
        refine hK.out _ _ trivial (fun hHeld => ?_)
        clear hK KK
        try simp only [Act.put, List.setIfInBounds_toArray, List.set_cons_zero, List.set_cons_succ]
        refine wpAnyH_done (by kernel_rfl) ?_ _
        clear hHeld
        go_wp2_with fail
        go_meet
        refine ⟨some ⟨cb, 0, none⟩, cd, _, hMb, ?_, hFb, hBb, by simpa using hsa⟩
        show World.ownsRow _ B _ 2 (.slice (some ⟨cb, 0, none⟩) (D0.cache ++ [(n, l)]).length cd) (D0.cache ++ [(n, l)]).length _
        rw [List.length_append]
        exact hOb
      ·
        go_simp
        have hb6 : Below wd.heap.size wd (wd.alloc (.cells #[] 5)) := (Below.refl _ _).alloc (Nat.le_refl _) _
        have hL6 := World.ownsRow_lit (base := wd.heap.size) (e := 5) (size := 1) wd #[] 0 (Nat.le_refl _) (Nat.zero_le _) rfl
        refine hK.out _ _ trivial (fun hHeld => ?_)
        clear hK KK
        try simp only [Act.put, List.setIfInBounds_toArray, List.set_cons_zero, List.set_cons_succ]
        obtain ⟨w6, hw6⟩ := hidEx (wd.alloc (.cells #[] 5))
        obtain ⟨g6, hg6⟩ := hidEx wd.heap.size
        rw [hw6.out, hg6.out] at hL6
        rw [hw6.out] at hb6 ⊢
        try rw [hg6.out]
        have hMc := hM7.on hb6
        refine wpAnyH_ready (rs := [4, 8]) (by kernel_rfl) (by simp) ?_
        refine AllReadyH.cons rfl (fun KK hK => ?_) (AllReadyH.cons rfl (fun KK hK => ?_) AllReadyH.nil)
        ·
          have xl : w6.cell? ⟨X, 1, none⟩ = some (.slice ca D0.cache.length cc) := hMc.x.cell 1
          go_simp
          clear xl
          refine hK.out _ _ trivial (fun hHeld => ?_)
          clear hK KK
          try simp only [Act.put, List.setIfInBounds_toArray, List.set_cons_zero, List.set_cons_succ]
          refine wpAnyH_ready (rs := [8]) (by kernel_rfl) (by simp) ?_
          refine AllReadyH.cons rfl (fun KK hK => ?_) AllReadyH.nil
          rw [if_pos (by kernel_rfl)]
          refine wp_append_opt (.tmp 47) (.tmp 48) 27 rfl g6 5 ib (.int .u8 0) 1 1 Try.underlying27 hib hib0 hib1 hib2 rfl (by decide) (.slice (some ⟨g6, 0, none⟩) 0 0) 0 [] rfl hL6 ba l.length bc (bl l) rfl (fun e => by have h1 := hbn e; have h2 := HVB.out.le; omega) (by rw [bl_len]; omega) (view_news (hV7.below hb6)) (bl_one _) (by unfold maxLen; omega) (by omega) (by rw [← hg6.out]; exact hb6.size) ?_
          intro v8 w8 hO8 hgr8
          have hb8 : Below wd.heap.size wd w8 := hb6.grown hgr8 hb6.size (fun k e => by simp only [Value.ownBlock, Option.some.injEq] at e; have := hg6.out; omega)
          simp only [Nat.zero_add, List.nil_append] at hO8
          have hu8 : OB w8 B v8 l := (ob_own hO8 (lv_bytes HVB.out)).mono (by have := hg6.out; omega)
          obtain ⟨a8, c8, ev8, -, -, -, -⟩ := hu8.is
          subst ev8
          have hM8 := hM7.on hb8
          have hO8c := own_upK hO7 (Up.ofBelow hb8)
          have hF8 := hF7.below hb8
          have hB8 := hB7.trans (hb8.mono hs7)
          have hs8 : B ≤ w8.heap.size := Nat.le_trans hs7 hb8.size
          clear hL6 hb6 hMc hO8 hgr8 hb8 hg6 hw6 hV7
          refine hK.out _ _ trivial (fun hHeld => ?_)
          clear hK KK
          change wpAnyH _ _ _ _ _ _ _ (Act.put _ (some 49) _) _
          try simp only [Act.put, List.setIfInBounds_toArray, List.set_cons_zero, List.set_cons_succ]
          refine' wpAnyH_take (i := 9) (v := _) rfl (by kernel_rfl) (by kernel_rfl) (by kernel_rfl) (fun _ _ _ h => h) (Or.inl ⟨by kernel_rfl, ?hwa10⟩) (by assumption) ?rwa10
          case hwa10 => intro W hW; go_simp; all_goals with_reducible rfl
          change wpAnyH _ _ _ _ _ _ _ (Act.put _ (some 50) _) _
          simp only [Act.put, List.setIfInBounds_toArray, List.set_cons_zero, List.set_cons_succ]
          refine wpAnyH_ready (rs := [10]) (by kernel_rfl) (by simp) ?_
          refine AllReadyH.cons rfl (fun KK hK => ?_) AllReadyH.nil
          go_simp
          have hbA : Below w8.heap.size w8 (w8.alloc (.cells #[.int .i64 n, .slice a8 l.length c8] 51)) := (Below.refl _ _).alloc (Nat.le_refl _) _
          have hcl : ∀ j u, [Value.int .i64 n, .slice a8 l.length c8][j]? = some u → (w8.alloc (.cells #[.int .i64 n, .slice a8 l.length c8] 51)).cell? ((⟨w8.heap.size, 0, none⟩ : Addr).add j) = some u := by
            have ea : ∀ j, (⟨w8.heap.size, 0, none⟩ : Addr).add j = ⟨w8.heap.size, 0 + j, none⟩ := fun j => by unfold Addr.add; split <;> simp_all
            intro j u hj
            match j, hj with
            | 0, hj => cases hj; rw [ea]; simp
            | 1, hj => cases hj; rw [ea]; simp [go_sem]
          have hM9 := hM8.on hbA
          have hO9c := own_upK hO8c (Up.ofBelow hbA)
          have hF9 := hF8.below hbA
          have hu9 := hu8.up (Up.ofBelow hbA)
          have hBx := hB8.trans (hbA.mono hs8)
          have hs9 : B ≤ (w8.alloc (.cells #[.int .i64 n, .slice a8 l.length c8] 51)).heap.size := by have := hbA.size; omega
          clear hM8 hO8c hF8 hu8 hbA
          refine hK.out _ _ trivial (fun hHeld => ?_)
          clear hK KK
          try simp only [Act.put, List.setIfInBounds_toArray, List.set_cons_zero, List.set_cons_succ]
          obtain ⟨w9, hw9⟩ := hidEx (w8.alloc (.cells #[.int .i64 n, .slice a8 l.length c8] 51))
          obtain ⟨g9, hg9⟩ := hidEx w8.heap.size
          rw [hw9.out, hg9.out] at hcl
          rw [hw9.out] at hM9 hO9c hF9 hu9 hBx hs9 ⊢
          try rw [hg9.out]
          refine wpAnyH_ready (rs := [11]) (by kernel_rfl) (by simp) ?_
          refine AllReadyH.cons rfl (fun KK hK => ?_) AllReadyH.nil
          rw [if_pos (by kernel_rfl)]
          refine wp_append_own _ (.tmp 45) (.tmp 51) 29 rfl B 51 i0 (.agg #[.int .i64 0, .slice none 0 0]) 2 32 Try.underlying29 hi hz0 hz1 hz2 rfl (by decide) _ _ _ rfl hO9c ⟨g9, 0, none⟩ 1 1 [.int .i64 n, .slice a8 l.length c8] rfl rfl hcl (by intro u hu; simp at hu; rcases hu with rfl | rfl <;> rfl) (by unfold maxLen; omega) (by omega) hs9 ?_
          intro v6 wa hOa hgra hnila
          have hKa := keep_grown hO9c hgra
          obtain ⟨cb, cd, rfl⟩ := own_succK hOa
          have hBa := hBx.grown hgra hs9 (fun k e => by have := own_geK hO9c k e; omega)
          have hFa := hF9.block (hKa _ _ _ _ hF9 (by decide))
          have hXa := hM9.x.block (hKa _ _ _ _ hM9.x (by decide))
          obtain ⟨hMb, hOb⟩ := hM9.more hKa hu9 hOa
          have hsa : B ≤ wa.heap.size := Nat.le_trans hs9 hgra.size
          clear hM9 hO9c hF9 hu9 hBx hs9 hcl hgra hnila hKa hOa
          refine hK.out _ _ trivial (fun hHeld => ?_)
          clear hK KK
          change wpAnyH _ _ _ _ _ _ _ (Act.put _ (some 52) _) _
          try simp only [Act.put, List.setIfInBounds_toArray, List.set_cons_zero, List.set_cons_succ]
          refine' wpAnyH_take (i := 12) (v := _) rfl (by kernel_rfl) (by kernel_rfl) (by kernel_rfl) (fun _ _ _ h => h) (Or.inl ⟨by kernel_rfl, ?hwa11⟩) (by assumption) ?rwa11
          case hwa11 => intro W hW; go_simp; all_goals with_reducible rfl
          change wpAnyH _ _ _ _ _ _ _ (Act.put _ (some 53) _) _
          simp only [Act.put, List.setIfInBounds_toArray, List.set_cons_zero, List.set_cons_succ]
          refine' wpAnyH_take (i := 13) (v := _) rfl (by kernel_rfl) (by kernel_rfl) (by kernel_rfl) (fun _ _ _ h => h) (Or.inl ⟨by kernel_rfl, ?hwa12⟩) (by assumption) ?rwa12
          case hwa12 => intro W hW; go_simp; all_goals with_reducible rfl
          change wpAnyH _ _ _ _ _ _ _ (Act.put _ (some 54) _) _
          simp only [Act.put, List.setIfInBounds_toArray, List.set_cons_zero, List.set_cons_succ]
          refine wpAnyH_ready (rs := [14]) (by kernel_rfl) (by simp) ?_
          refine AllReadyH.cons rfl (fun KK hK => ?_) AllReadyH.nil
          have xa : wa.cell? ⟨X, 1, none⟩ = some (.slice ca D0.cache.length cc) := hXa.cell 1
          have za := hXa.fz 1
          go_simp
          have hKb := keep_vn (P := fun t => t = 32) (i := 1) (u := .slice (some ⟨cb, 0, none⟩) (D0.cache.length + 1) cd) hXa rfl
          have hFb := hFa.block (hKb _ _ _ _ hFa (by decide))
          have hBb : Below B w (wa.setCell ⟨X, 1, none⟩ (.slice (some ⟨cb, 0, none⟩) (D0.cache.length + 1) cd)) := hBa.setCell (p := ⟨X, 1, none⟩) hBX _
          clear xa za hXa hFa hBa hKb
          refine hK.out _ _ trivial (fun hHeld => ?_)
          clear hK KK
          try simp only [Act.put, List.setIfInBounds_toArray, List.set_cons_zero, List.set_cons_succ]
          refine wpAnyH_done (by kernel_rfl) ?_ _
          clear hHeld
          go_wp2_with fail
          go_meet
          refine ⟨some ⟨cb, 0, none⟩, cd, _, hMb, ?_, hFb, hBb, by simpa using hsa⟩
          show World.ownsRow _ B _ 2 (.slice (some ⟨cb, 0, none⟩) (D0.cache ++ [(n, l)]).length cd) (D0.cache ++ [(n, l)]).length _
          rw [List.length_append]
          exact hOb
        ·
          rw [if_pos (by kernel_rfl)]
          refine wp_append_opt (.tmp 47) (.tmp 48) 27 rfl g6 5 ib (.int .u8 0) 1 1 Try.underlying27 hib hib0 hib1 hib2 rfl (by decide) (.slice (some ⟨g6, 0, none⟩) 0 0) 0 [] rfl hL6 ba l.length bc (bl l) rfl (fun e => by have h1 := hbn e; have h2 := HVB.out.le; omega) (by rw [bl_len]; omega) (view_news (hV7.below hb6)) (bl_one _) (by unfold maxLen; omega) (by omega) (by rw [← hg6.out]; exact hb6.size) ?_
          intro v8 w8 hO8 hgr8
          have hb8 : Below wd.heap.size wd w8 := hb6.grown hgr8 hb6.size (fun k e => by simp only [Value.ownBlock, Option.some.injEq] at e; have := hg6.out; omega)
          simp only [Nat.zero_add, List.nil_append] at hO8
          have hu8 : OB w8 B v8 l := (ob_own hO8 (lv_bytes HVB.out)).mono (by have := hg6.out; omega)
          obtain ⟨a8, c8, ev8, -, -, -, -⟩ := hu8.is
          subst ev8
          have hM8 := hM7.on hb8
          have hO8c := own_upK hO7 (Up.ofBelow hb8)
          have hF8 := hF7.below hb8
          have hB8 := hB7.trans (hb8.mono hs7)
          have hs8 : B ≤ w8.heap.size := Nat.le_trans hs7 hb8.size
          clear hL6 hb6 hMc hO8 hgr8 hb8 hg6 hw6 hV7
          refine hK.out _ _ trivial (fun hHeld => ?_)
          clear hK KK
          change wpAnyH _ _ _ _ _ _ _ (Act.put _ (some 49) _) _
          try simp only [Act.put, List.setIfInBounds_toArray, List.set_cons_zero, List.set_cons_succ]
          refine' wpAnyH_take (i := 9) (v := _) rfl (by kernel_rfl) (by kernel_rfl) (by kernel_rfl) (fun _ _ _ h => h) (Or.inl ⟨by kernel_rfl, ?hwa13⟩) (by assumption) ?rwa13
          case hwa13 => intro W hW; go_simp; all_goals with_reducible rfl
          change wpAnyH _ _ _ _ _ _ _ (Act.put _ (some 50) _) _
          simp only [Act.put, List.setIfInBounds_toArray, List.set_cons_zero, List.set_cons_succ]
          refine wpAnyH_ready (rs := [4, 10]) (by kernel_rfl) (by simp) ?_
          refine AllReadyH.cons rfl (fun KK hK => ?_) (AllReadyH.cons rfl (fun KK hK => ?_) AllReadyH.nil)
          ·
            have xl : w8.cell? ⟨X, 1, none⟩ = some (.slice ca D0.cache.length cc) := hM8.x.cell 1
            go_simp
            clear xl
            refine hK.out _ _ trivial (fun hHeld => ?_)
            clear hK KK
            try simp only [Act.put, List.setIfInBounds_toArray, List.set_cons_zero, List.set_cons_succ]
            refine wpAnyH_ready (rs := [10]) (by kernel_rfl) (by simp) ?_
            refine AllReadyH.cons rfl (fun KK hK => ?_) AllReadyH.nil
            go_simp
            have hbA : Below w8.heap.size w8 (w8.alloc (.cells #[.int .i64 n, .slice a8 l.length c8] 51)) := (Below.refl _ _).alloc (Nat.le_refl _) _
            have hcl : ∀ j u, [Value.int .i64 n, .slice a8 l.length c8][j]? = some u → (w8.alloc (.cells #[.int .i64 n, .slice a8 l.length c8] 51)).cell? ((⟨w8.heap.size, 0, none⟩ : Addr).add j) = some u := by
              have ea : ∀ j, (⟨w8.heap.size, 0, none⟩ : Addr).add j = ⟨w8.heap.size, 0 + j, none⟩ := fun j => by unfold Addr.add; split <;> simp_all
              intro j u hj
              match j, hj with
              | 0, hj => cases hj; rw [ea]; simp
              | 1, hj => cases hj; rw [ea]; simp [go_sem]
            have hM9 := hM8.on hbA
            have hO9c := own_upK hO8c (Up.ofBelow hbA)
            have hF9 := hF8.below hbA
            have hu9 := hu8.up (Up.ofBelow hbA)
            have hBx := hB8.trans (hbA.mono hs8)
            have hs9 : B ≤ (w8.alloc (.cells #[.int .i64 n, .slice a8 l.length c8] 51)).heap.size := by have := hbA.size; omega
            clear hM8 hO8c hF8 hu8 hbA
            refine hK.out _ _ trivial (fun hHeld => ?_)
            clear hK KK
            try simp only [Act.put, List.setIfInBounds_toArray, List.set_cons_zero, List.set_cons_succ]
            obtain ⟨w9, hw9⟩ := hidEx (w8.alloc (.cells #[.int .i64 n, .slice a8 l.length c8] 51))
            obtain ⟨g9, hg9⟩ := hidEx w8.heap.size
            rw [hw9.out, hg9.out] at hcl
            rw [hw9.out] at hM9 hO9c hF9 hu9 hBx hs9 ⊢
            try rw [hg9.out]
            refine wpAnyH_ready (rs := [11]) (by kernel_rfl) (by simp) ?_
            refine AllReadyH.cons rfl (fun KK hK => ?_) AllReadyH.nil
            rw [if_pos (by kernel_rfl)]
            refine wp_append_own _ (.tmp 45) (.tmp 51) 29 rfl B 51 i0 (.agg #[.int .i64 0, .slice none 0 0]) 2 32 Try.underlying29 hi hz0 hz1 hz2 rfl (by decide) _ _ _ rfl hO9c ⟨g9, 0, none⟩ 1 1 [.int .i64 n, .slice a8 l.length c8] rfl rfl hcl (by intro u hu; simp at hu; rcases hu with rfl | rfl <;> rfl) (by unfold maxLen; omega) (by omega) hs9 ?_
            intro v6 wa hOa hgra hnila
            have hKa := keep_grown hO9c hgra
            obtain ⟨cb, cd, rfl⟩ := own_succK hOa
            have hBa := hBx.grown hgra hs9 (fun k e => by have := own_geK hO9c k e; omega)
            have hFa := hF9.block (hKa _ _ _ _ hF9 (by decide))
            have hXa := hM9.x.block (hKa _ _ _ _ hM9.x (by decide))
            obtain ⟨hMb, hOb⟩ := hM9.more hKa hu9 hOa
            have hsa : B ≤ wa.heap.size := Nat.le_trans hs9 hgra.size
            clear hM9 hO9c hF9 hu9 hBx hs9 hcl hgra hnila hKa hOa
            refine hK.out _ _ trivial (fun hHeld => ?_)
            clear hK KK
            change wpAnyH _ _ _ _ _ _ _ (Act.put _ (some 52) _) _
            try simp only [Act.put, List.setIfInBounds_toArray, List.set_cons_zero, List.set_cons_succ]
            refine' wpAnyH_take (i := 12) (v := _) rfl (by kernel_rfl) (by kernel_rfl) (by kernel_rfl) (fun _ _ _ h => h) (Or.inl ⟨by kernel_rfl, ?hwa14⟩) (by assumption) ?rwa14
            case hwa14 => intro W hW; go_simp; all_goals with_reducible rfl
            change wpAnyH _ _ _ _ _ _ _ (Act.put _ (some 53) _) _
            simp only [Act.put, List.setIfInBounds_toArray, List.set_cons_zero, List.set_cons_succ]
            refine' wpAnyH_take (i := 13) (v := _) rfl (by kernel_rfl) (by kernel_rfl) (by kernel_rfl) (fun _ _ _ h => h) (Or.inl ⟨by kernel_rfl, ?hwa15⟩) (by assumption) ?rwa15
            case hwa15 => intro W hW; go_simp; all_goals with_reducible rfl
            change wpAnyH _ _ _ _ _ _ _ (Act.put _ (some 54) _) _
            simp only [Act.put, List.setIfInBounds_toArray, List.set_cons_zero, List.set_cons_succ]
            refine wpAnyH_ready (rs := [14]) (by kernel_rfl) (by simp) ?_
            refine AllReadyH.cons rfl (fun KK hK => ?_) AllReadyH.nil
            have xa : wa.cell? ⟨X, 1, none⟩ = some (.slice ca D0.cache.length cc) := hXa.cell 1
            have za := hXa.fz 1
            go_simp
            have hKb := keep_vn (P := fun t => t = 32) (i := 1) (u := .slice (some ⟨cb, 0, none⟩) (D0.cache.length + 1) cd) hXa rfl
            have hFb := hFa.block (hKb _ _ _ _ hFa (by decide))
            have hBb : Below B w (wa.setCell ⟨X, 1, none⟩ (.slice (some ⟨cb, 0, none⟩) (D0.cache.length + 1) cd)) := hBa.setCell (p := ⟨X, 1, none⟩) hBX _
            clear xa za hXa hFa hBa hKb
            refine hK.out _ _ trivial (fun hHeld => ?_)
            clear hK KK
            try simp only [Act.put, List.setIfInBounds_toArray, List.set_cons_zero, List.set_cons_succ]
            refine wpAnyH_done (by kernel_rfl) ?_ _
            clear hHeld
            go_wp2_with fail
            go_meet
            refine ⟨some ⟨cb, 0, none⟩, cd, _, hMb, ?_, hFb, hBb, by simpa using hsa⟩
            show World.ownsRow _ B _ 2 (.slice (some ⟨cb, 0, none⟩) (D0.cache ++ [(n, l)]).length cd) (D0.cache ++ [(n, l)]).length _
            rw [List.length_append]
            exact hOb
          ·
            go_simp
            have hbA : Below w8.heap.size w8 (w8.alloc (.cells #[.int .i64 n, .slice a8 l.length c8] 51)) := (Below.refl _ _).alloc (Nat.le_refl _) _
            have hcl : ∀ j u, [Value.int .i64 n, .slice a8 l.length c8][j]? = some u → (w8.alloc (.cells #[.int .i64 n, .slice a8 l.length c8] 51)).cell? ((⟨w8.heap.size, 0, none⟩ : Addr).add j) = some u := by
              have ea : ∀ j, (⟨w8.heap.size, 0, none⟩ : Addr).add j = ⟨w8.heap.size, 0 + j, none⟩ := fun j => by unfold Addr.add; split <;> simp_all
              intro j u hj
              match j, hj with
              | 0, hj => cases hj; rw [ea]; simp
              | 1, hj => cases hj; rw [ea]; simp [go_sem]
            have hM9 := hM8.on hbA
            have hO9c := own_upK hO8c (Up.ofBelow hbA)
            have hF9 := hF8.below hbA
            have hu9 := hu8.up (Up.ofBelow hbA)
            have hBx := hB8.trans (hbA.mono hs8)
            have hs9 : B ≤ (w8.alloc (.cells #[.int .i64 n, .slice a8 l.length c8] 51)).heap.size := by have := hbA.size; omega
            clear hM8 hO8c hF8 hu8 hbA
            refine hK.out _ _ trivial (fun hHeld => ?_)
            clear hK KK
            try simp only [Act.put, List.setIfInBounds_toArray, List.set_cons_zero, List.set_cons_succ]
            obtain ⟨w9, hw9⟩ := hidEx (w8.alloc (.cells #[.int .i64 n, .slice a8 l.length c8] 51))
            obtain ⟨g9, hg9⟩ := hidEx w8.heap.size
            rw [hw9.out, hg9.out] at hcl
            rw [hw9.out] at hM9 hO9c hF9 hu9 hBx hs9 ⊢
            try rw [hg9.out]
            refine wpAnyH_ready (rs := [4]) (by kernel_rfl) (by simp) ?_
            refine AllReadyH.cons rfl (fun KK hK => ?_) AllReadyH.nil
            have xl : w9.cell? ⟨X, 1, none⟩ = some (.slice ca D0.cache.length cc) := hM9.x.cell 1
            go_simp
            clear xl
            refine hK.out _ _ trivial (fun hHeld => ?_)
            clear hK KK
            try simp only [Act.put, List.setIfInBounds_toArray, List.set_cons_zero, List.set_cons_succ]
            refine wpAnyH_ready (rs := [11]) (by kernel_rfl) (by simp) ?_
            refine AllReadyH.cons rfl (fun KK hK => ?_) AllReadyH.nil
            rw [if_pos (by kernel_rfl)]
            refine wp_append_own _ (.tmp 45) (.tmp 51) 29 rfl B 51 i0 (.agg #[.int .i64 0, .slice none 0 0]) 2 32 Try.underlying29 hi hz0 hz1 hz2 rfl (by decide) _ _ _ rfl hO9c ⟨g9, 0, none⟩ 1 1 [.int .i64 n, .slice a8 l.length c8] rfl rfl hcl (by intro u hu; simp at hu; rcases hu with rfl | rfl <;> rfl) (by unfold maxLen; omega) (by omega) hs9 ?_
            intro v6 wa hOa hgra hnila
            have hKa := keep_grown hO9c hgra
            obtain ⟨cb, cd, rfl⟩ := own_succK hOa
            have hBa := hBx.grown hgra hs9 (fun k e => by have := own_geK hO9c k e; omega)
            have hFa := hF9.block (hKa _ _ _ _ hF9 (by decide))
            have hXa := hM9.x.block (hKa _ _ _ _ hM9.x (by decide))
            obtain ⟨hMb, hOb⟩ := hM9.more hKa hu9 hOa
            have hsa : B ≤ wa.heap.size := Nat.le_trans hs9 hgra.size
            clear hM9 hO9c hF9 hu9 hBx hs9 hcl hgra hnila hKa hOa
            refine hK.out _ _ trivial (fun hHeld => ?_)
            clear hK KK
            change wpAnyH _ _ _ _ _ _ _ (Act.put _ (some 52) _) _
            try simp only [Act.put, List.setIfInBounds_toArray, List.set_cons_zero, List.set_cons_succ]
            refine' wpAnyH_take (i := 12) (v := _) rfl (by kernel_rfl) (by kernel_rfl) (by kernel_rfl) (fun _ _ _ h => h) (Or.inl ⟨by kernel_rfl, ?hwa16⟩) (by assumption) ?rwa16
            case hwa16 => intro W hW; go_simp; all_goals with_reducible rfl
            change wpAnyH _ _ _ _ _ _ _ (Act.put _ (some 53) _) _
            simp only [Act.put, List.setIfInBounds_toArray, List.set_cons_zero, List.set_cons_succ]
            refine' wpAnyH_take (i := 13) (v := _) rfl (by kernel_rfl) (by kernel_rfl) (by kernel_rfl) (fun _ _ _ h => h) (Or.inl ⟨by kernel_rfl, ?hwa17⟩) (by assumption) ?rwa17
            case hwa17 => intro W hW; go_simp; all_goals with_reducible rfl
            change wpAnyH _ _ _ _ _ _ _ (Act.put _ (some 54) _) _
            simp only [Act.put, List.setIfInBounds_toArray, List.set_cons_zero, List.set_cons_succ]
            refine wpAnyH_ready (rs := [14]) (by kernel_rfl) (by simp) ?_
            refine AllReadyH.cons rfl (fun KK hK => ?_) AllReadyH.nil
            have xa : wa.cell? ⟨X, 1, none⟩ = some (.slice ca D0.cache.length cc) := hXa.cell 1
            have za := hXa.fz 1
            go_simp
            have hKb := keep_vn (P := fun t => t = 32) (i := 1) (u := .slice (some ⟨cb, 0, none⟩) (D0.cache.length + 1) cd) hXa rfl
            have hFb := hFa.block (hKb _ _ _ _ hFa (by decide))
            have hBb : Below B w (wa.setCell ⟨X, 1, none⟩ (.slice (some ⟨cb, 0, none⟩) (D0.cache.length + 1) cd)) := hBa.setCell (p := ⟨X, 1, none⟩) hBX _
            clear xa za hXa hFa hBa hKb
            refine hK.out _ _ trivial (fun hHeld => ?_)
            clear hK KK
            try simp only [Act.put, List.setIfInBounds_toArray, List.set_cons_zero, List.set_cons_succ]
            refine wpAnyH_done (by kernel_rfl) ?_ _
            clear hHeld
            go_wp2_with fail
            go_meet
            refine ⟨some ⟨cb, 0, none⟩, cd, _, hMb, ?_, hFb, hBb, by simpa using hsa⟩
            show World.ownsRow _ B _ 2 (.slice (some ⟨cb, 0, none⟩) (D0.cache ++ [(n, l)]).length cd) (D0.cache ++ [(n, l)]).length _
            rw [List.length_append]
            exact hOb
    case rest =>
     clear hM2 hO2 hF2 hB2 hsz2 HVF
     as_aux_lemma =>
      obtain ⟨cb, cd, u, hMb, hOb, hFb, hBb, hszb⟩ := hcut
      obtain ⟨Wb, hWb⟩ := hidEx wc
      rw [hWb.out] at hMb hOb hFb hBb hszb ⊢
      clear hWb
      obtain ⟨D2, hD2⟩ := hidEx (moreD D0 n l)
      have eD2 : ({ { D0 with ops := D0.ops + 1 } with cache := D0.cache ++ [(n, l)] } : PDisk) = D2 := by rw [← hD2.out]; rfl
      rw [eD2] at hMb hOb
      have eS : D0.secs = D2.secs := by rw [← hD2.out]; rfl
      rw [eS] at hMb
      have HM2L : Hid (ML D2 sc cb cd fa fc) := by
        obtain ⟨a9, c9, e9, h91, h92, -⟩ := own_rl hOb
        cases e9
        rw [← hD2.out] at h91 ⊢
        exact ⟨HML.out.s, h91, h92, HML.out.f, HML.out.fn⟩
      have hok2 : OkD D2 := by rw [← hD2.out]; exact moreD_ok HMAY.out HDN.out
      have HOK2 : Hid (OkD D2) := hok2
      have hp2 : 0 < D2.secs.length := by have := hok2.1.1; omega
      clear hok2
      have f0 : Wb.cell? ⟨FB, 0, none⟩ = some (.int .i64 p) := hFb.cell 0
      have f1 : Wb.cell? ⟨FB, 1, none⟩ = some (.int .i64 q) := hFb.cell 1
      have f2 : Wb.cell? ⟨FB, 2, none⟩ = some (.int .i64 (r : Int)) := hFb.cell 2
      have hL := l12Lose_any B X gs sc cb cd fa fc ss (cs ++ [u]) D2 p q r Wb hMb hp2 (fun i hi => ⟨(HOK2.out.2.1.2 i hi).1, (HOK2.out.2.1.2 i hi).2.1⟩) (by have := HOK2.out.2.1.1; omega) HOK2.out.fine.cache hq0 hq1 (by omega) hszb hBX
      clear hMb hOb hFb
      go_wp2_with fail
      refine hL.mono ?_
      rintro e w3 ⟨rfl, ⟨ga, s3, hM3⟩, hb3⟩
      have HR : Hid (OpTo w B X gs sc fa fc (writeF D0 n l).1 (writeF D0 n l).2 (.returned (.int .i64 9)) w3) := by
        rw [HF0.out, hD2.out]
        refine ⟨rfl, ⟨ga, 0, s3, [], hM3, ?_, Nat.le_refl _, fun _ => rfl, HM2L.out.f, HM2L.out.fn⟩, hBb.trans hb3⟩
        show (settleL D2.secs _).length ≤ sc
        rw [settleL_len]; exact HM2L.out.s
      clear hL hM3 hb3 hBb f0 f1 f2
      go_wp2
      go_ret
      exact HR.out
  · have HF0 : Hid (writeF D0 n l = (moreD D0 n l, 0)) := writeF_good HDN.out hff
    obtain ⟨i0, hi, hz0, hz1, hz2⟩ := infoWrite
    obtain ⟨ib, hib, hib0, hib1, hib2⟩ := info_parts Try.info5
    have hbA : Below w1.heap.size w1 (w1.alloc (.cells #[.int .i64 0, .int .i64 0, .int .i64 0] 79)) := (Below.refl _ _).alloc (Nat.le_refl _) _
    have hMA := (HM.out.1.on hb1).on hbA
    have hOA := own_upK (own_upK HO.out (Up.ofBelow hb1)) (Up.ofBelow hbA)
    have hBA : Below B w (w1.alloc (.cells #[.int .i64 0, .int .i64 0, .int .i64 0] 79)) := (hb1.mono hBw).trans (hbA.mono (by have := hb1.size; omega))
    have hFA := VN.new w1 79 [.int .i64 0, .int .i64 0, .int .i64 0]
    have y2 : (w1.alloc (.cells #[.int .i64 0, .int .i64 0, .int .i64 0] 79)).cell? ⟨X, 2, none⟩ = some (.int .i64 D0.ops) := hMA.x.cell 2
    have z2 := hMA.x.fz 2
    have hXA := hMA.x
    have hkx := keep_vn (P := fun t => t = 32) (i := 2) (u := .int .i64 (D0.ops + 1)) hMA.x rfl
    have hM2 := hMA.ops (D0.ops + 1)
    have hO2 := own_keepT hOA hkx (by decide)
    have hB2 : Below B w ((w1.alloc (.cells #[.int .i64 0, .int .i64 0, .int .i64 0] 79)).setCell ⟨X, 2, none⟩ (.int .i64 (D0.ops + 1))) := hBA.setCell (p := ⟨X, 2, none⟩) hBX _
    have hF2 := hFA.block (hkx _ _ _ _ hFA (by decide))
    have hsz2 : B ≤ ((w1.alloc (.cells #[.int .i64 0, .int .i64 0, .int .i64 0] 79)).setCell ⟨X, 2, none⟩ (.int .i64 (D0.ops + 1))).heap.size := by have h1 := hb1.size; simp; omega
    have hbw2 : Below w.heap.size w w1 := hb1
    obtain ⟨WF, hWF⟩ := hidEx ((w1.alloc (.cells #[.int .i64 0, .int .i64 0, .int .i64 0] 79)).setCell ⟨X, 2, none⟩ (.int .i64 (D0.ops + 1)))
    obtain ⟨FB, hFB⟩ := hidEx w1.heap.size
    rw [hFB.out] at hF2
    rw [hWF.out] at hM2 hO2 hB2 hF2 hsz2
    have HVF : Hid (View WF ba l.length bc (bf l)) := by
      show View _ _ _ _ _
      rw [← hWF.out]
      exact HVX.out _ _ hXA (HVB.out.below (hb1.trans (hbA.mono hb1.size)))
    have HML : Hid (ML D0 sc ca cc fa fc) := HM.out.2
    clear hMA hOA hBA hFA hkx HM HO hb1 hbA hbw2 hXA
    go_upto_region 7 with (rw [hWF.out])
    rw [hFB.out]
    go_cut [] (fun wx => MidS w B X FB gs sc fa fc ss cs { { D0 with ops := D0.ops + 1 } with cache := D0.cache ++ [(n, l)] } D0.secs [.int .i64 0, .int .i64 0, .int .i64 0] wx)
    case first =>
     as_aux_lemma =>
      refine wp_region_held_drew (S := fun _ => True) (by kernel_rfl) trivial (fun hHeld => ?_)
      have hbd : Below WF.heap.size WF WF.drew := (Below.refl _ _).drew
      have hM7 := hM2.on hbd
      have hO7 := own_upK hO2 (Up.ofBelow hbd)
      have hF7 := hF2.below hbd
      have hB7 := hB2.trans (hbd.mono hsz2)
      have hs7 : B ≤ WF.drew.heap.size := hsz2
      have hV7 := HVF.out.below hbd
      clear hbd hM2 hO2 hF2 hB2 hsz2 HVF
      obtain ⟨wd, hwd⟩ := hidEx WF.drew
      rw [hwd.out] at hM7 hO7 hF7 hB7 hs7 hV7 ⊢
      refine' wpAnyH_take (i := 0) (v := _) rfl (by kernel_rfl) (by kernel_rfl) (by kernel_rfl) (fun _ _ _ h => h) (Or.inl ⟨by kernel_rfl, ?hwb1⟩) (by assumption) ?rwb1
      case hwb1 => intro W hW; go_simp; all_goals with_reducible rfl
      change wpAnyH _ _ _ _ _ _ _ (Act.put _ (some 41) _) _
      simp only [Act.put, List.setIfInBounds_toArray, List.set_cons_zero, List.set_cons_succ]
      refine' wpAnyH_take (i := 1) (v := _) rfl (by kernel_rfl) (by kernel_rfl) (by kernel_rfl) (fun _ _ _ h => h) (Or.inl ⟨by kernel_rfl, ?hwb2⟩) (by assumption) ?rwb2
      case hwb2 => intro W hW; go_simp; all_goals with_reducible rfl
      change wpAnyH _ _ _ _ _ _ _ (Act.put _ (some 42) _) _
      simp only [Act.put, List.setIfInBounds_toArray, List.set_cons_zero, List.set_cons_succ]
      refine' wpAnyH_take (i := 2) (v := _) rfl (by kernel_rfl) (by kernel_rfl) (by kernel_rfl) (fun _ _ _ h => h) (Or.inl ⟨by kernel_rfl, ?hwb3⟩) (by assumption) ?rwb3
      case hwb3 => intro W hW; go_simp; all_goals with_reducible rfl
      change wpAnyH _ _ _ _ _ _ _ (Act.put _ (some 43) _) _
      simp only [Act.put, List.setIfInBounds_toArray, List.set_cons_zero, List.set_cons_succ]
      refine' wpAnyH_take (i := 3) (v := _) rfl (by kernel_rfl) (by kernel_rfl) (by kernel_rfl) (fun _ _ _ h => h) (Or.inl ⟨by kernel_rfl, ?hwb4⟩) (by assumption) ?rwb4
      case hwb4 => intro W hW; go_simp; all_goals with_reducible rfl
      change wpAnyH _ _ _ _ _ _ _ (Act.put _ (some 44) _) _
      simp only [Act.put, List.setIfInBounds_toArray, List.set_cons_zero, List.set_cons_succ]
      refine' wpAnyH_take (i := 5) (v := _) rfl (by kernel_rfl) (by kernel_rfl) (by kernel_rfl) (fun _ _ _ h => h) (Or.inl ⟨by kernel_rfl, ?hwb5⟩) (by assumption) ?rwb5
      case hwb5 => intro W hW; go_simp; all_goals with_reducible rfl
      change wpAnyH _ _ _ _ _ _ _ (Act.put _ (some 46) _) _
      simp only [Act.put, List.setIfInBounds_toArray, List.set_cons_zero, List.set_cons_succ]
      refine' wpAnyH_take (i := 7) (v := _) rfl (by kernel_rfl) (by kernel_rfl) (by kernel_rfl) (fun _ _ _ h => h) (Or.inl ⟨by kernel_rfl, ?hwb6⟩) (by assumption) ?rwb6
      case hwb6 => intro W hW; go_simp; all_goals with_reducible rfl
      change wpAnyH _ _ _ _ _ _ _ (Act.put _ (some 48) _) _
      simp only [Act.put, List.setIfInBounds_toArray, List.set_cons_zero, List.set_cons_succ]
      refine wpAnyH_ready (rs := [4, 6]) (by kernel_rfl) (by simp) ?_
      refine AllReadyH.cons rfl (fun KK hK => ?_) (AllReadyH.cons rfl (fun KK hK => ?_) AllReadyH.nil)
      ·
        have xl : wd.cell? ⟨X, 1, none⟩ = some (.slice ca D0.cache.length cc) := hM7.x.cell 1
        go_simp
        clear xl
        refine hK.out _ _ trivial (fun hHeld => ?_)
        clear hK KK
        try simp only [Act.put, List.setIfInBounds_toArray, List.set_cons_zero, List.set_cons_succ]
        refine wpAnyH_ready (rs := [6]) (by kernel_rfl) (by simp) ?_
        refine AllReadyH.cons rfl (fun KK hK => ?_) AllReadyH.nil
        go_simp
        have hb6 : Below wd.heap.size wd (wd.alloc (.cells #[] 5)) := (Below.refl _ _).alloc (Nat.le_refl _) _
        have hL6 := World.ownsRow_lit (base := wd.heap.size) (e := 5) (size := 1) wd #[] 0 (Nat.le_refl _) (Nat.zero_le _) rfl
        refine hK.out _ _ trivial (fun hHeld => ?_)
        clear hK KK
        try simp only [Act.put, List.setIfInBounds_toArray, List.set_cons_zero, List.set_cons_succ]
        obtain ⟨w6, hw6⟩ := hidEx (wd.alloc (.cells #[] 5))
        obtain ⟨g6, hg6⟩ := hidEx wd.heap.size
        rw [hw6.out, hg6.out] at hL6
        rw [hw6.out] at hb6 ⊢
        try rw [hg6.out]
        have hMc := hM7.on hb6
        refine wpAnyH_ready (rs := [8]) (by kernel_rfl) (by simp) ?_
        refine AllReadyH.cons rfl (fun KK hK => ?_) AllReadyH.nil
        rw [if_pos (by kernel_rfl)]
        refine wp_append_opt (.tmp 47) (.tmp 48) 27 rfl g6 5 ib (.int .u8 0) 1 1 Try.underlying27 hib hib0 hib1 hib2 rfl (by decide) (.slice (some ⟨g6, 0, none⟩) 0 0) 0 [] rfl hL6 ba l.length bc (bl l) rfl (fun e => by have h1 := hbn e; have h2 := HVB.out.le; omega) (by rw [bl_len]; omega) (view_news (hV7.below hb6)) (bl_one _) (by unfold maxLen; omega) (by omega) (by rw [← hg6.out]; exact hb6.size) ?_
        intro v8 w8 hO8 hgr8
        have hb8 : Below wd.heap.size wd w8 := hb6.grown hgr8 hb6.size (fun k e => by simp only [Value.ownBlock, Option.some.injEq] at e; have := hg6.out; omega)
        simp only [Nat.zero_add, List.nil_append] at hO8
        have hu8 : OB w8 B v8 l := (ob_own hO8 (lv_bytes HVB.out)).mono (by have := hg6.out; omega)
        obtain ⟨a8, c8, ev8, -, -, -, -⟩ := hu8.is
        subst ev8
        have hM8 := hM7.on hb8
        have hO8c := own_upK hO7 (Up.ofBelow hb8)
        have hF8 := hF7.below hb8
        have hB8 := hB7.trans (hb8.mono hs7)
        have hs8 : B ≤ w8.heap.size := Nat.le_trans hs7 hb8.size
        clear hL6 hb6 hMc hO8 hgr8 hb8 hg6 hw6 hV7
        refine hK.out _ _ trivial (fun hHeld => ?_)
        clear hK KK
        change wpAnyH _ _ _ _ _ _ _ (Act.put _ (some 49) _) _
        try simp only [Act.put, List.setIfInBounds_toArray, List.set_cons_zero, List.set_cons_succ]
        refine' wpAnyH_take (i := 9) (v := _) rfl (by kernel_rfl) (by kernel_rfl) (by kernel_rfl) (fun _ _ _ h => h) (Or.inl ⟨by kernel_rfl, ?hwb7⟩) (by assumption) ?rwb7
        case hwb7 => intro W hW; go_simp; all_goals with_reducible rfl
        change wpAnyH _ _ _ _ _ _ _ (Act.put _ (some 50) _) _
        simp only [Act.put, List.setIfInBounds_toArray, List.set_cons_zero, List.set_cons_succ]
        refine wpAnyH_ready (rs := [10]) (by kernel_rfl) (by simp) ?_
        refine AllReadyH.cons rfl (fun KK hK => ?_) AllReadyH.nil
        go_simp
        have hbA : Below w8.heap.size w8 (w8.alloc (.cells #[.int .i64 n, .slice a8 l.length c8] 51)) := (Below.refl _ _).alloc (Nat.le_refl _) _
        have hcl : ∀ j u, [Value.int .i64 n, .slice a8 l.length c8][j]? = some u → (w8.alloc (.cells #[.int .i64 n, .slice a8 l.length c8] 51)).cell? ((⟨w8.heap.size, 0, none⟩ : Addr).add j) = some u := by
          have ea : ∀ j, (⟨w8.heap.size, 0, none⟩ : Addr).add j = ⟨w8.heap.size, 0 + j, none⟩ := fun j => by unfold Addr.add; split <;> simp_all
          intro j u hj
          match j, hj with
          | 0, hj => cases hj; rw [ea]; simp
          | 1, hj => cases hj; rw [ea]; simp [go_sem]
        have hM9 := hM8.on hbA
        have hO9c := own_upK hO8c (Up.ofBelow hbA)
        have hF9 := hF8.below hbA
        have hu9 := hu8.up (Up.ofBelow hbA)
        have hBx := hB8.trans (hbA.mono hs8)
        have hs9 : B ≤ (w8.alloc (.cells #[.int .i64 n, .slice a8 l.length c8] 51)).heap.size := by have := hbA.size; omega
        clear hM8 hO8c hF8 hu8 hbA
        refine hK.out _ _ trivial (fun hHeld => ?_)
        clear hK KK
        try simp only [Act.put, List.setIfInBounds_toArray, List.set_cons_zero, List.set_cons_succ]
        obtain ⟨w9, hw9⟩ := hidEx (w8.alloc (.cells #[.int .i64 n, .slice a8 l.length c8] 51))
        obtain ⟨g9, hg9⟩ := hidEx w8.heap.size
        rw [hw9.out, hg9.out] at hcl
        rw [hw9.out] at hM9 hO9c hF9 hu9 hBx hs9 ⊢
        try rw [hg9.out]
        refine wpAnyH_ready (rs := [11]) (by kernel_rfl) (by simp) ?_
        refine AllReadyH.cons rfl (fun KK hK => ?_) AllReadyH.nil
        rw [if_pos (by kernel_rfl)]
        refine wp_append_own _ (.tmp 45) (.tmp 51) 29 rfl B 51 i0 (.agg #[.int .i64 0, .slice none 0 0]) 2 32 Try.underlying29 hi hz0 hz1 hz2 rfl (by decide) _ _ _ rfl hO9c ⟨g9, 0, none⟩ 1 1 [.int .i64 n, .slice a8 l.length c8] rfl rfl hcl (by intro u hu; simp at hu; rcases hu with rfl | rfl <;> rfl) (by unfold maxLen; omega) (by omega) hs9 ?_
        intro v6 wa hOa hgra hnila
        have hKa := keep_grown hO9c hgra
        obtain ⟨cb, cd, rfl⟩ := own_succK hOa
        have hBa := hBx.grown hgra hs9 (fun k e => by have := own_geK hO9c k e; omega)
        have hFa := hF9.block (hKa _ _ _ _ hF9 (by decide))
        have hXa := hM9.x.block (hKa _ _ _ _ hM9.x (by decide))
        obtain ⟨hMb, hOb⟩ := hM9.more hKa hu9 hOa
        have hsa : B ≤ wa.heap.size := Nat.le_trans hs9 hgra.size
        clear hM9 hO9c hF9 hu9 hBx hs9 hcl hgra hnila hKa hOa
        refine hK.out _ _ trivial (fun hHeld => ?_)
        clear hK KK
        change wpAnyH _ _ _ _ _ _ _ (Act.put _ (some 52) _) _
        try simp only [Act.put, List.setIfInBounds_toArray, List.set_cons_zero, List.set_cons_succ]
        refine' wpAnyH_take (i := 12) (v := _) rfl (by kernel_rfl) (by kernel_rfl) (by kernel_rfl) (fun _ _ _ h => h) (Or.inl ⟨by kernel_rfl, ?hwb8⟩) (by assumption) ?rwb8
        case hwb8 => intro W hW; go_simp; all_goals with_reducible rfl
        change wpAnyH _ _ _ _ _ _ _ (Act.put _ (some 53) _) _
        simp only [Act.put, List.setIfInBounds_toArray, List.set_cons_zero, List.set_cons_succ]
        refine' wpAnyH_take (i := 13) (v := _) rfl (by kernel_rfl) (by kernel_rfl) (by kernel_rfl) (fun _ _ _ h => h) (Or.inl ⟨by kernel_rfl, ?hwb9⟩) (by assumption) ?rwb9
        case hwb9 => intro W hW; go_simp; all_goals with_reducible rfl
        change wpAnyH _ _ _ _ _ _ _ (Act.put _ (some 54) _) _
        simp only [Act.put, List.setIfInBounds_toArray, List.set_cons_zero, List.set_cons_succ]
        refine wpAnyH_ready (rs := [14]) (by kernel_rfl) (by simp) ?_
        refine AllReadyH.cons rfl (fun KK hK => ?_) AllReadyH.nil
        have xa : wa.cell? ⟨X, 1, none⟩ = some (.slice ca D0.cache.length cc) := hXa.cell 1
        have za := hXa.fz 1
        go_simp
        have hKb := keep_vn (P := fun t => t = 32) (i := 1) (u := .slice (some ⟨cb, 0, none⟩) (D0.cache.length + 1) cd) hXa rfl
        have hFb := hFa.block (hKb _ _ _ _ hFa (by decide))
        have hBb : Below B w (wa.setCell ⟨X, 1, none⟩ (.slice (some ⟨cb, 0, none⟩) (D0.cache.length + 1) cd)) := hBa.setCell (p := ⟨X, 1, none⟩) hBX _
        clear xa za hXa hFa hBa hKb
        refine hK.out _ _ trivial (fun hHeld => ?_)
        clear hK KK
        try simp only [Act.put, List.setIfInBounds_toArray, List.set_cons_zero, List.set_cons_succ]
        refine wpAnyH_done (by kernel_rfl) ?_ _
        clear hHeld
        go_wp2_with fail
        go_meet
        refine ⟨some ⟨cb, 0, none⟩, cd, _, hMb, ?_, hFb, hBb, by simpa using hsa⟩
        show World.ownsRow _ B _ 2 (.slice (some ⟨cb, 0, none⟩) (D0.cache ++ [(n, l)]).length cd) (D0.cache ++ [(n, l)]).length _
        rw [List.length_append]
        exact hOb
      ·
        go_simp
        have hb6 : Below wd.heap.size wd (wd.alloc (.cells #[] 5)) := (Below.refl _ _).alloc (Nat.le_refl _) _
        have hL6 := World.ownsRow_lit (base := wd.heap.size) (e := 5) (size := 1) wd #[] 0 (Nat.le_refl _) (Nat.zero_le _) rfl
        refine hK.out _ _ trivial (fun hHeld => ?_)
        clear hK KK
        try simp only [Act.put, List.setIfInBounds_toArray, List.set_cons_zero, List.set_cons_succ]
        obtain ⟨w6, hw6⟩ := hidEx (wd.alloc (.cells #[] 5))
        obtain ⟨g6, hg6⟩ := hidEx wd.heap.size
        rw [hw6.out, hg6.out] at hL6
        rw [hw6.out] at hb6 ⊢
        try rw [hg6.out]
        have hMc := hM7.on hb6
        refine wpAnyH_ready (rs := [4, 8]) (by kernel_rfl) (by simp) ?_
        refine AllReadyH.cons rfl (fun KK hK => ?_) (AllReadyH.cons rfl (fun KK hK => ?_) AllReadyH.nil)
        ·
          have xl : w6.cell? ⟨X, 1, none⟩ = some (.slice ca D0.cache.length cc) := hMc.x.cell 1
          go_simp
          clear xl
          refine hK.out _ _ trivial (fun hHeld => ?_)
          clear hK KK
          try simp only [Act.put, List.setIfInBounds_toArray, List.set_cons_zero, List.set_cons_succ]
          refine wpAnyH_ready (rs := [8]) (by kernel_rfl) (by simp) ?_
          refine AllReadyH.cons rfl (fun KK hK => ?_) AllReadyH.nil
          rw [if_pos (by kernel_rfl)]
          refine wp_append_opt (.tmp 47) (.tmp 48) 27 rfl g6 5 ib (.int .u8 0) 1 1 Try.underlying27 hib hib0 hib1 hib2 rfl (by decide) (.slice (some ⟨g6, 0, none⟩) 0 0) 0 [] rfl hL6 ba l.length bc (bl l) rfl (fun e => by have h1 := hbn e; have h2 := HVB.out.le; omega) (by rw [bl_len]; omega) (view_news (hV7.below hb6)) (bl_one _) (by unfold maxLen; omega) (by omega) (by rw [← hg6.out]; exact hb6.size) ?_
          intro v8 w8 hO8 hgr8
          have hb8 : Below wd.heap.size wd w8 := hb6.grown hgr8 hb6.size (fun k e => by simp only [Value.ownBlock, Option.some.injEq] at e; have := hg6.out; omega)
          simp only [Nat.zero_add, List.nil_append] at hO8
          have hu8 : OB w8 B v8 l := (ob_own hO8 (lv_bytes HVB.out)).mono (by have := hg6.out; omega)
          obtain ⟨a8, c8, ev8, -, -, -, -⟩ := hu8.is
          subst ev8
          have hM8 := hM7.on hb8
          have hO8c := own_upK hO7 (Up.ofBelow hb8)
          have hF8 := hF7.below hb8
          have hB8 := hB7.trans (hb8.mono hs7)
          have hs8 : B ≤ w8.heap.size := Nat.le_trans hs7 hb8.size
          clear hL6 hb6 hMc hO8 hgr8 hb8 hg6 hw6 hV7
          refine hK.out _ _ trivial (fun hHeld => ?_)
          clear hK KK
          change wpAnyH _ _ _ _ _ _ _ (Act.put _ (some 49) _) _
          try simp only [Act.put, List.setIfInBounds_toArray, List.set_cons_zero, List.set_cons_succ]
          refine' wpAnyH_take (i := 9) (v := _) rfl (by kernel_rfl) (by kernel_rfl) (by kernel_rfl) (fun _ _ _ h => h) (Or.inl ⟨by kernel_rfl, ?hwb10⟩) (by assumption) ?rwb10
          case hwb10 => intro W hW; go_simp; all_goals with_reducible rfl
          change wpAnyH _ _ _ _ _ _ _ (Act.put _ (some 50) _) _
          simp only [Act.put, List.setIfInBounds_toArray, List.set_cons_zero, List.set_cons_succ]
          refine wpAnyH_ready (rs := [10]) (by kernel_rfl) (by simp) ?_
          refine AllReadyH.cons rfl (fun KK hK => ?_) AllReadyH.nil
          go_simp
          have hbA : Below w8.heap.size w8 (w8.alloc (.cells #[.int .i64 n, .slice a8 l.length c8] 51)) := (Below.refl _ _).alloc (Nat.le_refl _) _
          have hcl : ∀ j u, [Value.int .i64 n, .slice a8 l.length c8][j]? = some u → (w8.alloc (.cells #[.int .i64 n, .slice a8 l.length c8] 51)).cell? ((⟨w8.heap.size, 0, none⟩ : Addr).add j) = some u := by
            have ea : ∀ j, (⟨w8.heap.size, 0, none⟩ : Addr).add j = ⟨w8.heap.size, 0 + j, none⟩ := fun j => by unfold Addr.add; split <;> simp_all
            intro j u hj
            match j, hj with
            | 0, hj => cases hj; rw [ea]; simp
            | 1, hj => cases hj; rw [ea]; simp [go_sem]
          have hM9 := hM8.on hbA
          have hO9c := own_upK hO8c (Up.ofBelow hbA)
          have hF9 := hF8.below hbA
          have hu9 := hu8.up (Up.ofBelow hbA)
          have hBx := hB8.trans (hbA.mono hs8)
          have hs9 : B ≤ (w8.alloc (.cells #[.int .i64 n, .slice a8 l.length c8] 51)).heap.size := by have := hbA.size; omega
          clear hM8 hO8c hF8 hu8 hbA
          refine hK.out _ _ trivial (fun hHeld => ?_)
          clear hK KK
          try simp only [Act.put, List.setIfInBounds_toArray, List.set_cons_zero, List.set_cons_succ]
          obtain ⟨w9, hw9⟩ := hidEx (w8.alloc (.cells #[.int .i64 n, .slice a8 l.length c8] 51))
          obtain ⟨g9, hg9⟩ := hidEx w8.heap.size
          rw [hw9.out, hg9.out] at hcl
          rw [hw9.out] at hM9 hO9c hF9 hu9 hBx hs9 ⊢
          try rw [hg9.out]
          refine wpAnyH_ready (rs := [11]) (by kernel_rfl) (by simp) ?_
          refine AllReadyH.cons rfl (fun KK hK => ?_) AllReadyH.nil
          rw [if_pos (by kernel_rfl)]
          refine wp_append_own _ (.tmp 45) (.tmp 51) 29 rfl B 51 i0 (.agg #[.int .i64 0, .slice none 0 0]) 2 32 Try.underlying29 hi hz0 hz1 hz2 rfl (by decide) _ _ _ rfl hO9c ⟨g9, 0, none⟩ 1 1 [.int .i64 n, .slice a8 l.length c8] rfl rfl hcl (by intro u hu; simp at hu; rcases hu with rfl | rfl <;> rfl) (by unfold maxLen; omega) (by omega) hs9 ?_
          intro v6 wa hOa hgra hnila
          have hKa := keep_grown hO9c hgra
          obtain ⟨cb, cd, rfl⟩ := own_succK hOa
          have hBa := hBx.grown hgra hs9 (fun k e => by have := own_geK hO9c k e; omega)
          have hFa := hF9.block (hKa _ _ _ _ hF9 (by decide))
          have hXa := hM9.x.block (hKa _ _ _ _ hM9.x (by decide))
          obtain ⟨hMb, hOb⟩ := hM9.more hKa hu9 hOa
          have hsa : B ≤ wa.heap.size := Nat.le_trans hs9 hgra.size
          clear hM9 hO9c hF9 hu9 hBx hs9 hcl hgra hnila hKa hOa
          refine hK.out _ _ trivial (fun hHeld => ?_)
          clear hK KK
          change wpAnyH _ _ _ _ _ _ _ (Act.put _ (some 52) _) _
          try simp only [Act.put, List.setIfInBounds_toArray, List.set_cons_zero, List.set_cons_succ]
          refine' wpAnyH_take (i := 12) (v := _) rfl (by kernel_rfl) (by kernel_rfl) (by kernel_rfl) (fun _ _ _ h => h) (Or.inl ⟨by kernel_rfl, ?hwb11⟩) (by assumption) ?rwb11
          case hwb11 => intro W hW; go_simp; all_goals with_reducible rfl
          change wpAnyH _ _ _ _ _ _ _ (Act.put _ (some 53) _) _
          simp only [Act.put, List.setIfInBounds_toArray, List.set_cons_zero, List.set_cons_succ]
          refine' wpAnyH_take (i := 13) (v := _) rfl (by kernel_rfl) (by kernel_rfl) (by kernel_rfl) (fun _ _ _ h => h) (Or.inl ⟨by kernel_rfl, ?hwb12⟩) (by assumption) ?rwb12
          case hwb12 => intro W hW; go_simp; all_goals with_reducible rfl
          change wpAnyH _ _ _ _ _ _ _ (Act.put _ (some 54) _) _
          simp only [Act.put, List.setIfInBounds_toArray, List.set_cons_zero, List.set_cons_succ]
          refine wpAnyH_ready (rs := [14]) (by kernel_rfl) (by simp) ?_
          refine AllReadyH.cons rfl (fun KK hK => ?_) AllReadyH.nil
          have xa : wa.cell? ⟨X, 1, none⟩ = some (.slice ca D0.cache.length cc) := hXa.cell 1
          have za := hXa.fz 1
          go_simp
          have hKb := keep_vn (P := fun t => t = 32) (i := 1) (u := .slice (some ⟨cb, 0, none⟩) (D0.cache.length + 1) cd) hXa rfl
          have hFb := hFa.block (hKb _ _ _ _ hFa (by decide))
          have hBb : Below B w (wa.setCell ⟨X, 1, none⟩ (.slice (some ⟨cb, 0, none⟩) (D0.cache.length + 1) cd)) := hBa.setCell (p := ⟨X, 1, none⟩) hBX _
          clear xa za hXa hFa hBa hKb
          refine hK.out _ _ trivial (fun hHeld => ?_)
          clear hK KK
          try simp only [Act.put, List.setIfInBounds_toArray, List.set_cons_zero, List.set_cons_succ]
          refine wpAnyH_done (by kernel_rfl) ?_ _
          clear hHeld
          go_wp2_with fail
          go_meet
          refine ⟨some ⟨cb, 0, none⟩, cd, _, hMb, ?_, hFb, hBb, by simpa using hsa⟩
          show World.ownsRow _ B _ 2 (.slice (some ⟨cb, 0, none⟩) (D0.cache ++ [(n, l)]).length cd) (D0.cache ++ [(n, l)]).length _
          rw [List.length_append]
          exact hOb
        ·
          rw [if_pos (by kernel_rfl)]
          refine wp_append_opt (.tmp 47) (.tmp 48) 27 rfl g6 5 ib (.int .u8 0) 1 1 Try.underlying27 hib hib0 hib1 hib2 rfl (by decide) (.slice (some ⟨g6, 0, none⟩) 0 0) 0 [] rfl hL6 ba l.length bc (bl l) rfl (fun e => by have h1 := hbn e; have h2 := HVB.out.le; omega) (by rw [bl_len]; omega) (view_news (hV7.below hb6)) (bl_one _) (by unfold maxLen; omega) (by omega) (by rw [← hg6.out]; exact hb6.size) ?_
          intro v8 w8 hO8 hgr8
          have hb8 : Below wd.heap.size wd w8 := hb6.grown hgr8 hb6.size (fun k e => by simp only [Value.ownBlock, Option.some.injEq] at e; have := hg6.out; omega)
          simp only [Nat.zero_add, List.nil_append] at hO8
          have hu8 : OB w8 B v8 l := (ob_own hO8 (lv_bytes HVB.out)).mono (by have := hg6.out; omega)
          obtain ⟨a8, c8, ev8, -, -, -, -⟩ := hu8.is
          subst ev8
          have hM8 := hM7.on hb8
          have hO8c := own_upK hO7 (Up.ofBelow hb8)
          have hF8 := hF7.below hb8
          have hB8 := hB7.trans (hb8.mono hs7)
          have hs8 : B ≤ w8.heap.size := Nat.le_trans hs7 hb8.size
          clear hL6 hb6 hMc hO8 hgr8 hb8 hg6 hw6 hV7
          refine hK.out _ _ trivial (fun hHeld => ?_)
          clear hK KK
          change wpAnyH _ _ _ _ _ _ _ (Act.put _ (some 49) _) _
          try simp only [Act.put, List.setIfInBounds_toArray, List.set_cons_zero, List.set_cons_succ]
          refine' wpAnyH_take (i := 9) (v := _) rfl (by kernel_rfl) (by kernel_rfl) (by kernel_rfl) (fun _ _ _ h => h) (Or.inl ⟨by kernel_rfl, ?hwb13⟩) (by assumption) ?rwb13
          case hwb13 => intro W hW; go_simp; all_goals with_reducible rfl
          change wpAnyH _ _ _ _ _ _ _ (Act.put _ (some 50) _) _
          simp only [Act.put, List.setIfInBounds_toArray, List.set_cons_zero, List.set_cons_succ]
          refine wpAnyH_ready (rs := [4, 10]) (by kernel_rfl) (by simp) ?_
          refine AllReadyH.cons rfl (fun KK hK => ?_) (AllReadyH.cons rfl (fun KK hK => ?_) AllReadyH.nil)
          ·
            have xl : w8.cell? ⟨X, 1, none⟩ = some (.slice ca D0.cache.length cc) := hM8.x.cell 1
            go_simp
            clear xl
            refine hK.out _ _ trivial (fun hHeld => ?_)
            clear hK KK
            try simp only [Act.put, List.setIfInBounds_toArray, List.set_cons_zero, List.set_cons_succ]
            refine wpAnyH_ready (rs := [10]) (by kernel_rfl) (by simp) ?_
            refine AllReadyH.cons rfl (fun KK hK => ?_) AllReadyH.nil
            go_simp
            have hbA : Below w8.heap.size w8 (w8.alloc (.cells #[.int .i64 n, .slice a8 l.length c8] 51)) := (Below.refl _ _).alloc (Nat.le_refl _) _
            have hcl : ∀ j u, [Value.int .i64 n, .slice a8 l.length c8][j]? = some u → (w8.alloc (.cells #[.int .i64 n, .slice a8 l.length c8] 51)).cell? ((⟨w8.heap.size, 0, none⟩ : Addr).add j) = some u := by
              have ea : ∀ j, (⟨w8.heap.size, 0, none⟩ : Addr).add j = ⟨w8.heap.size, 0 + j, none⟩ := fun j => by unfold Addr.add; split <;> simp_all
              intro j u hj
              match j, hj with
              | 0, hj => cases hj; rw [ea]; simp
              | 1, hj => cases hj; rw [ea]; simp [go_sem]
            have hM9 := hM8.on hbA
            have hO9c := own_upK hO8c (Up.ofBelow hbA)
            have hF9 := hF8.below hbA
            have hu9 := hu8.up (Up.ofBelow hbA)
            have hBx := hB8.trans (hbA.mono hs8)
            have hs9 : B ≤ (w8.alloc (.cells #[.int .i64 n, .slice a8 l.length c8] 51)).heap.size := by have := hbA.size; omega
            clear hM8 hO8c hF8 hu8 hbA
            refine hK.out _ _ trivial (fun hHeld => ?_)
            clear hK KK
            try simp only [Act.put, List.setIfInBounds_toArray, List.set_cons_zero, List.set_cons_succ]
            obtain ⟨w9, hw9⟩ := hidEx (w8.alloc (.cells #[.int .i64 n, .slice a8 l.length c8] 51))
            obtain ⟨g9, hg9⟩ := hidEx w8.heap.size
            rw [hw9.out, hg9.out] at hcl
            rw [hw9.out] at hM9 hO9c hF9 hu9 hBx hs9 ⊢
            try rw [hg9.out]
            refine wpAnyH_ready (rs := [11]) (by kernel_rfl) (by simp) ?_
            refine AllReadyH.cons rfl (fun KK hK => ?_) AllReadyH.nil
            rw [if_pos (by kernel_rfl)]
            refine wp_append_own _ (.tmp 45) (.tmp 51) 29 rfl B 51 i0 (.agg #[.int .i64 0, .slice none 0 0]) 2 32 Try.underlying29 hi hz0 hz1 hz2 rfl (by decide) _ _ _ rfl hO9c ⟨g9, 0, none⟩ 1 1 [.int .i64 n, .slice a8 l.length c8] rfl rfl hcl (by intro u hu; simp at hu; rcases hu with rfl | rfl <;> rfl) (by unfold maxLen; omega) (by omega) hs9 ?_
            intro v6 wa hOa hgra hnila
            have hKa := keep_grown hO9c hgra
            obtain ⟨cb, cd, rfl⟩ := own_succK hOa
            have hBa := hBx.grown hgra hs9 (fun k e => by have := own_geK hO9c k e; omega)
            have hFa := hF9.block (hKa _ _ _ _ hF9 (by decide))
            have hXa := hM9.x.block (hKa _ _ _ _ hM9.x (by decide))
            obtain ⟨hMb, hOb⟩ := hM9.more hKa hu9 hOa
            have hsa : B ≤ wa.heap.size := Nat.le_trans hs9 hgra.size
            clear hM9 hO9c hF9 hu9 hBx hs9 hcl hgra hnila hKa hOa
            refine hK.out _ _ trivial (fun hHeld => ?_)
            clear hK KK
            change wpAnyH _ _ _ _ _ _ _ (Act.put _ (some 52) _) _
            try simp only [Act.put, List.setIfInBounds_toArray, List.set_cons_zero, List.set_cons_succ]
            refine' wpAnyH_take (i := 12) (v := _) rfl (by kernel_rfl) (by kernel_rfl) (by kernel_rfl) (fun _ _ _ h => h) (Or.inl ⟨by kernel_rfl, ?hwb14⟩) (by assumption) ?rwb14
            case hwb14 => intro W hW; go_simp; all_goals with_reducible rfl
            change wpAnyH _ _ _ _ _ _ _ (Act.put _ (some 53) _) _
            simp only [Act.put, List.setIfInBounds_toArray, List.set_cons_zero, List.set_cons_succ]
            refine' wpAnyH_take (i := 13) (v := _) rfl (by kernel_rfl) (by kernel_rfl) (by kernel_rfl) (fun _ _ _ h => h) (Or.inl ⟨by kernel_rfl, ?hwb15⟩) (by assumption) ?rwb15
            case hwb15 => intro W hW; go_simp; all_goals with_reducible rfl
            change wpAnyH _ _ _ _ _ _ _ (Act.put _ (some 54) _) _
            simp only [Act.put, List.setIfInBounds_toArray, List.set_cons_zero, List.set_cons_succ]
            refine wpAnyH_ready (rs := [14]) (by kernel_rfl) (by simp) ?_
            refine AllReadyH.cons rfl (fun KK hK => ?_) AllReadyH.nil
            have xa : wa.cell? ⟨X, 1, none⟩ = some (.slice ca D0.cache.length cc) := hXa.cell 1
            have za := hXa.fz 1
            go_simp
            have hKb := keep_vn (P := fun t => t = 32) (i := 1) (u := .slice (some ⟨cb, 0, none⟩) (D0.cache.length + 1) cd) hXa rfl
            have hFb := hFa.block (hKb _ _ _ _ hFa (by decide))
            have hBb : Below B w (wa.setCell ⟨X, 1, none⟩ (.slice (some ⟨cb, 0, none⟩) (D0.cache.length + 1) cd)) := hBa.setCell (p := ⟨X, 1, none⟩) hBX _
            clear xa za hXa hFa hBa hKb
            refine hK.out _ _ trivial (fun hHeld => ?_)
            clear hK KK
            try simp only [Act.put, List.setIfInBounds_toArray, List.set_cons_zero, List.set_cons_succ]
            refine wpAnyH_done (by kernel_rfl) ?_ _
            clear hHeld
            go_wp2_with fail
            go_meet
            refine ⟨some ⟨cb, 0, none⟩, cd, _, hMb, ?_, hFb, hBb, by simpa using hsa⟩
            show World.ownsRow _ B _ 2 (.slice (some ⟨cb, 0, none⟩) (D0.cache ++ [(n, l)]).length cd) (D0.cache ++ [(n, l)]).length _
            rw [List.length_append]
            exact hOb
          ·
            go_simp
            have hbA : Below w8.heap.size w8 (w8.alloc (.cells #[.int .i64 n, .slice a8 l.length c8] 51)) := (Below.refl _ _).alloc (Nat.le_refl _) _
            have hcl : ∀ j u, [Value.int .i64 n, .slice a8 l.length c8][j]? = some u → (w8.alloc (.cells #[.int .i64 n, .slice a8 l.length c8] 51)).cell? ((⟨w8.heap.size, 0, none⟩ : Addr).add j) = some u := by
              have ea : ∀ j, (⟨w8.heap.size, 0, none⟩ : Addr).add j = ⟨w8.heap.size, 0 + j, none⟩ := fun j => by unfold Addr.add; split <;> simp_all
              intro j u hj
              match j, hj with
              | 0, hj => cases hj; rw [ea]; simp
              | 1, hj => cases hj; rw [ea]; simp [go_sem]
            have hM9 := hM8.on hbA
            have hO9c := own_upK hO8c (Up.ofBelow hbA)
            have hF9 := hF8.below hbA
            have hu9 := hu8.up (Up.ofBelow hbA)
            have hBx := hB8.trans (hbA.mono hs8)
            have hs9 : B ≤ (w8.alloc (.cells #[.int .i64 n, .slice a8 l.length c8] 51)).heap.size := by have := hbA.size; omega
            clear hM8 hO8c hF8 hu8 hbA
            refine hK.out _ _ trivial (fun hHeld => ?_)
            clear hK KK
            try simp only [Act.put, List.setIfInBounds_toArray, List.set_cons_zero, List.set_cons_succ]
            obtain ⟨w9, hw9⟩ := hidEx (w8.alloc (.cells #[.int .i64 n, .slice a8 l.length c8] 51))
            obtain ⟨g9, hg9⟩ := hidEx w8.heap.size
            rw [hw9.out, hg9.out] at hcl
            rw [hw9.out] at hM9 hO9c hF9 hu9 hBx hs9 ⊢
            try rw [hg9.out]
            refine wpAnyH_ready (rs := [4]) (by kernel_rfl) (by simp) ?_
            refine AllReadyH.cons rfl (fun KK hK => ?_) AllReadyH.nil
            have xl : w9.cell? ⟨X, 1, none⟩ = some (.slice ca D0.cache.length cc) := hM9.x.cell 1
            go_simp
            clear xl
            refine hK.out _ _ trivial (fun hHeld => ?_)
            clear hK KK
            try simp only [Act.put, List.setIfInBounds_toArray, List.set_cons_zero, List.set_cons_succ]
            refine wpAnyH_ready (rs := [11]) (by kernel_rfl) (by simp) ?_
            refine AllReadyH.cons rfl (fun KK hK => ?_) AllReadyH.nil
            rw [if_pos (by kernel_rfl)]
            refine wp_append_own _ (.tmp 45) (.tmp 51) 29 rfl B 51 i0 (.agg #[.int .i64 0, .slice none 0 0]) 2 32 Try.underlying29 hi hz0 hz1 hz2 rfl (by decide) _ _ _ rfl hO9c ⟨g9, 0, none⟩ 1 1 [.int .i64 n, .slice a8 l.length c8] rfl rfl hcl (by intro u hu; simp at hu; rcases hu with rfl | rfl <;> rfl) (by unfold maxLen; omega) (by omega) hs9 ?_
            intro v6 wa hOa hgra hnila
            have hKa := keep_grown hO9c hgra
            obtain ⟨cb, cd, rfl⟩ := own_succK hOa
            have hBa := hBx.grown hgra hs9 (fun k e => by have := own_geK hO9c k e; omega)
            have hFa := hF9.block (hKa _ _ _ _ hF9 (by decide))
            have hXa := hM9.x.block (hKa _ _ _ _ hM9.x (by decide))
            obtain ⟨hMb, hOb⟩ := hM9.more hKa hu9 hOa
            have hsa : B ≤ wa.heap.size := Nat.le_trans hs9 hgra.size
            clear hM9 hO9c hF9 hu9 hBx hs9 hcl hgra hnila hKa hOa
            refine hK.out _ _ trivial (fun hHeld => ?_)
            clear hK KK
            change wpAnyH _ _ _ _ _ _ _ (Act.put _ (some 52) _) _
            try simp only [Act.put, List.setIfInBounds_toArray, List.set_cons_zero, List.set_cons_succ]
            refine' wpAnyH_take (i := 12) (v := _) rfl (by kernel_rfl) (by kernel_rfl) (by kernel_rfl) (fun _ _ _ h => h) (Or.inl ⟨by kernel_rfl, ?hwb16⟩) (by assumption) ?rwb16
            case hwb16 => intro W hW; go_simp; all_goals with_reducible rfl
            change wpAnyH _ _ _ _ _ _ _ (Act.put _ (some 53) _) _
            simp only [Act.put, List.setIfInBounds_toArray, List.set_cons_zero, List.set_cons_succ]
            refine' wpAnyH_take (i := 13) (v := _) rfl (by kernel_rfl) (by kernel_rfl) (by kernel_rfl) (fun _ _ _ h => h) (Or.inl ⟨by kernel_rfl, ?hwb17⟩) (by assumption) ?rwb17
            case hwb17 => intro W hW; go_simp; all_goals with_reducible rfl
            change wpAnyH _ _ _ _ _ _ _ (Act.put _ (some 54) _) _
            simp only [Act.put, List.setIfInBounds_toArray, List.set_cons_zero, List.set_cons_succ]
            refine wpAnyH_ready (rs := [14]) (by kernel_rfl) (by simp) ?_
            refine AllReadyH.cons rfl (fun KK hK => ?_) AllReadyH.nil
            have xa : wa.cell? ⟨X, 1, none⟩ = some (.slice ca D0.cache.length cc) := hXa.cell 1
            have za := hXa.fz 1
            go_simp
            have hKb := keep_vn (P := fun t => t = 32) (i := 1) (u := .slice (some ⟨cb, 0, none⟩) (D0.cache.length + 1) cd) hXa rfl
            have hFb := hFa.block (hKb _ _ _ _ hFa (by decide))
            have hBb : Below B w (wa.setCell ⟨X, 1, none⟩ (.slice (some ⟨cb, 0, none⟩) (D0.cache.length + 1) cd)) := hBa.setCell (p := ⟨X, 1, none⟩) hBX _
            clear xa za hXa hFa hBa hKb
            refine hK.out _ _ trivial (fun hHeld => ?_)
            clear hK KK
            try simp only [Act.put, List.setIfInBounds_toArray, List.set_cons_zero, List.set_cons_succ]
            refine wpAnyH_done (by kernel_rfl) ?_ _
            clear hHeld
            go_wp2_with fail
            go_meet
            refine ⟨some ⟨cb, 0, none⟩, cd, _, hMb, ?_, hFb, hBb, by simpa using hsa⟩
            show World.ownsRow _ B _ 2 (.slice (some ⟨cb, 0, none⟩) (D0.cache ++ [(n, l)]).length cd) (D0.cache ++ [(n, l)]).length _
            rw [List.length_append]
            exact hOb
    case rest =>
     clear hM2 hO2 hF2 hB2 hsz2 HVF
     as_aux_lemma =>
      obtain ⟨cb, cd, u, hMb, hOb, hFb, hBb, hszb⟩ := hcut
      obtain ⟨Wb, hWb⟩ := hidEx wc
      rw [hWb.out] at hMb hOb hFb hBb hszb ⊢
      clear hWb
      obtain ⟨D2, hD2⟩ := hidEx (moreD D0 n l)
      have eD2 : ({ { D0 with ops := D0.ops + 1 } with cache := D0.cache ++ [(n, l)] } : PDisk) = D2 := by rw [← hD2.out]; rfl
      rw [eD2] at hMb hOb
      have eS : D0.secs = D2.secs := by rw [← hD2.out]; rfl
      rw [eS] at hMb
      have HM2L : Hid (ML D2 sc cb cd fa fc) := by
        obtain ⟨a9, c9, e9, h91, h92, -⟩ := own_rl hOb
        cases e9
        rw [← hD2.out] at h91 ⊢
        exact ⟨HML.out.s, h91, h92, HML.out.f, HML.out.fn⟩
      have HR : Hid (OpTo w B X gs sc fa fc (writeF D0 n l).1 (writeF D0 n l).2 (.returned (.int .i64 0)) Wb) := by
        rw [HF0.out, hD2.out]
        exact ⟨rfl, ⟨cb, cd, ss, cs ++ [u], hMb, HM2L.out⟩, hBb⟩
      clear hMb hOb hFb hBb
      go_wp2
      go_ret
      exact HR.out
end Go.Proofs.Ytdhfbblameiloaa

