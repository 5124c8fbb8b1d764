/-
  Together: DrawWrite12, ReadSecS, RowZ, OwnZ
-/
import Derived.Test.YtdhfbblameiloaaUP10
import Derived.Test.YtdhfbblameiloaaUP13
import Derived.Deep.RegionHeld3
import Derived.Test.YtdhfbblameiloaaUP3
import Derived.Test.YtdhfbblameiloaaUP2
import Derived.Test.YtdhfbblameiloaaUP1
import Derived.Lib.AppendStr
import Derived.Laws.IdiomStrings
/-
  What DrawWriteSec and DrawFlush draw.
-/
namespace Go.Proofs.Ytdhfbblameiloaa
open Go.RowKit
set_option maxRecDepth 4000

theorem view_blk {w w' : World} {b n c : Nat} {f : Nat → Int} (h : View w (some ⟨b, 0, none⟩) n c f) (e : w'.heap[b]? = w.heap[b]?) (hs : w.heap.size ≤ w'.heap.size) : View w' (some ⟨b, 0, none⟩) n c f := by
  refine ⟨h.le, h.byte, fun hn => ?_⟩
  obtain ⟨b', off, e', hlt, hc⟩ := h.cells hn
  cases e'
  exact ⟨b, 0, rfl, by omega, fun i hi => by rw [World.cell?_of_block (w := w) e]; exact hc i hi⟩
/-- The bytes beside the disk. -/
structure BV (w : World) (g b m c : Nat) (F : Nat → Int) (W : World) : Prop where
  view : View W (some ⟨b, 0, none⟩) m c F
  lt : b < W.heap.size
  lo : w.heap.size < b
  ne : b ≠ g
theorem BV.but {w W W' : World} {g b m c : Nat} {F : Nat → Int} (h : BV w g b m c F W) (hb : But g W W') : BV w g b m c F W' :=
  ⟨view_blk h.view (hb.block _ h.lt h.ne) hb.size, Nat.lt_of_lt_of_le h.lt hb.size, h.lo, h.ne⟩
theorem BV.on {w W W' : World} {g b m c : Nat} {F : Nat → Int} (h : BV w g b m c F W) (hb : Below W.heap.size W W') : BV w g b m c F W' :=
  ⟨view_blk h.view (hb.block _ h.lt) hb.size, Nat.lt_of_lt_of_le h.lt hb.size, h.lo, h.ne⟩
theorem BV.set {w W : World} {g b m c : Nat} {F : Nat → Int} (h : BV w g b m c F W) {C i : Nat} (hC : b ≠ C) (u : Value) : BV w g b m c F (W.setCell ⟨C, i, none⟩ u) :=
  ⟨view_blk h.view (Below.heap_setCell _ _ _ _ hC) (by simp), by simpa using h.lt, h.lo, h.ne⟩
/-- The faults laid anew. -/
theorem PB.fault {w : World} {g : Nat} {ao : Option Addr} {n cap : Nat} {f : Nat → Int} {B X gs sc : Nat} {fa : Option Addr} {fc : Nat} {D : PDisk} {ca : Option Addr} {cc : Nat} {ss cs : List Value} {W : World} (h : PB w g ao n cap f B X gs sc fa fc D ca cc ss cs W) (p k c : Int) :
    PB w g ao n cap f B X gs sc (some ⟨W.heap.size, 0, none⟩) 1 { D with faults := [⟨p, k, c⟩] } ca cc ss cs ((W.alloc (.cells #[.int .i64 p, .int .i64 k, .int .i64 c] 79)).setCell ⟨X, 3, none⟩ (.slice (some ⟨W.heap.size, 0, none⟩) 1 1)) := by
  have hb : Below W.heap.size W (W.alloc (.cells #[.int .i64 p, .int .i64 k, .int .i64 c] 79)) := (Below.refl _ _).alloc (Nat.le_refl _) _
  have h1 := h.on hb
  have hO : (W.alloc (.cells #[.int .i64 p, .int .i64 k, .int .i64 c] 79)).ownsRow B 79 3 (.slice (some ⟨W.heap.size, 0, none⟩) 1 1) 1 (fcells [⟨p, k, c⟩]) := by
    have := World.ownsRow_lit (base := B) (e := 79) (size := 3) W #[.int .i64 p, .int .i64 k, .int .i64 c] 1 h.b (by unfold maxLen; omega) rfl
    exact this
  have hk2 := keep_vn (P := fun t => t = 32) (i := 3) (u := .slice (some ⟨W.heap.size, 0, none⟩) 1 1) h1.ms.x rfl
  have hX2 := h1.ms.x.set 3 (.slice (some ⟨W.heap.size, 0, none⟩) 1 1)
  simp only [List.set] at hX2
  exact h1.set h1.x ⟨hX2, h1.ms.secs.keepT hk2 (by decide), h1.ms.ns, h1.ms.len, fun i v l h1' h2 => (h1.ms.ob i v l h1' h2).keepT hk2 (by decide), own_keepT h1.ms.own hk2 (by decide), h1.ms.nc, fun i v l h1' h2 => (h1.ms.cb i v l h1' h2).keepT hk2 (by decide), own_keepT hO hk2 (by decide)⟩ ⟨h1.ml.s, h1.ml.c, h1.ml.cn, Nat.le_refl _, fun e => by cases e⟩ ⟨h1.ok.ns, h1.ok.sec, h1.ok.nc, h1.ok.cache, by show 1 ≤ 1048576; omega⟩ h1.few
theorem Up.low {B B' : Nat} {w w' : World} (h : Up B w w') (hB : B ≤ B') : Up B' w w' := ⟨h.1, fun k hk hl => h.2 k (Nat.le_trans hB hk) hl⟩
/-- What was drawn: a disk, a sector, bytes. -/
def DW (w : World) (e : Ending) (w' : World) : Prop :=
  ∃ (dv : Value) (D : PDisk) (z : Int) (b m c : Nat) (F : Nat → Int), e = .returned (.tuple #[dv, .int .i64 z, .slice (some ⟨b, 0, none⟩) m c]) ∧ KView w' dv D ∧ KFine D ∧ (3 ≤ D.secs.length ∧ D.secs.length ≤ 48) ∧ View w' (some ⟨b, 0, none⟩) m c F ∧ m ≤ 257 ∧ Below w.heap.size w w' ∧ ∀ W, Up w.heap.size w' W → KView W dv D

set_option maxHeartbeats 16000000 in
theorem drawWriteSec_any (ao : Option Addr) (n cap : Nat) (f : Nat → Int) (w : World) (hn : n ≤ 1048576) (hv : View w ao n cap f) :
    Calls Try.prog 20 #[.slice ao n cap] w (DW w) := by
  have hbA : Below w.heap.size w (w.alloc (.cells #[.slice none 0 0, .slice none 0 0, .int .i64 0, .slice none 0 0, .bool false] 32)) := (Below.refl _ _).alloc (Nat.le_refl _) _
  have hV := VN.new w 32 [.slice none 0 0, .slice none 0 0, .int .i64 0, .slice none 0 0, .bool false]
  have hsz : (w.alloc (.cells #[.slice none 0 0, .slice none 0 0, .int .i64 0, .slice none 0 0, .bool false] 32)).heap.size = w.heap.size + 1 := by simp
  have hvA := hv.below hbA
  have HSZ : Hid ((w.alloc (.cells #[.slice none 0 0, .slice none 0 0, .int .i64 0, .slice none 0 0, .bool false] 32)).heap.size = w.heap.size + 1) := hsz
  clear hsz
  have HC : Hid (∀ a, ao = some a → 0 < n → a.block < w.heap.size) := by
    rintro a rfl h0
    obtain ⟨b, off, e, hlt, -⟩ := hv.cells h0
    cases e
    exact hlt
  have hmk := run_make_row' (P := Try.prog) 27 5 (.int .u8 0) 1 Try.underlying27 Try.info5 rfl .i64 .i64
  go_enter Try.func20, Try.ntmps20
  go_wp2_with fail
  obtain ⟨WA, hWA⟩ : ∃ x, Hid ((w.alloc (.cells #[.slice none 0 0, .slice none 0 0, .int .i64 0, .slice none 0 0, .bool false] 32)) = x) := ⟨_, rfl⟩
  rw [hWA.out] at hbA hV HSZ hvA ⊢
  refine (l1New_any ao n cap f WA hn hvA).mono ?_
  rintro e w1 ⟨rfl, hC, hb1⟩
  obtain ⟨g, hg⟩ := hidEx WA.heap.size
  rw [hg.out] at hC HSZ ⊢
  have hgs : w.heap.size < g := by have := HSZ.out; omega
  replace hV := hV.below hb1
  have hB := hbA.trans (hb1.mono hbA.size)
  clear hvA hbA hb1 hWA hv hg HSZ
  go_wp2_with fail
  refine (l1Some_any g ao n cap f w1 hn hC).mono ?_
  rintro e w2 ⟨⟨b6, c6, m6, l6, hD6⟩, hC6, hB6⟩
  have hgl := hC.lt
  have hbv : BV w g b6 m6 c6 (fun i => l6.getD i 0) w2 := ⟨Own9.view (w := w1) (w' := w2) ⟨hD6.len, hD6.byte, hD6.new, hD6.le, hD6.row, hD6.few⟩, hD6.row.lt, by have := hD6.new; have := hB.size; omega, by have := hD6.new; omega⟩
  have hm6 := hD6.few
  obtain rfl := hD6.ret
  obtain ⟨F6, hF6⟩ := hidEx (fun i => l6.getD i (0 : Int))
  rw [hF6.out] at hbv
  replace hV := hV.block (hB6.block _ hV.lt (by omega))
  replace hB := hB.trans (⟨hB6.os, hB6.tape, hB6.output, hB6.size, fun k hk => hB6.block k (by have := hB.size; omega) (by omega)⟩ : Below w.heap.size w1 w2)
  clear hD6 hF6 hC hB6
  go_wp2_with fail
  refine (l1Once_any g ao n cap f 10 w2 hn (by omega) (by omega) hC6).mono ?_
  rintro e w3 ⟨bo, rfl, hC, hO⟩
  have hbb : But g w2 w3 := But.ofOnly hO
  replace hbv := hbv.but hbb
  replace hV := hV.block (hbb.block _ hV.lt (by omega))
  replace hB := hB.trans (⟨hbb.os, hbb.tape, hbb.output, hbb.size, fun k hk => hbb.block k (by have := hB.size; omega) (by omega)⟩ : Below w.heap.size _ _)
  clear hbb hO hC6
  cases bo with
  | false =>
    obtain ⟨w4, hw4⟩ : ∃ x, Hid (w3 = x) := ⟨_, rfl⟩
    obtain ⟨bq, hbq⟩ : ∃ x, Hid (b6 = x) := ⟨_, rfl⟩
    obtain ⟨mq, hmqe⟩ : ∃ x, Hid (m6 = x) := ⟨_, rfl⟩
    obtain ⟨cq, hcq⟩ : ∃ x, Hid (c6 = x) := ⟨_, rfl⟩
    obtain ⟨Fq, hFq⟩ : ∃ x, Hid (F6 = x) := ⟨_, rfl⟩
    have hmq : mq ≤ 257 := by rw [← hmqe.out]; omega
    rw [hw4.out] at hC hV hB hbv ⊢
    rw [hbq.out, hmqe.out, hcq.out, hFq.out] at hbv
    rw [hbq.out, hmqe.out, hcq.out]
    clear hw4 hbq hmqe hcq hFq hm6 hmk
    go_wp2_with fail
    refine (l12Any_any g ao n cap f w4 hn hC).mono ?_
    rintro e w5 ⟨D, B, X0, gs, sc, ca, cc, fa, fc, ss, cs, rfl, hM, hl, hok, hfewD, hR, hB4, hX0⟩
    have hgl4 := hC.lt
    replace hbv := hbv.but hR.but
    have hbl5 : Hid (bq < w5.heap.size) := hbv.lt
    unfold dval
    have hbX : Below w5.heap.size w5 (w5.alloc (.cells #[.slice (some ⟨gs, 0, none⟩) D.secs.length sc, .slice ca D.cache.length cc, .int .i64 D.ops, .slice fa D.faults.length fc, .bool D.down] 32)) := (Below.refl _ _).alloc (Nat.le_refl _) _
    have hX := VN.new w5 32 [.slice (some ⟨gs, 0, none⟩) D.secs.length sc, .slice ca D.cache.length cc, .int .i64 D.ops, .slice fa D.faults.length fc, .bool D.down]
    have hM2 := hM.on hbX
    have hxl := hM.x.lt
    have hBw2 : B ≤ w5.heap.size := by omega
    have hP : PB w g ao n cap f B w5.heap.size gs sc fa fc D ca cc ss cs (w5.alloc (.cells #[.slice (some ⟨gs, 0, none⟩) D.secs.length sc, .slice ca D.cache.length cc, .int .i64 D.ops, .slice fa D.faults.length fc, .bool D.down] 32)) :=
      ⟨⟨hX, hM2.secs, hM2.ns, hM2.len, hM2.ob, hM2.own, hM2.nc, hM2.cb, hM2.fown⟩, hl, hok, hfewD, (hV.block (hR.but.block _ hV.lt (by omega))).below hbX, hR.cur.below hbX, (hB.trans ⟨hR.but.os, hR.but.tape, hR.but.output, hR.but.size, fun k hk => hR.but.block k (by have := hB.size; omega) (by omega)⟩).trans (hbX.mono (by have := hB.size; have := hR.but.size; omega)), hgs, by omega, HC.out, Nat.le_trans hBw2 hbX.size, hBw2⟩
    replace hbv := hbv.on hbX
    clear hX hM2 hM hV hR hbX hok hC hB hl HC hfewD
    have hbxx : Hid (bq ≠ w5.heap.size) := by show _ ≠ _; have := hbl5.out; omega
    obtain ⟨X, hXe⟩ := hidEx w5.heap.size
    obtain ⟨W6, hW6⟩ : ∃ z, Hid ((w5.alloc (.cells #[.slice (some ⟨gs, 0, none⟩) D.secs.length sc, .slice ca D.cache.length cc, .int .i64 D.ops, .slice fa D.faults.length fc, .bool D.down] 32)) = z) := ⟨_, rfl⟩
    rw [hXe.out, hW6.out] at hP
    rw [hXe.out] at hbxx
    rw [hW6.out] at hbv
    clear hxl hBw2 hX0 hB4 hgl4
    go_wp2_with (rw [hW6.out])
    rw [hXe.out]
    clear hXe hW6
    refine (l1Once_any g ao n cap f 3 W6 hn (by omega) (by omega) hP.cur).mono ?_
    rintro e wq ⟨bo, rfl, hCa, hOa⟩
    replace hP := hP.but hCa (But.ofOnly hOa)
    replace hbv := hbv.but (But.ofOnly hOa)
    clear hCa hOa
    cases bo with
    | false =>
      go_wp2_with fail
      have hdr := (Below.refl wq.heap.size wq).drew
      replace hP := hP.on hdr
      replace hbv := hbv.on hdr
      clear hdr
      refine wp_region_held_drew (S := fun W => W.cell? ⟨X, 0, none⟩ = some (.slice (some ⟨gs, 0, none⟩) D.secs.length sc) ∧ W.cell? ⟨X, 1, none⟩ = some (.slice ca D.cache.length cc) ∧ W.cell? ⟨X, 2, none⟩ = some (.int .i64 D.ops) ∧ W.cell? ⟨X, 3, none⟩ = some (.slice fa D.faults.length fc) ∧ W.cell? ⟨X, 4, none⟩ = some (.bool D.down)) (by kernel_rfl) ⟨hP.ms.x.cell 0, hP.ms.x.cell 1, hP.ms.x.cell 2, hP.ms.x.cell 3, hP.ms.x.cell 4⟩ (fun hHeld => ?_)
      refine' wpAnyH_take (i := 0) (v := _) rfl (by kernel_rfl) (by kernel_rfl) (by kernel_rfl) (fun _ _ _ h => h) (Or.inl ⟨by kernel_rfl, ?hra11⟩) (by assumption) ?rra11
      case hra11 => intro W hW; obtain ⟨c0, c1, c2, c3, c4⟩ := hW; go_simp; all_goals with_reducible rfl
      change wpAnyH _ _ _ _ _ _ _ (Act.put _ (some 31) _) _
      simp only [Act.put, List.setIfInBounds_toArray, List.set_cons_zero, List.set_cons_succ]
      refine' wpAnyH_take (i := 1) (v := _) rfl (by kernel_rfl) (by kernel_rfl) (by kernel_rfl) (fun _ _ _ h => h) (Or.inl ⟨by kernel_rfl, ?hra12⟩) (by assumption) ?rra12
      case hra12 => intro W hW; obtain ⟨c0, c1, c2, c3, c4⟩ := hW; go_simp; all_goals with_reducible rfl
      change wpAnyH _ _ _ _ _ _ _ (Act.put _ (some 32) _) _
      simp only [Act.put, List.setIfInBounds_toArray, List.set_cons_zero, List.set_cons_succ]
      refine' wpAnyH_take (i := 3) (v := _) rfl (by kernel_rfl) (by kernel_rfl) (by kernel_rfl) (fun _ _ _ h => h) (Or.inl ⟨by kernel_rfl, ?hra13⟩) (by assumption) ?rra13
      case hra13 => intro W hW; obtain ⟨c0, c1, c2, c3, c4⟩ := hW; go_simp; all_goals with_reducible rfl
      change wpAnyH _ _ _ _ _ _ _ (Act.put _ (some 34) _) _
      simp only [Act.put, List.setIfInBounds_toArray, List.set_cons_zero, List.set_cons_succ]
      refine wpAnyH_ready (rs := [2]) (by kernel_rfl) (by simp) ?_
      refine AllReadyH.cons rfl (fun KK hK => ?_) AllReadyH.nil
      go_simp
      refine (l12N_any g ao n cap f _ hn hP.cur).mono ?_
      rintro e wz ⟨y, rfl, hy0, hy1, hCz, hBz⟩
      replace hP := hP.but hCz hBz
      replace hbv := hbv.but hBz
      clear hHeld hCz hBz
      go_wp2_with fail
      refine hK.out _ _ ⟨hP.ms.x.cell 0, hP.ms.x.cell 1, hP.ms.x.cell 2, hP.ms.x.cell 3, hP.ms.x.cell 4⟩ (fun hHeld => ?_)
      clear hK KK
      try simp only [Act.put, List.setIfInBounds_toArray, List.set_cons_zero, List.set_cons_succ]
      refine wpAnyH_ready (rs := [4]) (by kernel_rfl) (by simp) ?_
      refine AllReadyH.cons rfl (fun KK hK => ?_) AllReadyH.nil
      have e0 : wz.cell? ⟨w.heap.size, 0, none⟩ = some (.slice none 0 0) := hP.r.cell 0
      have z0 := hP.r.fz 0
      have e1 : wz.cell? ⟨w.heap.size, 1, none⟩ = some (.slice none 0 0) := hP.r.cell 1
      have z1 := hP.r.fz 1
      have e2 : wz.cell? ⟨w.heap.size, 2, none⟩ = some (.int .i64 0) := hP.r.cell 2
      have z2 := hP.r.fz 2
      have e3 : wz.cell? ⟨w.heap.size, 3, none⟩ = some (.slice none 0 0) := hP.r.cell 3
      have z3 := hP.r.fz 3
      have e4 : wz.cell? ⟨w.heap.size, 4, none⟩ = some (.bool false) := hP.r.cell 4
      have z4 := hP.r.fz 4
      go_simp
      clear e0 e1 e2 e3 e4 z0 z1 z2 z3 z4
      have hgB := hP.gB
      have hrg := hP.rg
      have hxB := hP.x
      have hr5 := ret5_vn (.slice (some ⟨gs, 0, none⟩) D.secs.length sc) (.slice ca D.cache.length cc) (.int .i64 D.ops) (.slice fa D.faults.length fc) (.bool D.down) hP.r
      have hms := hP.ms.up (Up.five (B := B) (R := w.heap.size) (w := wz) (.slice (some ⟨gs, 0, none⟩) D.secs.length sc) (.slice ca D.cache.length cc) (.int .i64 D.ops) (.slice fa D.faults.length fc) (.bool D.down) (by omega)) hxB
      have hkv := hms.kview hP.ml (by have := hP.few; omega)
      have hku := fun W hu => (hms.up (Up.low (B := w.heap.size) (w' := W) hu (by omega)) hxB).kview hP.ml (by have := hP.few; omega)
      have hbl := ret5_below (.slice (some ⟨gs, 0, none⟩) D.secs.length sc) (.slice ca D.cache.length cc) (.int .i64 D.ops) (.slice fa D.faults.length fc) (.bool D.down) hP.below (Nat.le_refl _)
      have hok := hP.ok
      have hfw := hP.few
      have hbn : bq ≠ w.heap.size := by have := hbv.lo; omega
      have hbq := ((((hbv.set (i := 0) hbn (.slice (some ⟨gs, 0, none⟩) D.secs.length sc)).set (i := 1) hbn (.slice ca D.cache.length cc)).set (i := 2) hbn (.int .i64 D.ops)).set (i := 3) hbn (.slice fa D.faults.length fc)).set (i := 4) hbn (.bool D.down)
      refine hK.out _ _ ⟨hms.x.cell 0, hms.x.cell 1, hms.x.cell 2, hms.x.cell 3, hms.x.cell 4⟩ (fun hHeld => ?_)
      clear hP hms
      clear hK KK
      try simp only [Act.put, List.setIfInBounds_toArray, List.set_cons_zero, List.set_cons_succ]
      refine' wpAnyH_take (i := 5) (v := _) rfl (by kernel_rfl) (by kernel_rfl) (by kernel_rfl) (fun _ _ _ h => h) (Or.inl ⟨by kernel_rfl, ?hra14⟩) (by assumption) ?rra14
      case hra14 => intro W hW; obtain ⟨c0, c1, c2, c3, c4⟩ := hW; go_simp; all_goals with_reducible rfl
      change wpAnyH _ _ _ _ _ _ _ (Act.put _ (some 3) _) _
      simp only [Act.put, List.setIfInBounds_toArray, List.set_cons_zero, List.set_cons_succ]
      refine' wpAnyH_take (i := 6) (v := _) rfl (by kernel_rfl) (by kernel_rfl) (by kernel_rfl) (fun _ _ _ h => h) (Or.inl ⟨by kernel_rfl, ?hra15⟩) (by assumption) ?rra15
      case hra15 => intro W hW; obtain ⟨c0, c1, c2, c3, c4⟩ := hW; go_simp; all_goals with_reducible rfl
      change wpAnyH _ _ _ _ _ _ _ (Act.put _ (some 4) _) _
      simp only [Act.put, List.setIfInBounds_toArray, List.set_cons_zero, List.set_cons_succ]
      refine wpAnyH_done (by kernel_rfl) ?_ _
      have HF : Hid _ := And.intro hkv (And.intro hok (And.intro hfw (And.intro hbq.view (And.intro hmq (And.intro hbl hku)))))
      have m0 := hr5.cell 0
      have m1 := hr5.cell 1
      have m2 := hr5.cell 2
      have m3 := hr5.cell 3
      have m4 := hr5.cell 4
      simp only [List.getElem?_cons_zero, List.getElem?_cons_succ] at m0 m1 m2 m3 m4
      have HM : Hid _ := And.intro m0 (And.intro m1 (And.intro m2 (And.intro m3 m4)))
      clear hkv hok hbl hku hr5 hHeld hbv hbq hfw hmq m0 m1 m2 m3 m4
      go_wp2
      obtain ⟨m0, m1, m2, m3, m4⟩ := HM.out
      exact bodyPost_ret (v := .tuple #[.agg #[.slice (some ⟨gs, 0, none⟩) D.secs.length sc, .slice ca D.cache.length cc, .int .i64 D.ops, .slice fa D.faults.length fc, .bool D.down], .int .i64 y, .slice (some ⟨bq, 0, none⟩) mq cq]) (by simp [results, Try.results20, go_sem, m0, m1, m2, m3, m4]) rfl ⟨_, D, y, bq, mq, cq, Fq, rfl, HF.out.1, HF.out.2.1, HF.out.2.2.1, HF.out.2.2.2.1, HF.out.2.2.2.2.1, HF.out.2.2.2.2.2⟩
    | true =>
      go_wp2_with fail
      have hdr := (Below.refl wq.heap.size wq).drew
      replace hP := hP.on hdr
      replace hbv := hbv.on hdr
      clear hdr
      refine wp_region_held_drew (S := fun W => W.cell? ⟨X, 2, none⟩ = some (.int .i64 D.ops)) (by kernel_rfl) (hP.ms.x.cell 2) (fun hHeld => ?_)
      have hbqX : bq ≠ X := by have := hbv.lt; have := hP.x; exact hbxx.out
      refine' wpAnyH_take (i := 0) (v := _) rfl (by kernel_rfl) (by kernel_rfl) (by kernel_rfl) (fun _ _ _ h => h) (Or.inl ⟨by kernel_rfl, ?hrb11⟩) (by assumption) ?rrb11
      case hrb11 => intro W hW; go_simp; all_goals with_reducible rfl
      change wpAnyH _ _ _ _ _ _ _ (Act.put _ (some 22) _) _
      simp only [Act.put, List.setIfInBounds_toArray, List.set_cons_zero, List.set_cons_succ]
      refine' wpAnyH_take (i := 1) (v := _) rfl (by kernel_rfl) (by kernel_rfl) (by kernel_rfl) (fun _ _ _ h => h) (Or.inl ⟨by kernel_rfl, ?hrb12⟩) (by assumption) ?rrb12
      case hrb12 => intro W hW; go_simp; all_goals with_reducible rfl
      change wpAnyH _ _ _ _ _ _ _ (Act.put _ (some 23) _) _
      simp only [Act.put, List.setIfInBounds_toArray, List.set_cons_zero, List.set_cons_succ]
      refine' wpAnyH_take (i := 2) (v := _) rfl (by kernel_rfl) (by kernel_rfl) (by kernel_rfl) (fun _ _ _ h => h) (Or.inl ⟨by kernel_rfl, ?hrb13⟩) (by assumption) ?rrb13
      case hrb13 => intro W hW; go_simp; all_goals with_reducible rfl
      change wpAnyH _ _ _ _ _ _ _ (Act.put _ (some 24) _) _
      simp only [Act.put, List.setIfInBounds_toArray, List.set_cons_zero, List.set_cons_succ]
      refine' wpAnyH_take (i := 4) (v := _) rfl (by kernel_rfl) (by kernel_rfl) (by kernel_rfl) (fun _ _ _ h => h) (Or.inl ⟨by kernel_rfl, ?hrb14⟩) (by assumption) ?rrb14
      case hrb14 => intro W hW; go_simp; all_goals with_reducible rfl
      change wpAnyH _ _ _ _ _ _ _ (Act.put _ (some 26) _) _
      simp only [Act.put, List.setIfInBounds_toArray, List.set_cons_zero, List.set_cons_succ]
      refine wpAnyH_ready (rs := [3]) (by kernel_rfl) (by simp) ?_
      refine AllReadyH.cons rfl (fun KK hK => ?_) AllReadyH.nil
      go_simp
      refine (l1Below_any g ao n cap f 64 _ hn (by omega) (by omega) hP.cur).mono ?_
      rintro e wz1 ⟨z1, rfl, -, -, hCz, hOz⟩
      replace hP := hP.but hCz (But.ofOnly hOz)
      replace hbv := hbv.but (But.ofOnly hOz)
      clear hHeld hCz hOz
      go_wp2_with fail
      refine hK.out _ _ (hP.ms.x.cell 2) (fun hHeld => ?_)
      clear hK KK
      try simp only [Act.put, List.setIfInBounds_toArray, List.set_cons_zero, List.set_cons_succ]
      refine wpAnyH_ready (rs := [5]) (by kernel_rfl) (by simp) ?_
      refine AllReadyH.cons rfl (fun KK hK => ?_) AllReadyH.nil
      go_simp
      refine (l1Below_any g ao n cap f 6 _ hn (by omega) (by omega) hP.cur).mono ?_
      rintro e wz2 ⟨z2, rfl, -, -, hCz, hOz⟩
      replace hP := hP.but hCz (But.ofOnly hOz)
      replace hbv := hbv.but (But.ofOnly hOz)
      clear hHeld hCz hOz
      go_wp2_with fail
      refine hK.out _ _ (hP.ms.x.cell 2) (fun hHeld => ?_)
      clear hK KK
      try simp only [Act.put, List.setIfInBounds_toArray, List.set_cons_zero, List.set_cons_succ]
      refine' wpAnyH_take (i := 6) (v := _) rfl (by kernel_rfl) (by kernel_rfl) (by kernel_rfl) (fun _ _ _ h => h) (Or.inl ⟨by kernel_rfl, ?hrb15⟩) (by assumption) ?rrb15
      case hrb15 => intro W hW; go_simp; all_goals with_reducible rfl
      change wpAnyH _ _ _ _ _ _ _ (Act.put _ (some 28) _) _
      simp only [Act.put, List.setIfInBounds_toArray, List.set_cons_zero, List.set_cons_succ]
      refine wpAnyH_ready (rs := [7]) (by kernel_rfl) (by simp) ?_
      refine AllReadyH.cons rfl (fun KK hK => ?_) AllReadyH.nil
      go_simp
      have hbA : Below wz2.heap.size wz2 (wz2.alloc (.cells #[.int .i64 D.ops, .int .i64 z1, .int .i64 z2] 79)) := (Below.refl _ _).alloc (Nat.le_refl _) _
      have hPA := hP.on hbA
      have hPF := hP.fault D.ops z1 z2
      replace hbv := hbv.on hbA
      have hbx : bq ≠ X := hbqX
      have hbv9 := hbv.set (i := 3) hbx (.slice (some ⟨wz2.heap.size, 0, none⟩) 1 1)
      clear hbA hbv hP hHeld
      refine hK.out _ _ (hPA.ms.x.cell 2) (fun hHeld => ?_)
      clear hK KK
      try simp only [Act.put, List.setIfInBounds_toArray, List.set_cons_zero, List.set_cons_succ]
      refine' wpAnyH_take (i := 8) (v := _) rfl (by kernel_rfl) (by kernel_rfl) (by kernel_rfl) (fun _ _ _ h => h) (Or.inl ⟨by kernel_rfl, ?hrb16⟩) (by assumption) ?rrb16
      case hrb16 => intro W hW; go_simp; all_goals with_reducible rfl
      change wpAnyH _ _ _ _ _ _ _ (Act.put _ (some 30) _) _
      simp only [Act.put, List.setIfInBounds_toArray, List.set_cons_zero, List.set_cons_succ]
      refine wpAnyH_ready (rs := [9]) (by kernel_rfl) (by simp) ?_
      refine AllReadyH.cons rfl (fun KK hK => ?_) AllReadyH.nil
      have x3 : (wz2.alloc (.cells #[.int .i64 D.ops, .int .i64 z1, .int .i64 z2] 79)).cell? ⟨X, 3, none⟩ = some (.slice fa D.faults.length fc) := hPA.ms.x.cell 3
      have z3 := hPA.ms.x.fz 3
      go_simp
      clear x3 z3
      refine hK.out _ _ (hPF.ms.x.cell 2) (fun hHeld => ?_)
      clear hK KK
      try simp only [Act.put, List.setIfInBounds_toArray, List.set_cons_zero, List.set_cons_succ]
      refine wpAnyH_done (by kernel_rfl) ?_ _
      clear hHeld hPA
      obtain ⟨Aq, hAq⟩ : ∃ x, Hid (wz2.heap.size = x) := ⟨_, rfl⟩
      obtain ⟨wq9, hwq9⟩ : ∃ x, Hid ((wz2.alloc (.cells #[.int .i64 D.ops, .int .i64 z1, .int .i64 z2] 79)).setCell ⟨X, 3, none⟩ (.slice (some ⟨wz2.heap.size, 0, none⟩) 1 1) = x) := ⟨_, rfl⟩
      rw [hwq9.out] at hPF hbv9 ⊢
      rw [hAq.out] at hPF
      obtain ⟨D2, hD2⟩ : ∃ x, Hid (({ D with faults := [⟨D.ops, z1, z2⟩] } : PDisk) = x) := ⟨_, rfl⟩
      rw [hD2.out] at hPF
      have hP := hPF
      have hbv := hbv9
      clear hPF hbv9 hwq9 hAq hD2 hbqX
      go_wp2_with fail
      have hdr := (Below.refl wq9.heap.size wq9).drew
      replace hP := hP.on hdr
      replace hbv := hbv.on hdr
      clear hdr
      refine wp_region_held_drew (S := fun W => W.cell? ⟨X, 0, none⟩ = some (.slice (some ⟨gs, 0, none⟩) D2.secs.length sc) ∧ W.cell? ⟨X, 1, none⟩ = some (.slice ca D2.cache.length cc) ∧ W.cell? ⟨X, 2, none⟩ = some (.int .i64 D2.ops) ∧ W.cell? ⟨X, 3, none⟩ = some (.slice (some ⟨Aq, 0, none⟩) D2.faults.length 1) ∧ W.cell? ⟨X, 4, none⟩ = some (.bool D2.down)) (by kernel_rfl) ⟨hP.ms.x.cell 0, hP.ms.x.cell 1, hP.ms.x.cell 2, hP.ms.x.cell 3, hP.ms.x.cell 4⟩ (fun hHeld => ?_)
      refine' wpAnyH_take (i := 0) (v := _) rfl (by kernel_rfl) (by kernel_rfl) (by kernel_rfl) (fun _ _ _ h => h) (Or.inl ⟨by kernel_rfl, ?hrc11⟩) (by assumption) ?rrc11
      case hrc11 => intro W hW; obtain ⟨c0, c1, c2, c3, c4⟩ := hW; go_simp; all_goals with_reducible rfl
      change wpAnyH _ _ _ _ _ _ _ (Act.put _ (some 31) _) _
      simp only [Act.put, List.setIfInBounds_toArray, List.set_cons_zero, List.set_cons_succ]
      refine' wpAnyH_take (i := 1) (v := _) rfl (by kernel_rfl) (by kernel_rfl) (by kernel_rfl) (fun _ _ _ h => h) (Or.inl ⟨by kernel_rfl, ?hrc12⟩) (by assumption) ?rrc12
      case hrc12 => intro W hW; obtain ⟨c0, c1, c2, c3, c4⟩ := hW; go_simp; all_goals with_reducible rfl
      change wpAnyH _ _ _ _ _ _ _ (Act.put _ (some 32) _) _
      simp only [Act.put, List.setIfInBounds_toArray, List.set_cons_zero, List.set_cons_succ]
      refine' wpAnyH_take (i := 3) (v := _) rfl (by kernel_rfl) (by kernel_rfl) (by kernel_rfl) (fun _ _ _ h => h) (Or.inl ⟨by kernel_rfl, ?hrc13⟩) (by assumption) ?rrc13
      case hrc13 => intro W hW; obtain ⟨c0, c1, c2, c3, c4⟩ := hW; go_simp; all_goals with_reducible rfl
      change wpAnyH _ _ _ _ _ _ _ (Act.put _ (some 34) _) _
      simp only [Act.put, List.setIfInBounds_toArray, List.set_cons_zero, List.set_cons_succ]
      refine wpAnyH_ready (rs := [2]) (by kernel_rfl) (by simp) ?_
      refine AllReadyH.cons rfl (fun KK hK => ?_) AllReadyH.nil
      go_simp
      refine (l12N_any g ao n cap f _ hn hP.cur).mono ?_
      rintro e wz ⟨y, rfl, hy0, hy1, hCz, hBz⟩
      replace hP := hP.but hCz hBz
      replace hbv := hbv.but hBz
      clear hHeld hCz hBz
      go_wp2_with fail
      refine hK.out _ _ ⟨hP.ms.x.cell 0, hP.ms.x.cell 1, hP.ms.x.cell 2, hP.ms.x.cell 3, hP.ms.x.cell 4⟩ (fun hHeld => ?_)
      clear hK KK
      try simp only [Act.put, List.setIfInBounds_toArray, List.set_cons_zero, List.set_cons_succ]
      refine wpAnyH_ready (rs := [4]) (by kernel_rfl) (by simp) ?_
      refine AllReadyH.cons rfl (fun KK hK => ?_) AllReadyH.nil
      have e0 : wz.cell? ⟨w.heap.size, 0, none⟩ = some (.slice none 0 0) := hP.r.cell 0
      have z0 := hP.r.fz 0
      have e1 : wz.cell? ⟨w.heap.size, 1, none⟩ = some (.slice none 0 0) := hP.r.cell 1
      have z1 := hP.r.fz 1
      have e2 : wz.cell? ⟨w.heap.size, 2, none⟩ = some (.int .i64 0) := hP.r.cell 2
      have z2 := hP.r.fz 2
      have e3 : wz.cell? ⟨w.heap.size, 3, none⟩ = some (.slice none 0 0) := hP.r.cell 3
      have z3 := hP.r.fz 3
      have e4 : wz.cell? ⟨w.heap.size, 4, none⟩ = some (.bool false) := hP.r.cell 4
      have z4 := hP.r.fz 4
      go_simp
      clear e0 e1 e2 e3 e4 z0 z1 z2 z3 z4
      have hgB := hP.gB
      have hrg := hP.rg
      have hxB := hP.x
      have hr5 := ret5_vn (.slice (some ⟨gs, 0, none⟩) D2.secs.length sc) (.slice ca D2.cache.length cc) (.int .i64 D2.ops) (.slice (some ⟨Aq, 0, none⟩) D2.faults.length 1) (.bool D2.down) hP.r
      have hms := hP.ms.up (Up.five (B := B) (R := w.heap.size) (w := wz) (.slice (some ⟨gs, 0, none⟩) D2.secs.length sc) (.slice ca D2.cache.length cc) (.int .i64 D2.ops) (.slice (some ⟨Aq, 0, none⟩) D2.faults.length 1) (.bool D2.down) (by omega)) hxB
      have hkv := hms.kview hP.ml (by have := hP.few; omega)
      have hku := fun W hu => (hms.up (Up.low (B := w.heap.size) (w' := W) hu (by omega)) hxB).kview hP.ml (by have := hP.few; omega)
      have hbl := ret5_below (.slice (some ⟨gs, 0, none⟩) D2.secs.length sc) (.slice ca D2.cache.length cc) (.int .i64 D2.ops) (.slice (some ⟨Aq, 0, none⟩) D2.faults.length 1) (.bool D2.down) hP.below (Nat.le_refl _)
      have hok := hP.ok
      have hfw := hP.few
      have hbn : bq ≠ w.heap.size := by have := hbv.lo; omega
      have hbq := ((((hbv.set (i := 0) hbn (.slice (some ⟨gs, 0, none⟩) D2.secs.length sc)).set (i := 1) hbn (.slice ca D2.cache.length cc)).set (i := 2) hbn (.int .i64 D2.ops)).set (i := 3) hbn (.slice (some ⟨Aq, 0, none⟩) D2.faults.length 1)).set (i := 4) hbn (.bool D2.down)
      refine hK.out _ _ ⟨hms.x.cell 0, hms.x.cell 1, hms.x.cell 2, hms.x.cell 3, hms.x.cell 4⟩ (fun hHeld => ?_)
      clear hP hms
      clear hK KK
      try simp only [Act.put, List.setIfInBounds_toArray, List.set_cons_zero, List.set_cons_succ]
      refine' wpAnyH_take (i := 5) (v := _) rfl (by kernel_rfl) (by kernel_rfl) (by kernel_rfl) (fun _ _ _ h => h) (Or.inl ⟨by kernel_rfl, ?hrc14⟩) (by assumption) ?rrc14
      case hrc14 => intro W hW; obtain ⟨c0, c1, c2, c3, c4⟩ := hW; go_simp; all_goals with_reducible rfl
      change wpAnyH _ _ _ _ _ _ _ (Act.put _ (some 3) _) _
      simp only [Act.put, List.setIfInBounds_toArray, List.set_cons_zero, List.set_cons_succ]
      refine' wpAnyH_take (i := 6) (v := _) rfl (by kernel_rfl) (by kernel_rfl) (by kernel_rfl) (fun _ _ _ h => h) (Or.inl ⟨by kernel_rfl, ?hrc15⟩) (by assumption) ?rrc15
      case hrc15 => intro W hW; obtain ⟨c0, c1, c2, c3, c4⟩ := hW; go_simp; all_goals with_reducible rfl
      change wpAnyH _ _ _ _ _ _ _ (Act.put _ (some 4) _) _
      simp only [Act.put, List.setIfInBounds_toArray, List.set_cons_zero, List.set_cons_succ]
      refine wpAnyH_done (by kernel_rfl) ?_ _
      have HF : Hid _ := And.intro hkv (And.intro hok (And.intro hfw (And.intro hbq.view (And.intro hmq (And.intro hbl hku)))))
      have m0 := hr5.cell 0
      have m1 := hr5.cell 1
      have m2 := hr5.cell 2
      have m3 := hr5.cell 3
      have m4 := hr5.cell 4
      simp only [List.getElem?_cons_zero, List.getElem?_cons_succ] at m0 m1 m2 m3 m4
      have HM : Hid _ := And.intro m0 (And.intro m1 (And.intro m2 (And.intro m3 m4)))
      clear hkv hok hbl hku hr5 hHeld hbv hbq hfw hmq m0 m1 m2 m3 m4
      go_wp2
      obtain ⟨m0, m1, m2, m3, m4⟩ := HM.out
      exact bodyPost_ret (v := .tuple #[.agg #[.slice (some ⟨gs, 0, none⟩) D2.secs.length sc, .slice ca D2.cache.length cc, .int .i64 D2.ops, .slice (some ⟨Aq, 0, none⟩) D2.faults.length 1, .bool D2.down], .int .i64 y, .slice (some ⟨bq, 0, none⟩) mq cq]) (by simp [results, Try.results20, go_sem, m0, m1, m2, m3, m4]) rfl ⟨_, D2, y, bq, mq, cq, Fq, rfl, HF.out.1, HF.out.2.1, HF.out.2.2.1, HF.out.2.2.2.1, HF.out.2.2.2.2.1, HF.out.2.2.2.2.2⟩
  | true =>
    go_wp2_with fail
    refine (l1Below_any g ao n cap f 2 w3 hn (by omega) (by omega) hC).mono ?_
    rintro e w9 ⟨z, rfl, hz0, hz1, hC9, hO9⟩
    have hbb : But g w3 w9 := But.ofOnly hO9
    replace hbv := hbv.but hbb
    replace hV := hV.block (hbb.block _ hV.lt (by omega))
    replace hB := hB.trans (⟨hbb.os, hbb.tape, hbb.output, hbb.size, fun k hk => hbb.block k (by have := hB.size; omega) (by omega)⟩ : Below w.heap.size _ _)
    clear hbb hO9 hC hm6
    have hC := hC9
    clear hC9
    obtain ⟨q, rfl⟩ := Int.eq_ofNat_of_zero_le hz0
    obtain ⟨N, hN⟩ : ∃ N : Nat, (256 : Int) + (q : Int) = (N : Int) := ⟨256 + q, by push_cast; rfl⟩
    have hmq : N ≤ 257 := by omega
    have hmk' := hmk N (by omega) (by omega)
    have hwr : IntKind.i64.wrap ((256 : Int) + (q : Int)) = (N : Int) := by rw [IntKind.wrap_i64]; omega
    have hwN : IntKind.i64.wrap (N : Int) = (N : Int) := by rw [IntKind.wrap_i64]; omega
    have hbA : Below w9.heap.size w9 (w9.alloc (.cells (madeCells #[.int .u8 0] N) 5)) := (Below.refl _ _).alloc (Nat.le_refl _) _
    have hr : Row 5 (w9.alloc (.cells (madeCells #[.int .u8 0] N) 5)) w9.heap.size N (fun _ => 0) := Row.ofIs (World.rowIs_made w9 _ _ _)
    have hbv9 : BV w g w9.heap.size N N (fun _ => 0) (w9.alloc (.cells (madeCells #[.int .u8 0] N) 5)) := ⟨hr.view (Nat.le_refl _) (fun _ _ => by omega), by simp, by have := hbv.lt; have := hbv.lo; omega, by have := hC.lt; omega⟩
    replace hC := hC.below hbA
    replace hV := hV.below hbA
    replace hB := hB.trans (hbA.mono hB.size)
    clear hbv hbA hr hmk hz0 hz1
    have hbv := hbv9
    clear hbv9
    obtain ⟨w4, hw4⟩ : ∃ x, Hid ((w9.alloc (.cells (madeCells #[.int .u8 0] N) 5)) = x) := ⟨_, rfl⟩
    obtain ⟨bq, hbq⟩ : ∃ x, Hid (w9.heap.size = x) := ⟨_, rfl⟩
    obtain ⟨Fq, hFq⟩ : ∃ x : Nat → Int, Hid ((fun _ => 0) = x) := ⟨_, rfl⟩
    rw [hw4.out] at hC hV hB hbv
    rw [hbq.out, hFq.out] at hbv
    go_wp2_with fail
    rw [hw4.out, hbq.out]
    clear hw4 hbq hFq hmk' hwr hwN hN
    obtain ⟨mq, hmqe⟩ : ∃ x, Hid (N = x) := ⟨_, rfl⟩
    obtain ⟨cq, hcq⟩ : ∃ x : Nat, x = mq := ⟨_, rfl⟩
    rw [hmqe.out] at hbv hmq ⊢
    clear hmqe
    go_wp2_with fail
    refine (l12Any_any g ao n cap f w4 hn hC).mono ?_
    rintro e w5 ⟨D, B, X0, gs, sc, ca, cc, fa, fc, ss, cs, rfl, hM, hl, hok, hfewD, hR, hB4, hX0⟩
    have hgl4 := hC.lt
    replace hbv := hbv.but hR.but
    have hbl5 : Hid (bq < w5.heap.size) := hbv.lt
    unfold dval
    have hbX : Below w5.heap.size w5 (w5.alloc (.cells #[.slice (some ⟨gs, 0, none⟩) D.secs.length sc, .slice ca D.cache.length cc, .int .i64 D.ops, .slice fa D.faults.length fc, .bool D.down] 32)) := (Below.refl _ _).alloc (Nat.le_refl _) _
    have hX := VN.new w5 32 [.slice (some ⟨gs, 0, none⟩) D.secs.length sc, .slice ca D.cache.length cc, .int .i64 D.ops, .slice fa D.faults.length fc, .bool D.down]
    have hM2 := hM.on hbX
    have hxl := hM.x.lt
    have hBw2 : B ≤ w5.heap.size := by omega
    have hP : PB w g ao n cap f B w5.heap.size gs sc fa fc D ca cc ss cs (w5.alloc (.cells #[.slice (some ⟨gs, 0, none⟩) D.secs.length sc, .slice ca D.cache.length cc, .int .i64 D.ops, .slice fa D.faults.length fc, .bool D.down] 32)) :=
      ⟨⟨hX, hM2.secs, hM2.ns, hM2.len, hM2.ob, hM2.own, hM2.nc, hM2.cb, hM2.fown⟩, hl, hok, hfewD, (hV.block (hR.but.block _ hV.lt (by omega))).below hbX, hR.cur.below hbX, (hB.trans ⟨hR.but.os, hR.but.tape, hR.but.output, hR.but.size, fun k hk => hR.but.block k (by have := hB.size; omega) (by omega)⟩).trans (hbX.mono (by have := hB.size; have := hR.but.size; omega)), hgs, by omega, HC.out, Nat.le_trans hBw2 hbX.size, hBw2⟩
    replace hbv := hbv.on hbX
    clear hX hM2 hM hV hR hbX hok hC hB hl HC hfewD
    have hbxx : Hid (bq ≠ w5.heap.size) := by show _ ≠ _; have := hbl5.out; omega
    obtain ⟨X, hXe⟩ := hidEx w5.heap.size
    obtain ⟨W6, hW6⟩ : ∃ z, Hid ((w5.alloc (.cells #[.slice (some ⟨gs, 0, none⟩) D.secs.length sc, .slice ca D.cache.length cc, .int .i64 D.ops, .slice fa D.faults.length fc, .bool D.down] 32)) = z) := ⟨_, rfl⟩
    rw [hXe.out, hW6.out] at hP
    rw [hXe.out] at hbxx
    rw [hW6.out] at hbv
    clear hxl hBw2 hX0 hB4 hgl4
    go_wp2_with (rw [hW6.out])
    rw [hXe.out]
    clear hXe hW6
    refine (l1Once_any g ao n cap f 3 W6 hn (by omega) (by omega) hP.cur).mono ?_
    rintro e wq ⟨bo, rfl, hCa, hOa⟩
    replace hP := hP.but hCa (But.ofOnly hOa)
    replace hbv := hbv.but (But.ofOnly hOa)
    clear hCa hOa
    cases bo with
    | false =>
      go_wp2_with fail
      have hdr := (Below.refl wq.heap.size wq).drew
      replace hP := hP.on hdr
      replace hbv := hbv.on hdr
      clear hdr
      refine wp_region_held_drew (S := fun W => W.cell? ⟨X, 0, none⟩ = some (.slice (some ⟨gs, 0, none⟩) D.secs.length sc) ∧ W.cell? ⟨X, 1, none⟩ = some (.slice ca D.cache.length cc) ∧ W.cell? ⟨X, 2, none⟩ = some (.int .i64 D.ops) ∧ W.cell? ⟨X, 3, none⟩ = some (.slice fa D.faults.length fc) ∧ W.cell? ⟨X, 4, none⟩ = some (.bool D.down)) (by kernel_rfl) ⟨hP.ms.x.cell 0, hP.ms.x.cell 1, hP.ms.x.cell 2, hP.ms.x.cell 3, hP.ms.x.cell 4⟩ (fun hHeld => ?_)
      refine' wpAnyH_take (i := 0) (v := _) rfl (by kernel_rfl) (by kernel_rfl) (by kernel_rfl) (fun _ _ _ h => h) (Or.inl ⟨by kernel_rfl, ?hra21⟩) (by assumption) ?rra21
      case hra21 => intro W hW; obtain ⟨c0, c1, c2, c3, c4⟩ := hW; go_simp; all_goals with_reducible rfl
      change wpAnyH _ _ _ _ _ _ _ (Act.put _ (some 31) _) _
      simp only [Act.put, List.setIfInBounds_toArray, List.set_cons_zero, List.set_cons_succ]
      refine' wpAnyH_take (i := 1) (v := _) rfl (by kernel_rfl) (by kernel_rfl) (by kernel_rfl) (fun _ _ _ h => h) (Or.inl ⟨by kernel_rfl, ?hra22⟩) (by assumption) ?rra22
      case hra22 => intro W hW; obtain ⟨c0, c1, c2, c3, c4⟩ := hW; go_simp; all_goals with_reducible rfl
      change wpAnyH _ _ _ _ _ _ _ (Act.put _ (some 32) _) _
      simp only [Act.put, List.setIfInBounds_toArray, List.set_cons_zero, List.set_cons_succ]
      refine' wpAnyH_take (i := 3) (v := _) rfl (by kernel_rfl) (by kernel_rfl) (by kernel_rfl) (fun _ _ _ h => h) (Or.inl ⟨by kernel_rfl, ?hra23⟩) (by assumption) ?rra23
      case hra23 => intro W hW; obtain ⟨c0, c1, c2, c3, c4⟩ := hW; go_simp; all_goals with_reducible rfl
      change wpAnyH _ _ _ _ _ _ _ (Act.put _ (some 34) _) _
      simp only [Act.put, List.setIfInBounds_toArray, List.set_cons_zero, List.set_cons_succ]
      refine wpAnyH_ready (rs := [2]) (by kernel_rfl) (by simp) ?_
      refine AllReadyH.cons rfl (fun KK hK => ?_) AllReadyH.nil
      go_simp
      refine (l12N_any g ao n cap f _ hn hP.cur).mono ?_
      rintro e wz ⟨y, rfl, hy0, hy1, hCz, hBz⟩
      replace hP := hP.but hCz hBz
      replace hbv := hbv.but hBz
      clear hHeld hCz hBz
      go_wp2_with fail
      refine hK.out _ _ ⟨hP.ms.x.cell 0, hP.ms.x.cell 1, hP.ms.x.cell 2, hP.ms.x.cell 3, hP.ms.x.cell 4⟩ (fun hHeld => ?_)
      clear hK KK
      try simp only [Act.put, List.setIfInBounds_toArray, List.set_cons_zero, List.set_cons_succ]
      refine wpAnyH_ready (rs := [4]) (by kernel_rfl) (by simp) ?_
      refine AllReadyH.cons rfl (fun KK hK => ?_) AllReadyH.nil
      have e0 : wz.cell? ⟨w.heap.size, 0, none⟩ = some (.slice none 0 0) := hP.r.cell 0
      have z0 := hP.r.fz 0
      have e1 : wz.cell? ⟨w.heap.size, 1, none⟩ = some (.slice none 0 0) := hP.r.cell 1
      have z1 := hP.r.fz 1
      have e2 : wz.cell? ⟨w.heap.size, 2, none⟩ = some (.int .i64 0) := hP.r.cell 2
      have z2 := hP.r.fz 2
      have e3 : wz.cell? ⟨w.heap.size, 3, none⟩ = some (.slice none 0 0) := hP.r.cell 3
      have z3 := hP.r.fz 3
      have e4 : wz.cell? ⟨w.heap.size, 4, none⟩ = some (.bool false) := hP.r.cell 4
      have z4 := hP.r.fz 4
      go_simp
      clear e0 e1 e2 e3 e4 z0 z1 z2 z3 z4
      have hgB := hP.gB
      have hrg := hP.rg
      have hxB := hP.x
      have hr5 := ret5_vn (.slice (some ⟨gs, 0, none⟩) D.secs.length sc) (.slice ca D.cache.length cc) (.int .i64 D.ops) (.slice fa D.faults.length fc) (.bool D.down) hP.r
      have hms := hP.ms.up (Up.five (B := B) (R := w.heap.size) (w := wz) (.slice (some ⟨gs, 0, none⟩) D.secs.length sc) (.slice ca D.cache.length cc) (.int .i64 D.ops) (.slice fa D.faults.length fc) (.bool D.down) (by omega)) hxB
      have hkv := hms.kview hP.ml (by have := hP.few; omega)
      have hku := fun W hu => (hms.up (Up.low (B := w.heap.size) (w' := W) hu (by omega)) hxB).kview hP.ml (by have := hP.few; omega)
      have hbl := ret5_below (.slice (some ⟨gs, 0, none⟩) D.secs.length sc) (.slice ca D.cache.length cc) (.int .i64 D.ops) (.slice fa D.faults.length fc) (.bool D.down) hP.below (Nat.le_refl _)
      have hok := hP.ok
      have hfw := hP.few
      have hbn : bq ≠ w.heap.size := by have := hbv.lo; omega
      have hbq := ((((hbv.set (i := 0) hbn (.slice (some ⟨gs, 0, none⟩) D.secs.length sc)).set (i := 1) hbn (.slice ca D.cache.length cc)).set (i := 2) hbn (.int .i64 D.ops)).set (i := 3) hbn (.slice fa D.faults.length fc)).set (i := 4) hbn (.bool D.down)
      refine hK.out _ _ ⟨hms.x.cell 0, hms.x.cell 1, hms.x.cell 2, hms.x.cell 3, hms.x.cell 4⟩ (fun hHeld => ?_)
      clear hP hms
      clear hK KK
      try simp only [Act.put, List.setIfInBounds_toArray, List.set_cons_zero, List.set_cons_succ]
      refine' wpAnyH_take (i := 5) (v := _) rfl (by kernel_rfl) (by kernel_rfl) (by kernel_rfl) (fun _ _ _ h => h) (Or.inl ⟨by kernel_rfl, ?hra24⟩) (by assumption) ?rra24
      case hra24 => intro W hW; obtain ⟨c0, c1, c2, c3, c4⟩ := hW; go_simp; all_goals with_reducible rfl
      change wpAnyH _ _ _ _ _ _ _ (Act.put _ (some 3) _) _
      simp only [Act.put, List.setIfInBounds_toArray, List.set_cons_zero, List.set_cons_succ]
      refine' wpAnyH_take (i := 6) (v := _) rfl (by kernel_rfl) (by kernel_rfl) (by kernel_rfl) (fun _ _ _ h => h) (Or.inl ⟨by kernel_rfl, ?hra25⟩) (by assumption) ?rra25
      case hra25 => intro W hW; obtain ⟨c0, c1, c2, c3, c4⟩ := hW; go_simp; all_goals with_reducible rfl
      change wpAnyH _ _ _ _ _ _ _ (Act.put _ (some 4) _) _
      simp only [Act.put, List.setIfInBounds_toArray, List.set_cons_zero, List.set_cons_succ]
      refine wpAnyH_done (by kernel_rfl) ?_ _
      have HF : Hid _ := And.intro hkv (And.intro hok (And.intro hfw (And.intro hbq.view (And.intro hmq (And.intro hbl hku)))))
      have m0 := hr5.cell 0
      have m1 := hr5.cell 1
      have m2 := hr5.cell 2
      have m3 := hr5.cell 3
      have m4 := hr5.cell 4
      simp only [List.getElem?_cons_zero, List.getElem?_cons_succ] at m0 m1 m2 m3 m4
      have HM : Hid _ := And.intro m0 (And.intro m1 (And.intro m2 (And.intro m3 m4)))
      clear hkv hok hbl hku hr5 hHeld hbv hbq hfw hmq m0 m1 m2 m3 m4
      go_wp2
      obtain ⟨m0, m1, m2, m3, m4⟩ := HM.out
      exact bodyPost_ret (v := .tuple #[.agg #[.slice (some ⟨gs, 0, none⟩) D.secs.length sc, .slice ca D.cache.length cc, .int .i64 D.ops, .slice fa D.faults.length fc, .bool D.down], .int .i64 y, .slice (some ⟨bq, 0, none⟩) mq mq]) (by simp [results, Try.results20, go_sem, m0, m1, m2, m3, m4]) rfl ⟨_, D, y, bq, mq, mq, Fq, rfl, HF.out.1, HF.out.2.1, HF.out.2.2.1, HF.out.2.2.2.1, HF.out.2.2.2.2.1, HF.out.2.2.2.2.2⟩
    | true =>
      go_wp2_with fail
      have hdr := (Below.refl wq.heap.size wq).drew
      replace hP := hP.on hdr
      replace hbv := hbv.on hdr
      clear hdr
      refine wp_region_held_drew (S := fun W => W.cell? ⟨X, 2, none⟩ = some (.int .i64 D.ops)) (by kernel_rfl) (hP.ms.x.cell 2) (fun hHeld => ?_)
      have hbqX : bq ≠ X := by have := hbv.lt; have := hP.x; exact hbxx.out
      refine' wpAnyH_take (i := 0) (v := _) rfl (by kernel_rfl) (by kernel_rfl) (by kernel_rfl) (fun _ _ _ h => h) (Or.inl ⟨by kernel_rfl, ?hrb21⟩) (by assumption) ?rrb21
      case hrb21 => intro W hW; go_simp; all_goals with_reducible rfl
      change wpAnyH _ _ _ _ _ _ _ (Act.put _ (some 22) _) _
      simp only [Act.put, List.setIfInBounds_toArray, List.set_cons_zero, List.set_cons_succ]
      refine' wpAnyH_take (i := 1) (v := _) rfl (by kernel_rfl) (by kernel_rfl) (by kernel_rfl) (fun _ _ _ h => h) (Or.inl ⟨by kernel_rfl, ?hrb22⟩) (by assumption) ?rrb22
      case hrb22 => intro W hW; go_simp; all_goals with_reducible rfl
      change wpAnyH _ _ _ _ _ _ _ (Act.put _ (some 23) _) _
      simp only [Act.put, List.setIfInBounds_toArray, List.set_cons_zero, List.set_cons_succ]
      refine' wpAnyH_take (i := 2) (v := _) rfl (by kernel_rfl) (by kernel_rfl) (by kernel_rfl) (fun _ _ _ h => h) (Or.inl ⟨by kernel_rfl, ?hrb23⟩) (by assumption) ?rrb23
      case hrb23 => intro W hW; go_simp; all_goals with_reducible rfl
      change wpAnyH _ _ _ _ _ _ _ (Act.put _ (some 24) _) _
      simp only [Act.put, List.setIfInBounds_toArray, List.set_cons_zero, List.set_cons_succ]
      refine' wpAnyH_take (i := 4) (v := _) rfl (by kernel_rfl) (by kernel_rfl) (by kernel_rfl) (fun _ _ _ h => h) (Or.inl ⟨by kernel_rfl, ?hrb24⟩) (by assumption) ?rrb24
      case hrb24 => intro W hW; go_simp; all_goals with_reducible rfl
      change wpAnyH _ _ _ _ _ _ _ (Act.put _ (some 26) _) _
      simp only [Act.put, List.setIfInBounds_toArray, List.set_cons_zero, List.set_cons_succ]
      refine wpAnyH_ready (rs := [3]) (by kernel_rfl) (by simp) ?_
      refine AllReadyH.cons rfl (fun KK hK => ?_) AllReadyH.nil
      go_simp
      refine (l1Below_any g ao n cap f 64 _ hn (by omega) (by omega) hP.cur).mono ?_
      rintro e wz1 ⟨z1, rfl, -, -, hCz, hOz⟩
      replace hP := hP.but hCz (But.ofOnly hOz)
      replace hbv := hbv.but (But.ofOnly hOz)
      clear hHeld hCz hOz
      go_wp2_with fail
      refine hK.out _ _ (hP.ms.x.cell 2) (fun hHeld => ?_)
      clear hK KK
      try simp only [Act.put, List.setIfInBounds_toArray, List.set_cons_zero, List.set_cons_succ]
      refine wpAnyH_ready (rs := [5]) (by kernel_rfl) (by simp) ?_
      refine AllReadyH.cons rfl (fun KK hK => ?_) AllReadyH.nil
      go_simp
      refine (l1Below_any g ao n cap f 6 _ hn (by omega) (by omega) hP.cur).mono ?_
      rintro e wz2 ⟨z2, rfl, -, -, hCz, hOz⟩
      replace hP := hP.but hCz (But.ofOnly hOz)
      replace hbv := hbv.but (But.ofOnly hOz)
      clear hHeld hCz hOz
      go_wp2_with fail
      refine hK.out _ _ (hP.ms.x.cell 2) (fun hHeld => ?_)
      clear hK KK
      try simp only [Act.put, List.setIfInBounds_toArray, List.set_cons_zero, List.set_cons_succ]
      refine' wpAnyH_take (i := 6) (v := _) rfl (by kernel_rfl) (by kernel_rfl) (by kernel_rfl) (fun _ _ _ h => h) (Or.inl ⟨by kernel_rfl, ?hrb25⟩) (by assumption) ?rrb25
      case hrb25 => intro W hW; go_simp; all_goals with_reducible rfl
      change wpAnyH _ _ _ _ _ _ _ (Act.put _ (some 28) _) _
      simp only [Act.put, List.setIfInBounds_toArray, List.set_cons_zero, List.set_cons_succ]
      refine wpAnyH_ready (rs := [7]) (by kernel_rfl) (by simp) ?_
      refine AllReadyH.cons rfl (fun KK hK => ?_) AllReadyH.nil
      go_simp
      have hbA : Below wz2.heap.size wz2 (wz2.alloc (.cells #[.int .i64 D.ops, .int .i64 z1, .int .i64 z2] 79)) := (Below.refl _ _).alloc (Nat.le_refl _) _
      have hPA := hP.on hbA
      have hPF := hP.fault D.ops z1 z2
      replace hbv := hbv.on hbA
      have hbx : bq ≠ X := hbqX
      have hbv9 := hbv.set (i := 3) hbx (.slice (some ⟨wz2.heap.size, 0, none⟩) 1 1)
      clear hbA hbv hP hHeld
      refine hK.out _ _ (hPA.ms.x.cell 2) (fun hHeld => ?_)
      clear hK KK
      try simp only [Act.put, List.setIfInBounds_toArray, List.set_cons_zero, List.set_cons_succ]
      refine' wpAnyH_take (i := 8) (v := _) rfl (by kernel_rfl) (by kernel_rfl) (by kernel_rfl) (fun _ _ _ h => h) (Or.inl ⟨by kernel_rfl, ?hrb26⟩) (by assumption) ?rrb26
      case hrb26 => intro W hW; go_simp; all_goals with_reducible rfl
      change wpAnyH _ _ _ _ _ _ _ (Act.put _ (some 30) _) _
      simp only [Act.put, List.setIfInBounds_toArray, List.set_cons_zero, List.set_cons_succ]
      refine wpAnyH_ready (rs := [9]) (by kernel_rfl) (by simp) ?_
      refine AllReadyH.cons rfl (fun KK hK => ?_) AllReadyH.nil
      have x3 : (wz2.alloc (.cells #[.int .i64 D.ops, .int .i64 z1, .int .i64 z2] 79)).cell? ⟨X, 3, none⟩ = some (.slice fa D.faults.length fc) := hPA.ms.x.cell 3
      have z3 := hPA.ms.x.fz 3
      go_simp
      clear x3 z3
      refine hK.out _ _ (hPF.ms.x.cell 2) (fun hHeld => ?_)
      clear hK KK
      try simp only [Act.put, List.setIfInBounds_toArray, List.set_cons_zero, List.set_cons_succ]
      refine wpAnyH_done (by kernel_rfl) ?_ _
      clear hHeld hPA
      obtain ⟨Aq, hAq⟩ : ∃ x, Hid (wz2.heap.size = x) := ⟨_, rfl⟩
      obtain ⟨wq9, hwq9⟩ : ∃ x, Hid ((wz2.alloc (.cells #[.int .i64 D.ops, .int .i64 z1, .int .i64 z2] 79)).setCell ⟨X, 3, none⟩ (.slice (some ⟨wz2.heap.size, 0, none⟩) 1 1) = x) := ⟨_, rfl⟩
      rw [hwq9.out] at hPF hbv9 ⊢
      rw [hAq.out] at hPF
      obtain ⟨D2, hD2⟩ : ∃ x, Hid (({ D with faults := [⟨D.ops, z1, z2⟩] } : PDisk) = x) := ⟨_, rfl⟩
      rw [hD2.out] at hPF
      have hP := hPF
      have hbv := hbv9
      clear hPF hbv9 hwq9 hAq hD2 hbqX
      go_wp2_with fail
      have hdr := (Below.refl wq9.heap.size wq9).drew
      replace hP := hP.on hdr
      replace hbv := hbv.on hdr
      clear hdr
      refine wp_region_held_drew (S := fun W => W.cell? ⟨X, 0, none⟩ = some (.slice (some ⟨gs, 0, none⟩) D2.secs.length sc) ∧ W.cell? ⟨X, 1, none⟩ = some (.slice ca D2.cache.length cc) ∧ W.cell? ⟨X, 2, none⟩ = some (.int .i64 D2.ops) ∧ W.cell? ⟨X, 3, none⟩ = some (.slice (some ⟨Aq, 0, none⟩) D2.faults.length 1) ∧ W.cell? ⟨X, 4, none⟩ = some (.bool D2.down)) (by kernel_rfl) ⟨hP.ms.x.cell 0, hP.ms.x.cell 1, hP.ms.x.cell 2, hP.ms.x.cell 3, hP.ms.x.cell 4⟩ (fun hHeld => ?_)
      refine' wpAnyH_take (i := 0) (v := _) rfl (by kernel_rfl) (by kernel_rfl) (by kernel_rfl) (fun _ _ _ h => h) (Or.inl ⟨by kernel_rfl, ?hrc21⟩) (by assumption) ?rrc21
      case hrc21 => intro W hW; obtain ⟨c0, c1, c2, c3, c4⟩ := hW; go_simp; all_goals with_reducible rfl
      change wpAnyH _ _ _ _ _ _ _ (Act.put _ (some 31) _) _
      simp only [Act.put, List.setIfInBounds_toArray, List.set_cons_zero, List.set_cons_succ]
      refine' wpAnyH_take (i := 1) (v := _) rfl (by kernel_rfl) (by kernel_rfl) (by kernel_rfl) (fun _ _ _ h => h) (Or.inl ⟨by kernel_rfl, ?hrc22⟩) (by assumption) ?rrc22
      case hrc22 => intro W hW; obtain ⟨c0, c1, c2, c3, c4⟩ := hW; go_simp; all_goals with_reducible rfl
      change wpAnyH _ _ _ _ _ _ _ (Act.put _ (some 32) _) _
      simp only [Act.put, List.setIfInBounds_toArray, List.set_cons_zero, List.set_cons_succ]
      refine' wpAnyH_take (i := 3) (v := _) rfl (by kernel_rfl) (by kernel_rfl) (by kernel_rfl) (fun _ _ _ h => h) (Or.inl ⟨by kernel_rfl, ?hrc23⟩) (by assumption) ?rrc23
      case hrc23 => intro W hW; obtain ⟨c0, c1, c2, c3, c4⟩ := hW; go_simp; all_goals with_reducible rfl
      change wpAnyH _ _ _ _ _ _ _ (Act.put _ (some 34) _) _
      simp only [Act.put, List.setIfInBounds_toArray, List.set_cons_zero, List.set_cons_succ]
      refine wpAnyH_ready (rs := [2]) (by kernel_rfl) (by simp) ?_
      refine AllReadyH.cons rfl (fun KK hK => ?_) AllReadyH.nil
      go_simp
      refine (l12N_any g ao n cap f _ hn hP.cur).mono ?_
      rintro e wz ⟨y, rfl, hy0, hy1, hCz, hBz⟩
      replace hP := hP.but hCz hBz
      replace hbv := hbv.but hBz
      clear hHeld hCz hBz
      go_wp2_with fail
      refine hK.out _ _ ⟨hP.ms.x.cell 0, hP.ms.x.cell 1, hP.ms.x.cell 2, hP.ms.x.cell 3, hP.ms.x.cell 4⟩ (fun hHeld => ?_)
      clear hK KK
      try simp only [Act.put, List.setIfInBounds_toArray, List.set_cons_zero, List.set_cons_succ]
      refine wpAnyH_ready (rs := [4]) (by kernel_rfl) (by simp) ?_
      refine AllReadyH.cons rfl (fun KK hK => ?_) AllReadyH.nil
      have e0 : wz.cell? ⟨w.heap.size, 0, none⟩ = some (.slice none 0 0) := hP.r.cell 0
      have z0 := hP.r.fz 0
      have e1 : wz.cell? ⟨w.heap.size, 1, none⟩ = some (.slice none 0 0) := hP.r.cell 1
      have z1 := hP.r.fz 1
      have e2 : wz.cell? ⟨w.heap.size, 2, none⟩ = some (.int .i64 0) := hP.r.cell 2
      have z2 := hP.r.fz 2
      have e3 : wz.cell? ⟨w.heap.size, 3, none⟩ = some (.slice none 0 0) := hP.r.cell 3
      have z3 := hP.r.fz 3
      have e4 : wz.cell? ⟨w.heap.size, 4, none⟩ = some (.bool false) := hP.r.cell 4
      have z4 := hP.r.fz 4
      go_simp
      clear e0 e1 e2 e3 e4 z0 z1 z2 z3 z4
      have hgB := hP.gB
      have hrg := hP.rg
      have hxB := hP.x
      have hr5 := ret5_vn (.slice (some ⟨gs, 0, none⟩) D2.secs.length sc) (.slice ca D2.cache.length cc) (.int .i64 D2.ops) (.slice (some ⟨Aq, 0, none⟩) D2.faults.length 1) (.bool D2.down) hP.r
      have hms := hP.ms.up (Up.five (B := B) (R := w.heap.size) (w := wz) (.slice (some ⟨gs, 0, none⟩) D2.secs.length sc) (.slice ca D2.cache.length cc) (.int .i64 D2.ops) (.slice (some ⟨Aq, 0, none⟩) D2.faults.length 1) (.bool D2.down) (by omega)) hxB
      have hkv := hms.kview hP.ml (by have := hP.few; omega)
      have hku := fun W hu => (hms.up (Up.low (B := w.heap.size) (w' := W) hu (by omega)) hxB).kview hP.ml (by have := hP.few; omega)
      have hbl := ret5_below (.slice (some ⟨gs, 0, none⟩) D2.secs.length sc) (.slice ca D2.cache.length cc) (.int .i64 D2.ops) (.slice (some ⟨Aq, 0, none⟩) D2.faults.length 1) (.bool D2.down) hP.below (Nat.le_refl _)
      have hok := hP.ok
      have hfw := hP.few
      have hbn : bq ≠ w.heap.size := by have := hbv.lo; omega
      have hbq := ((((hbv.set (i := 0) hbn (.slice (some ⟨gs, 0, none⟩) D2.secs.length sc)).set (i := 1) hbn (.slice ca D2.cache.length cc)).set (i := 2) hbn (.int .i64 D2.ops)).set (i := 3) hbn (.slice (some ⟨Aq, 0, none⟩) D2.faults.length 1)).set (i := 4) hbn (.bool D2.down)
      refine hK.out _ _ ⟨hms.x.cell 0, hms.x.cell 1, hms.x.cell 2, hms.x.cell 3, hms.x.cell 4⟩ (fun hHeld => ?_)
      clear hP hms
      clear hK KK
      try simp only [Act.put, List.setIfInBounds_toArray, List.set_cons_zero, List.set_cons_succ]
      refine' wpAnyH_take (i := 5) (v := _) rfl (by kernel_rfl) (by kernel_rfl) (by kernel_rfl) (fun _ _ _ h => h) (Or.inl ⟨by kernel_rfl, ?hrc24⟩) (by assumption) ?rrc24
      case hrc24 => intro W hW; obtain ⟨c0, c1, c2, c3, c4⟩ := hW; go_simp; all_goals with_reducible rfl
      change wpAnyH _ _ _ _ _ _ _ (Act.put _ (some 3) _) _
      simp only [Act.put, List.setIfInBounds_toArray, List.set_cons_zero, List.set_cons_succ]
      refine' wpAnyH_take (i := 6) (v := _) rfl (by kernel_rfl) (by kernel_rfl) (by kernel_rfl) (fun _ _ _ h => h) (Or.inl ⟨by kernel_rfl, ?hrc25⟩) (by assumption) ?rrc25
      case hrc25 => intro W hW; obtain ⟨c0, c1, c2, c3, c4⟩ := hW; go_simp; all_goals with_reducible rfl
      change wpAnyH _ _ _ _ _ _ _ (Act.put _ (some 4) _) _
      simp only [Act.put, List.setIfInBounds_toArray, List.set_cons_zero, List.set_cons_succ]
      refine wpAnyH_done (by kernel_rfl) ?_ _
      have HF : Hid _ := And.intro hkv (And.intro hok (And.intro hfw (And.intro hbq.view (And.intro hmq (And.intro hbl hku)))))
      have m0 := hr5.cell 0
      have m1 := hr5.cell 1
      have m2 := hr5.cell 2
      have m3 := hr5.cell 3
      have m4 := hr5.cell 4
      simp only [List.getElem?_cons_zero, List.getElem?_cons_succ] at m0 m1 m2 m3 m4
      have HM : Hid _ := And.intro m0 (And.intro m1 (And.intro m2 (And.intro m3 m4)))
      clear hkv hok hbl hku hr5 hHeld hbv hbq hfw hmq m0 m1 m2 m3 m4
      go_wp2
      obtain ⟨m0, m1, m2, m3, m4⟩ := HM.out
      exact bodyPost_ret (v := .tuple #[.agg #[.slice (some ⟨gs, 0, none⟩) D2.secs.length sc, .slice ca D2.cache.length cc, .int .i64 D2.ops, .slice (some ⟨Aq, 0, none⟩) D2.faults.length 1, .bool D2.down], .int .i64 y, .slice (some ⟨bq, 0, none⟩) mq mq]) (by simp [results, Try.results20, go_sem, m0, m1, m2, m3, m4]) rfl ⟨_, D2, y, bq, mq, mq, Fq, rfl, HF.out.1, HF.out.2.1, HF.out.2.2.1, HF.out.2.2.2.1, HF.out.2.2.2.2.1, HF.out.2.2.2.2.2⟩
end Go.Proofs.Ytdhfbblameiloaa

/-
  The model's ReadSec.
-/
namespace Go.Proofs.Ytdhfbblameiloaa
open Go.RowKit
set_option maxRecDepth 4000

/-- What ReadSec comes to. -/
def ReadTo (w : World) (D : PDisk) (n : Int) (e : Ending) (w' : World) : Prop := ∃ (v : Value) (ok : Bool), e = .returned (.tuple #[v, .bool ok]) ∧ (ok = true ↔ HasS D n) ∧ OB w' w.heap.size v (readB D n) ∧ Below w.heap.size w w'

end Go.Proofs.Ytdhfbblameiloaa

/-
  Rows of bytes of the call's own, of which no cell that is read is frozen, whatever lies behind: what '[]byte(s)' lays is one.
-/
namespace Go.Proofs.Ytdhfbblameiloaa
open Go.RowKit
set_option maxRecDepth 4000

def RowZ (t : TypeId) (w : World) (b n : Nat) (f : Nat → Int) : Prop :=
  ∃ (c : Array Value) (z : Nat × Nat), w.heap[b]? = some (.cells c t z) ∧ n ≤ c.size ∧ (∀ i, i < n → w.frozen? ⟨b, i, none⟩ = false) ∧ ∀ i, i < n → c[i]? = some (.int .u8 (f i))
namespace RowZ
variable {t : TypeId} {w w' : World} {b n : Nat} {f g : Nat → Int}
theorem ofRow (h : Row t w b n f) : RowZ t w b n f := by
  have hz := h.frozen
  obtain ⟨c, hb, hn, hc⟩ := h
  exact ⟨c, _, hb, hn, fun i _ => hz i, hc⟩
theorem cell (h : RowZ t w b n f) {i : Nat} (hi : i < n) : w.cell? ⟨b, i, none⟩ = some (.int .u8 (f i)) := by
  obtain ⟨c, z, hb, _, _, hc⟩ := h
  simp [World.cell?, hb, hc i hi]
theorem frozen (h : RowZ t w b n f) {i : Nat} (hi : i < n) : w.frozen? ⟨b, i, none⟩ = false := by
  obtain ⟨c, z, hb, _, hz, _⟩ := h
  exact hz i hi
theorem lt (h : RowZ t w b n f) : b < w.heap.size := by
  obtain ⟨c, z, hb, _, _⟩ := h
  exact (Array.getElem?_eq_some_iff.1 hb).1
theorem congr (h : RowZ t w b n f) (e : ∀ i, i < n → f i = g i) : RowZ t w b n g := by
  obtain ⟨c, z, hb, hn, hz, hc⟩ := h
  exact ⟨c, z, hb, hn, hz, fun i hi => by rw [hc i hi, e i hi]⟩
theorem of_block (h : RowZ t w b n f) (e : w'.heap[b]? = w.heap[b]?) : RowZ t w' b n f := by
  obtain ⟨c, z, hb, hn, hz, hc⟩ := h
  refine ⟨c, z, e.trans hb, hn, fun i hi => ?_, hc⟩
  have := hz i hi
  simp only [World.frozen?, e] at this ⊢
  exact this
theorem set (h : RowZ t w b n f) (i : Nat) (x : Int) : RowZ t (w.setCell ⟨b, i, none⟩ (.int .u8 x)) b n (fun j => if j = i then x else f j) := by
  obtain ⟨c, z, hb, hn, hz, hc⟩ := h
  have hb' : (w.setCell ⟨b, i, none⟩ (.int .u8 x)).heap[b]? = some (.cells (c.setIfInBounds i (.int .u8 x)) t z) := by simp [World.setCell, Array.getElem?_modify, hb]
  refine ⟨c.setIfInBounds i (.int .u8 x), z, hb', by simpa using hn, fun j hj => ?_, fun j hj => ?_⟩
  · have := hz j hj
    simp only [World.frozen?, hb, hb'] at this ⊢
    exact this
  · rw [Array.getElem?_setIfInBounds]
    by_cases e : j = i
    · subst e
      have : j < c.size := by omega
      simp [this]
    · rw [if_neg (fun h => e h.symm)]
      show c[j]? = some (.int .u8 (if j = i then x else f j))
      rw [if_neg e]
      exact hc j hj
theorem view {cap : Nat} (h : RowZ t w b n f) (hc : n ≤ cap) (hb : ∀ i, i < n → 0 ≤ f i ∧ f i ≤ 255) : View w (some ⟨b, 0, none⟩) n cap f :=
  ⟨hc, hb, fun _ => ⟨b, 0, rfl, h.lt, fun i hi => by rw [Nat.zero_add]; exact h.cell hi⟩⟩
end RowZ
end Go.Proofs.Ytdhfbblameiloaa

/-
  Bytes of the call's own, whatever lies behind them.
-/
namespace Go.Proofs.Ytdhfbblameiloaa
open Go.RowKit
set_option maxRecDepth 4000

/-- Bytes of the call's own. -/
structure OZ (w : World) (B : Nat) (v : Value) (l : List Int) : Prop where
  is : ∃ a c, v = .slice a l.length c ∧ l.length ≤ c ∧ (a = none → c = 0) ∧ (∀ x ∈ l, 0 ≤ x ∧ x ≤ 255) ∧ (l = [] ∨ ∃ g, a = some ⟨g, 0, none⟩ ∧ B ≤ g ∧ RowZ 5 w g l.length (bf l))
theorem OB.oz {w : World} {B : Nat} {v : Value} {l : List Int} (h : OB w B v l) : OZ w B v l := by
  obtain ⟨a, c, e, h1, h2, h3, h4⟩ := h.is
  refine ⟨a, c, e, h1, h2, h3, ?_⟩
  rcases h4 with h4 | ⟨g, ea, hb, hr⟩
  · exact .inl h4
  · exact .inr ⟨g, ea, hb, RowZ.ofRow hr⟩
theorem OZ.up {w w' : World} {B : Nat} {v : Value} {l : List Int} (h : OZ w B v l) (hu : Up B w w') : OZ w' B v l := by
  obtain ⟨a, c, e, h1, h2, h3, h4⟩ := h.is
  refine ⟨a, c, e, h1, h2, h3, ?_⟩
  rcases h4 with h4 | ⟨g, ea, hb, hr⟩
  · exact .inl h4
  · exact .inr ⟨g, ea, hb, hr.of_block (hu.2 g hb hr.lt)⟩
theorem OZ.mono {w : World} {B B' : Nat} {v : Value} {l : List Int} (h : OZ w B v l) (hB : B' ≤ B) : OZ w B' v l := by
  obtain ⟨a, c, e, h1, h2, h3, h4⟩ := h.is
  refine ⟨a, c, e, h1, h2, h3, ?_⟩
  rcases h4 with h4 | ⟨g, ea, hb, hr⟩
  · exact .inl h4
  · exact .inr ⟨g, ea, by omega, hr⟩
theorem bf_bytes {l : List Int} (h : ∀ x ∈ l, 0 ≤ x ∧ x ≤ 255) : ∀ i, i < l.length → 0 ≤ bf l i ∧ bf l i ≤ 255 := by
  intro i hi
  have : bf l i = l[i] := by simp [bf, hi]
  rw [this]
  exact h _ (List.getElem_mem hi)
theorem OZ.lv {w : World} {B : Nat} {v : Value} {l : List Int} (h : OZ w B v l) : LV w v l := by
  obtain ⟨a, c, e, h1, h2, h3, h4⟩ := h.is
  refine ⟨a, c, e, ⟨h1, bf_bytes h3, fun hn => ?_⟩, h2⟩
  rcases h4 with h4 | ⟨g, ea, hb, hr⟩
  · subst h4; simp at hn
  · exact ⟨g, 0, ea, hr.lt, fun i hi => by rw [Nat.zero_add]; exact hr.cell hi⟩
/-- What a call that answers bytes and a bool comes to. -/
def BTo (w : World) (l : List Int) (ok : Bool) (e : Ending) (w' : World) : Prop := ∃ v, e = .returned (.tuple #[v, .bool ok]) ∧ OZ w' w.heap.size v l ∧ Below w.heap.size w w'
end Go.Proofs.Ytdhfbblameiloaa

