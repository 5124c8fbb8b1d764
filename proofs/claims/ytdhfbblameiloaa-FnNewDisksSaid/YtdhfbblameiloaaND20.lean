/-
  Together: DrawDisk12, AsSecs
-/
import Derived.Test.YtdhfbblameiloaaND11
import Derived.Test.YtdhfbblameiloaaND13
import Derived.Test.YtdhfbblameiloaaND15
import Derived.Test.YtdhfbblameiloaaND16
import Derived.Test.YtdhfbblameiloaaND19
import Derived.Deep.LoopGhost
import Derived.Test.YtdhfbblameiloaaND9
/-
  The draw of a disk.
-/
namespace Go.Proofs.Ytdhfbblameiloaa
open Go.RowKit
set_option maxRecDepth 4000

theorem Up.ofBut {g B : Nat} {w w' : World} (h : But g w w') (hg : g < B) : Up B w w' := ⟨h.size, fun k hk hl => h.block k hl (by omega)⟩
theorem MS.up {w w' : World} {B X gs sc : Nat} {ca : Option Addr} {cc : Nat} {fa : Option Addr} {fc : Nat} {ss cs : List Value} {D : PDisk} {S : List (List Int)} (h : MS w B X gs sc ca cc fa fc ss cs D S) (hu : Up B w w') (hX : B ≤ X) : MS w' B X gs sc ca cc fa fc ss cs D S :=
  ⟨h.x.block (hu.2 X hX h.x.lt), h.secs.up hu, h.ns, h.len, fun i v l h1 h2 => (h.ob i v l h1 h2).up hu, own_upK h.own hu, h.nc, fun i v l h1 h2 => (h.cb i v l h1 h2).up hu, own_upK h.fown hu⟩
theorem MS.calm {w : World} {B X gs sc : Nat} {ca : Option Addr} {cc : Nat} {fa : Option Addr} {fc : Nat} {ss cs : List Value} {D : PDisk} {S : List (List Int)} (h : MS w B X gs sc ca cc fa fc ss cs D S) : MS (w.setCell ⟨X, 4, none⟩ (.bool false)) B X gs sc ca cc fa fc ss cs { D with down := false } S := by
  have hk := keep_vn (P := fun t => t = 32) (i := 4) (u := .bool false) h.x rfl
  have hx := h.x.set 4 (.bool false)
  simp only [List.set] at hx
  exact ⟨hx, h.secs.keepT hk (by decide), h.ns, h.len, fun i v l h1 h2 => (h.ob i v l h1 h2).keepT hk (by decide), own_keepT h.own hk (by decide), h.nc, fun i v l h1 h2 => (h.cb i v l h1 h2).keepT hk (by decide), own_keepT h.fown hk (by decide)⟩
theorem CN.belowB {w : World} {g : Nat} {ao : Option Addr} {n cap : Nat} {f : Nat → Int} {W W' : World} {B : Nat} (h : CN w g ao n cap f W) (hb : Below B W W') (hB : w.heap.size ≤ B) : CN w g ao n cap f W' := by
  have hlt := h.lt
  refine ⟨?_, ⟨hb.os.trans h.but.os, hb.tape.trans h.but.tape, hb.output.trans h.but.output, Nat.le_trans h.but.size hb.size, fun k hk hne => (hb.block k (by omega)).trans (h.but.block k hk hne)⟩, h.lt, h.code⟩
  obtain ⟨i, k, hr, h0, hi⟩ := h.cur.cells
  refine ⟨⟨i, k, hr.of_block (hb.block g (by omega)), h0, hi⟩, ⟨h.cur.view.le, h.cur.view.byte, fun hn => ?_⟩, h.cur.apart⟩
  obtain ⟨b', off, e, hl, hc⟩ := h.cur.view.cells hn
  have := h.code _ e hn
  refine ⟨b', off, e, Nat.lt_of_lt_of_le hl hb.size, fun j hj => ?_⟩
  rw [World.cell?_of_block (w := W) (hb.block b' (by simp at this; omega))]
  exact hc j hj
theorem own_fview {W : World} {B : Nat} {a : Option Addr} {c : Nat} {l : List PFault} (h : W.ownsRow B 79 3 (.slice a l.length c) l.length (fcells l)) : FView W a c l := by
  obtain ⟨a', c', e, h1, h2, h3⟩ := own_rl h
  cases e
  exact fview_rl h3 h1 h2
theorem OkD.made {m : Nat} {l : List PFault} (hm : 4 ≤ m ∧ m ≤ 48) (hl : FaultsOk l) : OkD (madeD m l) :=
  ⟨⟨by simpa [madeD] using hm.1, by simpa [madeD] using hm.2, fun i hi => by simp [madeD]⟩, ⟨by simp [madeD], fun i hi => by simp [madeD] at hi⟩, ⟨by simp [madeD], by simp [madeD]⟩, hl, by simp [madeD]⟩
/-- A disk that is being drawn. -/
structure LD (w : World) (g : Nat) (ao : Option Addr) (n cap : Nat) (f : Nat → Int) (B X gs sc : Nat) (fa : Option Addr) (fc : Nat) (N k : Nat) (D : PDisk) (ca : Option Addr) (cc : Nat) (ss cs : List Value) (W : World) : Prop where
  ms : MS W B X gs sc ca cc fa fc ss cs D D.secs
  ml : ML D sc ca cc fa fc
  ok : OkD D
  len : D.secs.length = N
  few : k + D.cache.length ≤ 12
  r : VN W w.heap.size 32 [.slice none 0 0, .slice none 0 0, .int .i64 0, .slice none 0 0, .bool false]
  cn : CN w g ao n cap f W
  lo : w.heap.size < B
  b : B ≤ W.heap.size
  x : B ≤ X
theorem LD.but {w : World} {g : Nat} {ao : Option Addr} {n cap : Nat} {f : Nat → Int} {B X gs sc : Nat} {fa : Option Addr} {fc : Nat} {N k : Nat} {D : PDisk} {ca : Option Addr} {cc : Nat} {ss cs : List Value} {W W' : World} (h : LD w g ao n cap f B X gs sc fa fc N k D ca cc ss cs W) (hC : Cur W' g ao n cap f) (hb : But g W W') : LD w g ao n cap f B X gs sc fa fc N k D ca cc ss cs W' :=
  have h1 := h.cn.lt
  have h2 := h.lo
  ⟨h.ms.up (Up.ofBut hb (by omega)) h.x, h.ml, h.ok, h.len, h.few, h.r.block (hb.block _ h.r.lt (by omega)), h.cn.next hC hb, h.lo, Nat.le_trans h.b hb.size, h.x⟩
theorem LD.op {w : World} {g : Nat} {ao : Option Addr} {n cap : Nat} {f : Nat → Int} {B X gs sc : Nat} {fa : Option Addr} {fc : Nat} {N k : Nat} {D D' : PDisk} {ca ca' : Option Addr} {cc cc' : Nat} {ss cs ss' cs' : List Value} {W W' : World} (h : LD w g ao n cap f B X gs sc fa fc N (k + 1) D ca cc ss cs W) (hm : MS W' B X gs sc ca' cc' fa fc ss' cs' D' D'.secs) (hl : ML D' sc ca' cc' fa fc) (hok : OkD D') (hn : D'.secs.length = D.secs.length) (hc : D'.cache.length ≤ D.cache.length + 1) (hb : Below B W W') : LD w g ao n cap f B X gs sc fa fc N k D' ca' cc' ss' cs' W' :=
  have h2 := h.lo
  ⟨hm, hl, hok, hn.trans h.len, by have := h.few; omega, h.r.block (hb.block _ h2), h.cn.belowB hb (by omega), h.lo, Nat.le_trans h.b hb.size, h.x⟩
/-- What was drawn. -/
def DD (w : World) (g : Nat) (ao : Option Addr) (n cap : Nat) (f : Nat → Int) (e : Ending) (W : World) : Prop :=
  ∃ (D : PDisk) (B X gs sc : Nat) (ca : Option Addr) (cc : Nat) (fa : Option Addr) (fc : Nat) (ss cs : List Value), e = .returned (dval D (some ⟨gs, 0, none⟩) sc ca cc fa fc) ∧ MS W B X gs sc ca cc fa fc ss cs D D.secs ∧ ML D sc ca cc fa fc ∧ OkD D ∧ D.cache.length ≤ 12 ∧ CN w g ao n cap f W ∧ w.heap.size ≤ B ∧ B ≤ X

set_option maxHeartbeats 8000000 in
theorem l12Draw_any (g : Nat) (ao : Option Addr) (n cap : Nat) (f : Nat → Int) (w : World) (hn : n ≤ 1048576) (hC : Cur w g ao n cap f) :
    Calls Try.prog 104 #[.pointer (some ⟨g, 0, none⟩)] w (DD w g ao n cap f) := by
  have hR := CN.start hC
  have hg := hR.lt
  have hbA : Below w.heap.size w (w.alloc (.cells #[.slice none 0 0, .slice none 0 0, .int .i64 0, .slice none 0 0, .bool false] 32)) := (Below.refl _ _).alloc (Nat.le_refl _) _
  have hV := VN.new w 32 [.slice none 0 0, .slice none 0 0, .int .i64 0, .slice none 0 0, .bool false]
  replace hR := hR.below hbA
  have hsz : w.heap.size < (w.alloc (.cells #[.slice none 0 0, .slice none 0 0, .int .i64 0, .slice none 0 0, .bool false] 32)).heap.size := by simp
  clear hC hbA
  go_enter Try.func104, Try.ntmps104
  go_wp2_with fail
  obtain ⟨WA, hWA⟩ : ∃ x, Hid (w.alloc (.cells #[.slice none 0 0, .slice none 0 0, .int .i64 0, .slice none 0 0, .bool false] 32) = x) := ⟨_, rfl⟩
  rw [hWA.out] at hR hV hsz ⊢
  refine (l1Below_any g ao n cap f 4 WA hn (by omega) (by omega) hR.cur).mono ?_
  rintro e w1 ⟨x, rfl, hx0, hx1, hC1, hO1⟩
  replace hV := hV.block ((But.ofOnly hO1).block _ hV.lt (by omega))
  replace hR := hR.next hC1 (But.ofOnly hO1)
  have hsz1 := Nat.lt_of_lt_of_le hsz (But.ofOnly hO1).size
  clear hC1 hO1 hWA hsz
  go_wp2_with fail
  refine (l12FaultList_any g ao n cap f w1 hn hR.cur).mono ?_
  rintro e w2 ⟨l, v, rfl, hDF, hl3, hC2⟩
  replace hV := hV.block (hC2.but.block _ hV.lt (by omega))
  replace hR := hR.next hC2.cur hC2.but
  have hsz2 := Nat.lt_of_lt_of_le hsz1 hC2.size
  obtain ⟨va, vc, ev⟩ := own_form hDF.own
  subst ev
  have HF : Hid (FaultsOk l) := hDF.ok
  have hDN := specDiskNew_own (4 + x) va vc l w2 (own_fview hDF.own) (by omega)
  clear hC2 hsz1 hDF
  go_wp2_with fail
  refine hDN.mono ?_
  rintro e w3 ⟨v3, rfl, hb3, h3⟩
  clear hDN
  obtain ⟨-, hK⟩ := h3.resolve_right (fun h => h.1 ⟨by omega, HF.out⟩)
  obtain ⟨sa, sc, ca, cc, fa, fc, ss, cs, rfl, hKO, hOw, hFo⟩ := hK
  obtain ⟨D0, hD0⟩ : ∃ z, Hid (madeD (4 + x).toNat l = z) := ⟨_, rfl⟩
  have hok0 : OkD D0 := hD0.out ▸ OkD.made (m := (4 + x).toNat) (by omega) HF.out
  have hlen0 : 4 ≤ D0.secs.length ∧ D0.secs.length ≤ 48 := by have := hok0.1; exact ⟨this.1, this.2.1⟩
  have hc0 : D0.cache.length = 0 := by rw [← hD0.out]; rfl
  rw [hD0.out] at hKO hOw hFo ⊢
  obtain ⟨gs, es⟩ : ∃ gs, sa = some ⟨gs, 0, none⟩ := by
    obtain ⟨g', e, -⟩ := hKO.secs.cell (by rw [hKO.ns]; omega)
    exact ⟨g', e⟩
  subst es
  have hbX : Below w3.heap.size w3 (w3.alloc (.cells #[.slice (some ⟨gs, 0, none⟩) D0.secs.length sc, .slice ca D0.cache.length cc, .int .i64 D0.ops, .slice fa D0.faults.length fc, .bool D0.down] 32)) := (Below.refl _ _).alloc (Nat.le_refl _) _
  have hX := VN.new w3 32 [.slice (some ⟨gs, 0, none⟩) D0.secs.length sc, .slice ca D0.cache.length cc, .int .i64 D0.ops, .slice fa D0.faults.length fc, .bool D0.down]
  have hL0 : LD w g ao n cap f w2.heap.size w3.heap.size gs sc fa fc D0.secs.length 12 D0 ca cc ss cs (w3.alloc (.cells #[.slice (some ⟨gs, 0, none⟩) D0.secs.length sc, .slice ca D0.cache.length cc, .int .i64 D0.ops, .slice fa D0.faults.length fc, .bool D0.down] 32)) :=
    ⟨MS.start (hKO.up (Up.ofBelow hbX)) hX (own_upK hOw (Up.ofBelow hbX)) (own_upK hFo (Up.ofBelow hbX)), ⟨hKO.sle, hKO.cle, hKO.cnil, hKO.fle, hKO.fnil⟩, hok0, rfl, by omega, (hV.block (hb3.block _ hsz2)).below hbX, (hR.below hb3).below hbX, hsz2, Nat.le_trans hb3.size hbX.size, hb3.size⟩
  clear hbX hX hKO hOw hFo hV hR hb3 hsz2 hD0 HF hl3 h3 hc0
  unfold dval
  obtain ⟨X, hXe⟩ := hidEx w3.heap.size
  obtain ⟨B, hBe⟩ := hidEx w2.heap.size
  obtain ⟨W3, hW3⟩ : ∃ z, Hid (w3.alloc (.cells #[.slice (some ⟨gs, 0, none⟩) D0.secs.length sc, .slice ca D0.cache.length cc, .int .i64 D0.ops, .slice fa D0.faults.length fc, .bool D0.down] 32) = z) := ⟨_, rfl⟩
  rw [hXe.out, hBe.out, hW3.out] at hL0
  go_wp2_with fail
  rw [hXe.out, hW3.out]
  refine (l1Below_any g ao n cap f 12 W3 hn (by omega) (by omega) hL0.cn.cur).mono ?_
  rintro e w4 ⟨y, rfl, hy0, hy1, hC4, hO4⟩
  have HL : Hid (LD w g ao n cap f B X gs sc fa fc D0.secs.length 12 D0 ca cc ss cs w4) := hL0.but hC4 (But.ofOnly hO4)
  clear hL0 hC4 hO4 hXe hBe hW3
  obtain ⟨m, rfl⟩ := Int.eq_ofNat_of_zero_le hy0
  obtain ⟨N, hN⟩ := hidEx D0.secs.length
  rw [hN.out] at HL hlen0
  clear hok0 hN
  go_wp2
  go_loopg [4] m (fun q i wr => ∃ (k : Nat) (D : PDisk) (ca : Option Addr) (cc : Nat) (ss cs : List Value), q = k ∧ i = .int .i64 k ∧ LD w g ao n cap f B X gs sc fa fc N k D ca cc ss cs wr)
  case atStart => exact ⟨m, D0, ca, cc, ss, cs, rfl, rfl, ⟨HL.out.ms, HL.out.ml, HL.out.ok, HL.out.len, by have := HL.out.few; omega, HL.out.r, HL.out.cn, HL.out.lo, HL.out.b, HL.out.x⟩⟩
  case round =>
    clear HL
    obtain ⟨k, D, ca, cc, ss, cs, hq, rfl, hL⟩ := hrel
    by_cases hk : 0 < k
    · obtain ⟨k, rfl⟩ : ∃ j, k = j + 1 := ⟨k - 1, by omega⟩
      have hkz : (0 : Int) < ((k + 1 : Nat) : Int) := by omega
      have hkb : k ≤ 11 := by have := hL.few; omega
      go_wp2_with fail
      refine (l1Below_any g ao n cap f 5 wr hn (by omega) (by omega) hL.cn.cur).mono ?_
      rintro e w5 ⟨y, rfl, hy0', hy1', hC5, hO5⟩
      replace hL := hL.but hC5 (But.ofOnly hO5)
      clear hC5 hO5
      by_cases hya : y = 0
      · subst hya
        have hF := l12Flush_any B X gs sc ca cc fa fc ss cs D w5 hL.ms hL.ml hL.ok hL.b hL.x
        go_wp2_with fail
        refine hF.mono ?_
        rintro e w6 ⟨rfl, ⟨ca', cc', ss', cs', hM, hl⟩, hb⟩
        have HL : Hid (LD w g ao n cap f B X gs sc fa fc N k (flushF D).1 ca' cc' ss' cs' w6) := hL.op hM hl hL.ok.flush flush_len.1 (by have := (flush_len (D := D)).2; omega) hb
        clear hL hF hM hl hb
        go_wp2
        go_roundg k
        case measure => omega
        case rel => exact ⟨k, _, _, _, _, _, rfl, congrArg (Value.int .i64) (by omega), HL.out⟩
      by_cases hyb : y = 1
      · subst hyb
        have y4 : w5.cell? ⟨X, 4, none⟩ = some (.bool D.down) := hL.ms.x.cell 4
        have q4 := hL.ms.x.fz 4
        have hbS : Below B w5 (w5.setCell ⟨X, 4, none⟩ (.bool false)) := (Below.refl _ _).setCell (p := ⟨X, 4, none⟩) hL.x _
        have HL : Hid (LD w g ao n cap f B X gs sc fa fc N k { D with down := false } ca cc ss cs (w5.setCell ⟨X, 4, none⟩ (.bool false))) := hL.op hL.ms.calm ⟨hL.ml.s, hL.ml.c, hL.ml.cn, hL.ml.f, hL.ml.fn⟩ hL.ok.on rfl (Nat.le_succ _) hbS
        clear hL hbS
        go_wp2
        go_roundg k
        case measure => omega
        case rel => exact ⟨k, _, _, _, _, _, rfl, congrArg (Value.int .i64) (by omega), HL.out⟩
      have y0 : w5.cell? ⟨X, 0, none⟩ = some (.slice (some ⟨gs, 0, none⟩) D.secs.length sc) := hL.ms.x.cell 0
      have hln : 4 ≤ D.secs.length := by have := hL.len; omega
      have hln2 : D.secs.length ≤ 48 := by have := hL.len; omega
      go_wp2_with fail
      refine (l1Below_any g ao n cap f (D.secs.length : Nat) w5 hn (by omega) (by omega) hL.cn.cur).mono ?_
      rintro e w6 ⟨u, rfl, hu0, hu1, hC6, hO6⟩
      replace hL := hL.but hC6 (But.ofOnly hO6)
      clear hC6 hO6 y0
      go_wp2_with fail
      refine (l1Some_any g ao n cap f w6 hn hL.cn.cur).mono ?_
      rintro e w7 ⟨⟨b, c, mm, l, hD⟩, hC7, hB7⟩
      obtain rfl := hD.ret
      obtain rfl := hD.len
      replace hL := hL.but hC7 hB7
      have hW := l12Write_any B X gs sc ca cc fa fc ss cs D u (some ⟨b, 0, none⟩) c l w7 hL.ms hL.ml ⟨hL.ok, ⟨hu0, hu1⟩, by have := hD.few; omega, by have := hL.few; omega⟩ (Own9.view ⟨rfl, hD.byte, hD.new, hD.le, hD.row, hD.few⟩) (fun e => by cases e) hL.b hL.x
      have hmw : MayW D u l := ⟨hL.ok, ⟨hu0, hu1⟩, by have := hD.few; omega, by have := hL.few; omega⟩
      clear hC7 hB7 hD
      go_wp2_with fail
      refine hW.mono ?_
      rintro e w8 ⟨rfl, ⟨ca', cc', ss', cs', hM, hl⟩, hb⟩
      have HL : Hid (LD w g ao n cap f B X gs sc fa fc N k (writeF D u l).1 ca' cc' ss' cs' w8) := hL.op hM hl (OkD.write hmw) write_len.1 write_len.2 hb
      clear hL hW hM hl hb hmw
      go_wp2
      go_roundg k
      case measure => omega
      case rel => exact ⟨k, _, _, _, _, _, rfl, congrArg (Value.int .i64) (by omega), HL.out⟩
    · have hkz : ¬ (0 : Int) < (k : Int) := by omega
      have a0 : wr.cell? ⟨X, 0, none⟩ = some (.slice (some ⟨gs, 0, none⟩) D.secs.length sc) := hL.ms.x.cell 0
      have a1 : wr.cell? ⟨X, 1, none⟩ = some (.slice ca D.cache.length cc) := hL.ms.x.cell 1
      have a2 : wr.cell? ⟨X, 2, none⟩ = some (.int .i64 D.ops) := hL.ms.x.cell 2
      have a3 : wr.cell? ⟨X, 3, none⟩ = some (.slice fa D.faults.length fc) := hL.ms.x.cell 3
      have a4 : wr.cell? ⟨X, 4, none⟩ = some (.bool D.down) := hL.ms.x.cell 4
      have r0 : wr.cell? ⟨w.heap.size, 0, none⟩ = some (.slice none 0 0) := hL.r.cell 0
      have r1 : wr.cell? ⟨w.heap.size, 1, none⟩ = some (.slice none 0 0) := hL.r.cell 1
      have r2 : wr.cell? ⟨w.heap.size, 2, none⟩ = some (.int .i64 0) := hL.r.cell 2
      have r3 : wr.cell? ⟨w.heap.size, 3, none⟩ = some (.slice none 0 0) := hL.r.cell 3
      have r4 : wr.cell? ⟨w.heap.size, 4, none⟩ = some (.bool false) := hL.r.cell 4
      have z0 := hL.r.fz 0
      have z1 := hL.r.fz 1
      have z2 := hL.r.fz 2
      have z3 := hL.r.fz 3
      have z4 := hL.r.fz 4
      have hRv := ret5_vn (.slice (some ⟨gs, 0, none⟩) D.secs.length sc) (.slice ca D.cache.length cc) (.int .i64 D.ops) (.slice fa D.faults.length fc) (.bool D.down) hL.r
      have hRk := ret5_keep (.slice (some ⟨gs, 0, none⟩) D.secs.length sc) (.slice ca D.cache.length cc) (.int .i64 D.ops) (.slice fa D.faults.length fc) (.bool D.down) hL.r
      have m0 : (((((wr.setCell ⟨w.heap.size, 0, none⟩ (.slice (some ⟨gs, 0, none⟩) D.secs.length sc)).setCell ⟨w.heap.size, 1, none⟩ (.slice ca D.cache.length cc)).setCell ⟨w.heap.size, 2, none⟩ (.int .i64 D.ops)).setCell ⟨w.heap.size, 3, none⟩ (.slice fa D.faults.length fc)).setCell ⟨w.heap.size, 4, none⟩ (.bool D.down)).cell? ⟨w.heap.size, 0, none⟩ = some (.slice (some ⟨gs, 0, none⟩) D.secs.length sc) := hRv.cell 0
      have m1 : (((((wr.setCell ⟨w.heap.size, 0, none⟩ (.slice (some ⟨gs, 0, none⟩) D.secs.length sc)).setCell ⟨w.heap.size, 1, none⟩ (.slice ca D.cache.length cc)).setCell ⟨w.heap.size, 2, none⟩ (.int .i64 D.ops)).setCell ⟨w.heap.size, 3, none⟩ (.slice fa D.faults.length fc)).setCell ⟨w.heap.size, 4, none⟩ (.bool D.down)).cell? ⟨w.heap.size, 1, none⟩ = some (.slice ca D.cache.length cc) := hRv.cell 1
      have m2 : (((((wr.setCell ⟨w.heap.size, 0, none⟩ (.slice (some ⟨gs, 0, none⟩) D.secs.length sc)).setCell ⟨w.heap.size, 1, none⟩ (.slice ca D.cache.length cc)).setCell ⟨w.heap.size, 2, none⟩ (.int .i64 D.ops)).setCell ⟨w.heap.size, 3, none⟩ (.slice fa D.faults.length fc)).setCell ⟨w.heap.size, 4, none⟩ (.bool D.down)).cell? ⟨w.heap.size, 2, none⟩ = some (.int .i64 D.ops) := hRv.cell 2
      have m3 : (((((wr.setCell ⟨w.heap.size, 0, none⟩ (.slice (some ⟨gs, 0, none⟩) D.secs.length sc)).setCell ⟨w.heap.size, 1, none⟩ (.slice ca D.cache.length cc)).setCell ⟨w.heap.size, 2, none⟩ (.int .i64 D.ops)).setCell ⟨w.heap.size, 3, none⟩ (.slice fa D.faults.length fc)).setCell ⟨w.heap.size, 4, none⟩ (.bool D.down)).cell? ⟨w.heap.size, 3, none⟩ = some (.slice fa D.faults.length fc) := hRv.cell 3
      have m4 : (((((wr.setCell ⟨w.heap.size, 0, none⟩ (.slice (some ⟨gs, 0, none⟩) D.secs.length sc)).setCell ⟨w.heap.size, 1, none⟩ (.slice ca D.cache.length cc)).setCell ⟨w.heap.size, 2, none⟩ (.int .i64 D.ops)).setCell ⟨w.heap.size, 3, none⟩ (.slice fa D.faults.length fc)).setCell ⟨w.heap.size, 4, none⟩ (.bool D.down)).cell? ⟨w.heap.size, 4, none⟩ = some (.bool D.down) := hRv.cell 4
      have hlo := hL.lo
      have hxx := hL.x
      have hRx : VN (((((wr.setCell ⟨w.heap.size, 0, none⟩ (.slice (some ⟨gs, 0, none⟩) D.secs.length sc)).setCell ⟨w.heap.size, 1, none⟩ (.slice ca D.cache.length cc)).setCell ⟨w.heap.size, 2, none⟩ (.int .i64 D.ops)).setCell ⟨w.heap.size, 3, none⟩ (.slice fa D.faults.length fc)).setCell ⟨w.heap.size, 4, none⟩ (.bool D.down)) X 32 [.slice (some ⟨gs, 0, none⟩) D.secs.length sc, .slice ca D.cache.length cc, .int .i64 D.ops, .slice fa D.faults.length fc, .bool D.down] := ((((hL.ms.x.other (by omega)).other (by omega)).other (by omega)).other (by omega)).other (by omega)
      have HE : Hid (DD w g ao n cap f (.returned (dval D (some ⟨gs, 0, none⟩) sc ca cc fa fc)) (((((wr.setCell ⟨w.heap.size, 0, none⟩ (.slice (some ⟨gs, 0, none⟩) D.secs.length sc)).setCell ⟨w.heap.size, 1, none⟩ (.slice ca D.cache.length cc)).setCell ⟨w.heap.size, 2, none⟩ (.int .i64 D.ops)).setCell ⟨w.heap.size, 3, none⟩ (.slice fa D.faults.length fc)).setCell ⟨w.heap.size, 4, none⟩ (.bool D.down))) :=
        ⟨D, B, X, gs, sc, ca, cc, fa, fc, ss, cs, rfl, hL.ms.keepX hRk X hRx, hL.ml, hL.ok, by have := hL.few; omega, ((((hL.cn.set (Nat.le_refl _) _ _).set (Nat.le_refl _) _ _).set (Nat.le_refl _) _ _).set (Nat.le_refl _) _ _).set (Nat.le_refl _) _ _, by omega, hxx⟩
      clear hL hRv hRk hRx
      go_wp2
      refine bodyPost_ret (v := dval D (some ⟨gs, 0, none⟩) sc ca cc fa fc) (by simp [results, Try.results104, go_sem, m0, m1, m2, m3, m4, dval]) rfl HE.out
end Go.Proofs.Ytdhfbblameiloaa

/-
  A disk whose sectors are what its variable has.
-/
namespace Go.Proofs.Ytdhfbblameiloaa
open Go.RowKit
set_option maxRecDepth 4000

theorem MS.asSecs {w : World} {B X gs sc : Nat} {ca : Option Addr} {cc : Nat} {fa : Option Addr} {fc : Nat} {ss cs : List Value} {D : PDisk} {S : List (List Int)} (h : MS w B X gs sc ca cc fa fc ss cs D S) : MS w B X gs sc ca cc fa fc ss cs { D with secs := S } S := by
  have e := h.len
  exact ⟨by have := h.x; rw [← e] at this; exact this, h.secs, h.ns.trans e.symm, rfl, h.ob, h.own, h.nc, h.cb, h.fown⟩
end Go.Proofs.Ytdhfbblameiloaa

