/-
  Together: DrawCore, DrawDisk12, GetPlain, GetTextPlain, TextPlain, StrSl, NumsPlain, LofEq, AtB, CrcPlain, CrcBits, CrcImpl, SumPlain, SumImpl
-/
import Derived.Test.YtidjcppfolipjaaPR11
import Derived.Test.YtidjcppfolipjaaPR1
import Derived.Deep.RegionWith
import Derived.Test.YtidjcppfolipjaaPR5
import Derived.Test.YtidjcppfolipjaaPR7
import Derived.Test.YtidjcppfolipjaaPR9
import Derived.Test.YtidjcppfolipjaaPR10
import Derived.Deep.LoopGhost
import Derived.Lib.AppendStr
import Derived.Test.YtidjcppfolipjaaPR4
/-
  The draws of layer 1, as far as a law leans on them.
-/
namespace Go.Proofs.Ytidjcppfolipjaa
open Go.RowKit
set_option maxRecDepth 4000

/-- Drawn bytes in memory of their own. -/
structure Drawn (w w' : World) (g : Nat) (e : Ending) (m b c : Nat) (l : List Int) : Prop where
  ret : e = .returned (.slice (some ⟨b, 0, none⟩) m c)
  len : l.length = m
  byte : ∀ y ∈ l, 0 ≤ y ∧ y ≤ 255
  new : w.heap.size ≤ b
  le : m ≤ c
  row : Row 5 w' b m (fun i => l.getD i 0)
  few : m ≤ 9

set_option maxHeartbeats 2000000 in
theorem l1Some_any (g : Nat) (ao : Option Addr) (n cap : Nat) (f : Nat → Int) (w : World) (hn : n ≤ 1048576) (hC : Cur w g ao n cap f) :
    Calls Try.prog 78 #[.pointer (some ⟨g, 0, none⟩)] w fun e w' => (∃ (b c m : Nat) (l : List Int), Drawn w w' g e m b c l) ∧ Cur w' g ao n cap f ∧ But g w w' := by
  have hb0 : Below w.heap.size w (w.alloc (.cells #[.int .i64 0, .int .i64 1, .int .i64 2, .int .i64 5, .int .i64 9] 3)) := (Below.refl _ _).alloc (Nat.le_refl _) _
  have hgl := hC.lt
  have hz := newInts w [0, 1, 2, 5, 9] 3
  go_enter Try.func78, Try.ntmps78
  go_wp2_with fail
  refine (l1Int_any g ao n cap f w.heap.size 5 (fun i => [0, 1, 2, 5, 9].getD i 0) _ hn (by omega) (by omega) hz (by omega) (hC.below hb0)).mono ?_
  rintro e w1 ⟨j, hj, rfl, hC1, hO1⟩
  have hmem : [(0 : Int), 1, 2, 5, 9].getD j 0 ∈ [(0 : Int), 1, 2, 5, 9] := getD_mem hj
  obtain ⟨m, hm, hm9⟩ : ∃ m : Nat, [(0 : Int), 1, 2, 5, 9].getD j 0 = (m : Int) ∧ m ≤ 9 := by
    simp only [List.mem_cons, List.not_mem_nil, or_false] at hmem
    exact ⟨([(0 : Int), 1, 2, 5, 9].getD j 0).toNat, by omega, by omega⟩
  clear hmem hz
  rw [hm]
  clear hm
  have hB1 : But g w w1 := (But.ofBelow hb0).trans (But.ofOnly hO1)
  clear hO1
  go_wp2_with fail
  refine (l1Bytes_any g ao n cap f m w1 hn (by omega) hC1).mono ?_
  rintro e w2 ⟨b, c, l, rfl, hl, hy, hb, hc, hrow, hC2, hB2⟩
  go_wp2
  go_ret
  exact ⟨⟨b, c, m, l, rfl, hl, hy, Nat.le_trans hB1.size hb, hc, hrow, hm9⟩, hC2, hB1.trans hB2⟩

theorem conv_drawn {w : World} {m b c : Nat} {l : List Int} (h1 : l.length = m) (h2 : ∀ y ∈ l, 0 ≤ y ∧ y ≤ 255) (h4 : m ≤ c) (h5 : Row 5 w b m (fun i => l.getD i 0)) :
    (convert 27 9 (.slice (some ⟨b, 0, none⟩) m c)).run Try.prog w = .ok (.string (strOfNums l)) w := by
  subst h1
  have := conv_view (h5.view h4 (fun i hi => h2 _ (getD_mem hi)))
  rw [lof_self] at this
  exact this
theorem Drawn.mono {w0 w w' : World} {g : Nat} {e : Ending} {m b c : Nat} {l : List Int} (h : Drawn w w' g e m b c l) (hs : w0.heap.size ≤ w.heap.size) : Drawn w0 w' g e m b c l :=
  ⟨h.ret, h.len, h.byte, Nat.le_trans hs h.new, h.le, h.row, h.few⟩

/-- Drawn bytes as a result among others: all that is known of them. -/
structure Own9 (w w' : World) (m b c : Nat) (l : List Int) : Prop where
  len : l.length = m
  byte : ∀ y ∈ l, 0 ≤ y ∧ y ≤ 255
  new : w.heap.size ≤ b
  le : m ≤ c
  row : Row 5 w' b m (fun i => l.getD i 0)
  few : m ≤ 9
theorem Own9.bytes {w w' : World} {m b c : Nat} {l : List Int} (h : Own9 w w' m b c l) : ∀ i, i < m → 0 ≤ l.getD i 0 ∧ l.getD i 0 ≤ 255 := by
  intro i hi
  exact h.byte _ (getD_mem (by rw [h.len]; exact hi))
theorem Own9.view {w w' : World} {m b c : Nat} {l : List Int} (h : Own9 w w' m b c l) : View w' (some ⟨b, 0, none⟩) m c (fun i => l.getD i 0) := h.row.view h.le h.bytes

end Go.Proofs.Ytidjcppfolipjaa

/-
  The draw of a disk.
-/
namespace Go.Proofs.Ytidjcppfolipjaa
open Go.RowKit
set_option maxRecDepth 4000

theorem Up.ofBut {g B : Nat} {w w' : World} (h : But g w w') (hg : g < B) : Up B w w' := ⟨h.size, fun k hk hl => h.block k hl (by omega)⟩
theorem MS.up {w w' : World} {B X gs sc : Nat} {ca : Option Addr} {cc : Nat} {fa : Option Addr} {fc : Nat} {ss cs : List Value} {D : PDisk} {S : List (List Int)} (h : MS w B X gs sc ca cc fa fc ss cs D S) (hu : Up B w w') (hX : B ≤ X) : MS w' B X gs sc ca cc fa fc ss cs D S :=
  ⟨h.x.block (hu.2 X hX h.x.lt), h.secs.up hu, h.ns, h.len, fun i v l h1 h2 => (h.ob i v l h1 h2).up hu, own_upK h.own hu, h.nc, fun i v l h1 h2 => (h.cb i v l h1 h2).up hu, h.faults.up hu⟩
theorem MS.calm {w : World} {B X gs sc : Nat} {ca : Option Addr} {cc : Nat} {fa : Option Addr} {fc : Nat} {ss cs : List Value} {D : PDisk} {S : List (List Int)} (h : MS w B X gs sc ca cc fa fc ss cs D S) : MS (w.setCell ⟨X, 4, none⟩ (.bool false)) B X gs sc ca cc fa fc ss cs { D with down := false } S := by
  have hk := keep_vn (P := fun t => t = 32) (i := 4) (u := .bool false) h.x rfl
  have hx := h.x.set 4 (.bool false)
  simp only [List.set] at hx
  exact ⟨hx, h.secs.keepT hk (by decide), h.ns, h.len, fun i v l h1 h2 => (h.ob i v l h1 h2).keepT hk (by decide), own_keepT h.own hk (by decide), h.nc, fun i v l h1 h2 => (h.cb i v l h1 h2).keepT hk (by decide), h.faults.keepT hk (by decide)⟩
theorem CN.belowB {w : World} {g : Nat} {ao : Option Addr} {n cap : Nat} {f : Nat → Int} {W W' : World} {B : Nat} (h : CN w g ao n cap f W) (hb : Below B W W') (hB : w.heap.size ≤ B) : CN w g ao n cap f W' := by
  have hlt := h.lt
  refine ⟨?_, ⟨hb.os.trans h.but.os, hb.tape.trans h.but.tape, hb.output.trans h.but.output, Nat.le_trans h.but.size hb.size, fun k hk hne => (hb.block k (by omega)).trans (h.but.block k hk hne)⟩, h.lt, h.code⟩
  obtain ⟨i, k, hr, h0, hi⟩ := h.cur.cells
  refine ⟨⟨i, k, hr.of_block (hb.block g (by omega)), h0, hi⟩, ⟨h.cur.view.le, h.cur.view.byte, fun hn => ?_⟩, h.cur.apart⟩
  obtain ⟨b', off, e, hl, hc⟩ := h.cur.view.cells hn
  have := h.code _ e hn
  refine ⟨b', off, e, Nat.lt_of_lt_of_le hl hb.size, fun j hj => ?_⟩
  rw [World.cell?_of_block (w := W) (hb.block b' (by simp at this; omega))]
  exact hc j hj
theorem own_fview {W : World} {B : Nat} {a : Option Addr} {c : Nat} {l : List PFault} (h : W.ownsRow B 79 3 (.slice a l.length c) l.length (fcells l)) : FView W a c l := by
  obtain ⟨a', c', e, h1, h2, h3⟩ := own_rl h
  cases e
  exact fview_rl h3 h1 h2
theorem OkD.made {m : Nat} {l : List PFault} (hm : 4 ≤ m ∧ m ≤ 48) (hl : FaultsOk l) : OkD (madeD m l) :=
  ⟨⟨by simpa [madeD] using hm.1, by simpa [madeD] using hm.2, fun i hi => by simp [madeD]⟩, ⟨by simp [madeD], fun i hi => by simp [madeD] at hi⟩, ⟨by simp [madeD], by simp [madeD]⟩, hl, by simp [madeD]⟩
/-- A disk that is being drawn. -/
structure LD (w : World) (g : Nat) (ao : Option Addr) (n cap : Nat) (f : Nat → Int) (B X gs sc : Nat) (fa : Option Addr) (fc : Nat) (N k : Nat) (D : PDisk) (ca : Option Addr) (cc : Nat) (ss cs : List Value) (W : World) : Prop where
  ms : MS W B X gs sc ca cc fa fc ss cs D D.secs
  ml : ML D sc ca cc fa fc
  ok : OkD D
  len : D.secs.length = N
  few : k + D.cache.length ≤ 12
  r : VN W w.heap.size 32 [.slice none 0 0, .slice none 0 0, .int .i64 0, .slice none 0 0, .bool false]
  cn : CN w g ao n cap f W
  lo : w.heap.size < B
  b : B ≤ W.heap.size
  x : B ≤ X
theorem LD.but {w : World} {g : Nat} {ao : Option Addr} {n cap : Nat} {f : Nat → Int} {B X gs sc : Nat} {fa : Option Addr} {fc : Nat} {N k : Nat} {D : PDisk} {ca : Option Addr} {cc : Nat} {ss cs : List Value} {W W' : World} (h : LD w g ao n cap f B X gs sc fa fc N k D ca cc ss cs W) (hC : Cur W' g ao n cap f) (hb : But g W W') : LD w g ao n cap f B X gs sc fa fc N k D ca cc ss cs W' :=
  have h1 := h.cn.lt
  have h2 := h.lo
  ⟨h.ms.up (Up.ofBut hb (by omega)) h.x, h.ml, h.ok, h.len, h.few, h.r.block (hb.block _ h.r.lt (by omega)), h.cn.next hC hb, h.lo, Nat.le_trans h.b hb.size, h.x⟩
theorem LD.op {w : World} {g : Nat} {ao : Option Addr} {n cap : Nat} {f : Nat → Int} {B X gs sc : Nat} {fa : Option Addr} {fc : Nat} {N k : Nat} {D D' : PDisk} {ca ca' : Option Addr} {cc cc' : Nat} {ss cs ss' cs' : List Value} {W W' : World} (h : LD w g ao n cap f B X gs sc fa fc N (k + 1) D ca cc ss cs W) (hm : MS W' B X gs sc ca' cc' fa fc ss' cs' D' D'.secs) (hl : ML D' sc ca' cc' fa fc) (hok : OkD D') (hn : D'.secs.length = D.secs.length) (hc : D'.cache.length ≤ D.cache.length + 1) (hb : Below B W W') : LD w g ao n cap f B X gs sc fa fc N k D' ca' cc' ss' cs' W' :=
  have h2 := h.lo
  ⟨hm, hl, hok, hn.trans h.len, by have := h.few; omega, h.r.block (hb.block _ h2), h.cn.belowB hb (by omega), h.lo, Nat.le_trans h.b hb.size, h.x⟩
/-- What was drawn. -/
def DD (w : World) (g : Nat) (ao : Option Addr) (n cap : Nat) (f : Nat → Int) (e : Ending) (W : World) : Prop :=
  ∃ (D : PDisk) (B X gs sc : Nat) (ca : Option Addr) (cc : Nat) (fa : Option Addr) (fc : Nat) (ss cs : List Value), e = .returned (dval D (some ⟨gs, 0, none⟩) sc ca cc fa fc) ∧ MS W B X gs sc ca cc fa fc ss cs D D.secs ∧ ML D sc ca cc fa fc ∧ OkD D ∧ D.cache.length ≤ 12 ∧ CN w g ao n cap f W ∧ w.heap.size ≤ B ∧ B ≤ X

set_option maxHeartbeats 8000000 in
theorem l12Draw_any (g : Nat) (ao : Option Addr) (n cap : Nat) (f : Nat → Int) (w : World) (hn : n ≤ 1048576) (hC : Cur w g ao n cap f) :
    Calls Try.prog 104 #[.pointer (some ⟨g, 0, none⟩)] w (DD w g ao n cap f) := by
  have hR := CN.start hC
  have hg := hR.lt
  have hbA : Below w.heap.size w (w.alloc (.cells #[.slice none 0 0, .slice none 0 0, .int .i64 0, .slice none 0 0, .bool false] 32)) := (Below.refl _ _).alloc (Nat.le_refl _) _
  have hV := VN.new w 32 [.slice none 0 0, .slice none 0 0, .int .i64 0, .slice none 0 0, .bool false]
  replace hR := hR.below hbA
  have hsz : w.heap.size < (w.alloc (.cells #[.slice none 0 0, .slice none 0 0, .int .i64 0, .slice none 0 0, .bool false] 32)).heap.size := by simp
  clear hC hbA
  go_enter Try.func104, Try.ntmps104
  go_wp2_with fail
  obtain ⟨WA, hWA⟩ : ∃ x, Hid (w.alloc (.cells #[.slice none 0 0, .slice none 0 0, .int .i64 0, .slice none 0 0, .bool false] 32) = x) := ⟨_, rfl⟩
  rw [hWA.out] at hR hV hsz ⊢
  refine (l1Below_any g ao n cap f 4 WA hn (by omega) (by omega) hR.cur).mono ?_
  rintro e w1 ⟨x, rfl, hx0, hx1, hC1, hO1⟩
  replace hV := hV.block ((But.ofOnly hO1).block _ hV.lt (by omega))
  replace hR := hR.next hC1 (But.ofOnly hO1)
  have hsz1 := Nat.lt_of_lt_of_le hsz (But.ofOnly hO1).size
  clear hC1 hO1 hWA hsz
  go_wp2_with fail
  refine (l12FaultList_any g ao n cap f w1 hn hR.cur).mono ?_
  rintro e w2 ⟨l, v, rfl, hDF, hl3, hC2⟩
  replace hV := hV.block (hC2.but.block _ hV.lt (by omega))
  replace hR := hR.next hC2.cur hC2.but
  have hsz2 := Nat.lt_of_lt_of_le hsz1 hC2.size
  obtain ⟨va, vc, ev⟩ := own_form hDF.own
  subst ev
  have HF : Hid (FaultsOk l) := hDF.ok
  have hDN := specDiskNew_own (4 + x) va vc l w2 (own_fview hDF.own) (by omega)
  clear hC2 hsz1 hDF
  go_wp2_with fail
  refine hDN.mono ?_
  rintro e w3 ⟨v3, rfl, hb3, h3⟩
  clear hDN
  obtain ⟨-, hK⟩ := h3.resolve_right (fun h => h.1 ⟨by omega, HF.out⟩)
  obtain ⟨sa, sc, ca, cc, fa, fc, ss, cs, rfl, hKO, hOw⟩ := hK
  obtain ⟨D0, hD0⟩ : ∃ z, Hid (madeD (4 + x).toNat l = z) := ⟨_, rfl⟩
  have hok0 : OkD D0 := hD0.out ▸ OkD.made (m := (4 + x).toNat) (by omega) HF.out
  have hlen0 : 4 ≤ D0.secs.length ∧ D0.secs.length ≤ 48 := by have := hok0.1; exact ⟨this.1, this.2.1⟩
  have hc0 : D0.cache.length = 0 := by rw [← hD0.out]; rfl
  rw [hD0.out] at hKO hOw ⊢
  obtain ⟨gs, es⟩ : ∃ gs, sa = some ⟨gs, 0, none⟩ := by
    obtain ⟨g', e, -⟩ := hKO.secs.cell (by rw [hKO.ns]; omega)
    exact ⟨g', e⟩
  subst es
  have hbX : Below w3.heap.size w3 (w3.alloc (.cells #[.slice (some ⟨gs, 0, none⟩) D0.secs.length sc, .slice ca D0.cache.length cc, .int .i64 D0.ops, .slice fa D0.faults.length fc, .bool D0.down] 32)) := (Below.refl _ _).alloc (Nat.le_refl _) _
  have hX := VN.new w3 32 [.slice (some ⟨gs, 0, none⟩) D0.secs.length sc, .slice ca D0.cache.length cc, .int .i64 D0.ops, .slice fa D0.faults.length fc, .bool D0.down]
  have hL0 : LD w g ao n cap f w2.heap.size w3.heap.size gs sc fa fc D0.secs.length 12 D0 ca cc ss cs (w3.alloc (.cells #[.slice (some ⟨gs, 0, none⟩) D0.secs.length sc, .slice ca D0.cache.length cc, .int .i64 D0.ops, .slice fa D0.faults.length fc, .bool D0.down] 32)) :=
    ⟨MS.start (hKO.up (Up.ofBelow hbX)) hX (own_upK hOw (Up.ofBelow hbX)), ⟨hKO.sle, hKO.cle, hKO.cnil, hKO.fle, hKO.fnil⟩, hok0, rfl, by omega, (hV.block (hb3.block _ hsz2)).below hbX, (hR.below hb3).below hbX, hsz2, Nat.le_trans hb3.size hbX.size, hb3.size⟩
  clear hbX hX hKO hOw hV hR hb3 hsz2 hD0 HF hl3 h3 hc0
  unfold dval
  obtain ⟨X, hXe⟩ := hidEx w3.heap.size
  obtain ⟨B, hBe⟩ := hidEx w2.heap.size
  obtain ⟨W3, hW3⟩ : ∃ z, Hid (w3.alloc (.cells #[.slice (some ⟨gs, 0, none⟩) D0.secs.length sc, .slice ca D0.cache.length cc, .int .i64 D0.ops, .slice fa D0.faults.length fc, .bool D0.down] 32) = z) := ⟨_, rfl⟩
  rw [hXe.out, hBe.out, hW3.out] at hL0
  go_wp2_with fail
  rw [hXe.out, hW3.out]
  refine (l1Below_any g ao n cap f 12 W3 hn (by omega) (by omega) hL0.cn.cur).mono ?_
  rintro e w4 ⟨y, rfl, hy0, hy1, hC4, hO4⟩
  have HL : Hid (LD w g ao n cap f B X gs sc fa fc D0.secs.length 12 D0 ca cc ss cs w4) := hL0.but hC4 (But.ofOnly hO4)
  clear hL0 hC4 hO4 hXe hBe hW3
  obtain ⟨m, rfl⟩ := Int.eq_ofNat_of_zero_le hy0
  obtain ⟨N, hN⟩ := hidEx D0.secs.length
  rw [hN.out] at HL hlen0
  clear hok0 hN
  go_wp2
  go_loopg [4] m (fun q i wr => ∃ (k : Nat) (D : PDisk) (ca : Option Addr) (cc : Nat) (ss cs : List Value), q = k ∧ i = .int .i64 k ∧ LD w g ao n cap f B X gs sc fa fc N k D ca cc ss cs wr)
  case atStart => exact ⟨m, D0, ca, cc, ss, cs, rfl, rfl, ⟨HL.out.ms, HL.out.ml, HL.out.ok, HL.out.len, by have := HL.out.few; omega, HL.out.r, HL.out.cn, HL.out.lo, HL.out.b, HL.out.x⟩⟩
  case round =>
    clear HL
    obtain ⟨k, D, ca, cc, ss, cs, hq, rfl, hL⟩ := hrel
    by_cases hk : 0 < k
    · obtain ⟨k, rfl⟩ : ∃ j, k = j + 1 := ⟨k - 1, by omega⟩
      have hkz : (0 : Int) < ((k + 1 : Nat) : Int) := by omega
      have hkb : k ≤ 11 := by have := hL.few; omega
      go_wp2_with fail
      refine (l1Below_any g ao n cap f 5 wr hn (by omega) (by omega) hL.cn.cur).mono ?_
      rintro e w5 ⟨y, rfl, hy0', hy1', hC5, hO5⟩
      replace hL := hL.but hC5 (But.ofOnly hO5)
      clear hC5 hO5
      by_cases hya : y = 0
      · subst hya
        have hF := l12Flush_any B X gs sc ca cc fa fc ss cs D w5 hL.ms hL.ml hL.ok hL.b hL.x
        go_wp2_with fail
        refine hF.mono ?_
        rintro e w6 ⟨rfl, ⟨ca', cc', ss', cs', hM, hl⟩, hb⟩
        have HL : Hid (LD w g ao n cap f B X gs sc fa fc N k (flushF D).1 ca' cc' ss' cs' w6) := hL.op hM hl hL.ok.flush flush_len.1 (by have := (flush_len (D := D)).2; omega) hb
        clear hL hF hM hl hb
        go_wp2
        go_roundg k
        case measure => omega
        case rel => exact ⟨k, _, _, _, _, _, rfl, congrArg (Value.int .i64) (by omega), HL.out⟩
      by_cases hyb : y = 1
      · subst hyb
        have y4 : w5.cell? ⟨X, 4, none⟩ = some (.bool D.down) := hL.ms.x.cell 4
        have q4 := hL.ms.x.fz 4
        have hbS : Below B w5 (w5.setCell ⟨X, 4, none⟩ (.bool false)) := (Below.refl _ _).setCell (p := ⟨X, 4, none⟩) hL.x _
        have HL : Hid (LD w g ao n cap f B X gs sc fa fc N k { D with down := false } ca cc ss cs (w5.setCell ⟨X, 4, none⟩ (.bool false))) := hL.op hL.ms.calm ⟨hL.ml.s, hL.ml.c, hL.ml.cn, hL.ml.f, hL.ml.fn⟩ hL.ok.on rfl (Nat.le_succ _) hbS
        clear hL hbS
        go_wp2
        go_roundg k
        case measure => omega
        case rel => exact ⟨k, _, _, _, _, _, rfl, congrArg (Value.int .i64) (by omega), HL.out⟩
      have y0 : w5.cell? ⟨X, 0, none⟩ = some (.slice (some ⟨gs, 0, none⟩) D.secs.length sc) := hL.ms.x.cell 0
      have hln : 4 ≤ D.secs.length := by have := hL.len; omega
      have hln2 : D.secs.length ≤ 48 := by have := hL.len; omega
      go_wp2_with fail
      refine (l1Below_any g ao n cap f (D.secs.length : Nat) w5 hn (by omega) (by omega) hL.cn.cur).mono ?_
      rintro e w6 ⟨u, rfl, hu0, hu1, hC6, hO6⟩
      replace hL := hL.but hC6 (But.ofOnly hO6)
      clear hC6 hO6 y0
      go_wp2_with fail
      refine (l1Some_any g ao n cap f w6 hn hL.cn.cur).mono ?_
      rintro e w7 ⟨⟨b, c, mm, l, hD⟩, hC7, hB7⟩
      obtain rfl := hD.ret
      obtain rfl := hD.len
      replace hL := hL.but hC7 hB7
      have hW := l12Write_any B X gs sc ca cc fa fc ss cs D u (some ⟨b, 0, none⟩) c l w7 hL.ms hL.ml ⟨hL.ok, ⟨hu0, hu1⟩, by have := hD.few; omega, by have := hL.few; omega⟩ (Own9.view ⟨rfl, hD.byte, hD.new, hD.le, hD.row, hD.few⟩) (fun e => by cases e) hL.b hL.x
      have hmw : MayW D u l := ⟨hL.ok, ⟨hu0, hu1⟩, by have := hD.few; omega, by have := hL.few; omega⟩
      clear hC7 hB7 hD
      go_wp2_with fail
      refine hW.mono ?_
      rintro e w8 ⟨rfl, ⟨ca', cc', ss', cs', hM, hl⟩, hb⟩
      have HL : Hid (LD w g ao n cap f B X gs sc fa fc N k (writeF D u l).1 ca' cc' ss' cs' w8) := hL.op hM hl (OkD.write hmw) write_len.1 write_len.2 hb
      clear hL hW hM hl hb hmw
      go_wp2
      go_roundg k
      case measure => omega
      case rel => exact ⟨k, _, _, _, _, _, rfl, congrArg (Value.int .i64) (by omega), HL.out⟩
    · have hkz : ¬ (0 : Int) < (k : Int) := by omega
      have a0 : wr.cell? ⟨X, 0, none⟩ = some (.slice (some ⟨gs, 0, none⟩) D.secs.length sc) := hL.ms.x.cell 0
      have a1 : wr.cell? ⟨X, 1, none⟩ = some (.slice ca D.cache.length cc) := hL.ms.x.cell 1
      have a2 : wr.cell? ⟨X, 2, none⟩ = some (.int .i64 D.ops) := hL.ms.x.cell 2
      have a3 : wr.cell? ⟨X, 3, none⟩ = some (.slice fa D.faults.length fc) := hL.ms.x.cell 3
      have a4 : wr.cell? ⟨X, 4, none⟩ = some (.bool D.down) := hL.ms.x.cell 4
      have r0 : wr.cell? ⟨w.heap.size, 0, none⟩ = some (.slice none 0 0) := hL.r.cell 0
      have r1 : wr.cell? ⟨w.heap.size, 1, none⟩ = some (.slice none 0 0) := hL.r.cell 1
      have r2 : wr.cell? ⟨w.heap.size, 2, none⟩ = some (.int .i64 0) := hL.r.cell 2
      have r3 : wr.cell? ⟨w.heap.size, 3, none⟩ = some (.slice none 0 0) := hL.r.cell 3
      have r4 : wr.cell? ⟨w.heap.size, 4, none⟩ = some (.bool false) := hL.r.cell 4
      have z0 := hL.r.fz 0
      have z1 := hL.r.fz 1
      have z2 := hL.r.fz 2
      have z3 := hL.r.fz 3
      have z4 := hL.r.fz 4
      have hRv := ret5_vn (.slice (some ⟨gs, 0, none⟩) D.secs.length sc) (.slice ca D.cache.length cc) (.int .i64 D.ops) (.slice fa D.faults.length fc) (.bool D.down) hL.r
      have hRk := ret5_keep (.slice (some ⟨gs, 0, none⟩) D.secs.length sc) (.slice ca D.cache.length cc) (.int .i64 D.ops) (.slice fa D.faults.length fc) (.bool D.down) hL.r
      have m0 : (((((wr.setCell ⟨w.heap.size, 0, none⟩ (.slice (some ⟨gs, 0, none⟩) D.secs.length sc)).setCell ⟨w.heap.size, 1, none⟩ (.slice ca D.cache.length cc)).setCell ⟨w.heap.size, 2, none⟩ (.int .i64 D.ops)).setCell ⟨w.heap.size, 3, none⟩ (.slice fa D.faults.length fc)).setCell ⟨w.heap.size, 4, none⟩ (.bool D.down)).cell? ⟨w.heap.size, 0, none⟩ = some (.slice (some ⟨gs, 0, none⟩) D.secs.length sc) := hRv.cell 0
      have m1 : (((((wr.setCell ⟨w.heap.size, 0, none⟩ (.slice (some ⟨gs, 0, none⟩) D.secs.length sc)).setCell ⟨w.heap.size, 1, none⟩ (.slice ca D.cache.length cc)).setCell ⟨w.heap.size, 2, none⟩ (.int .i64 D.ops)).setCell ⟨w.heap.size, 3, none⟩ (.slice fa D.faults.length fc)).setCell ⟨w.heap.size, 4, none⟩ (.bool D.down)).cell? ⟨w.heap.size, 1, none⟩ = some (.slice ca D.cache.length cc) := hRv.cell 1
      have m2 : (((((wr.setCell ⟨w.heap.size, 0, none⟩ (.slice (some ⟨gs, 0, none⟩) D.secs.length sc)).setCell ⟨w.heap.size, 1, none⟩ (.slice ca D.cache.length cc)).setCell ⟨w.heap.size, 2, none⟩ (.int .i64 D.ops)).setCell ⟨w.heap.size, 3, none⟩ (.slice fa D.faults.length fc)).setCell ⟨w.heap.size, 4, none⟩ (.bool D.down)).cell? ⟨w.heap.size, 2, none⟩ = some (.int .i64 D.ops) := hRv.cell 2
      have m3 : (((((wr.setCell ⟨w.heap.size, 0, none⟩ (.slice (some ⟨gs, 0, none⟩) D.secs.length sc)).setCell ⟨w.heap.size, 1, none⟩ (.slice ca D.cache.length cc)).setCell ⟨w.heap.size, 2, none⟩ (.int .i64 D.ops)).setCell ⟨w.heap.size, 3, none⟩ (.slice fa D.faults.length fc)).setCell ⟨w.heap.size, 4, none⟩ (.bool D.down)).cell? ⟨w.heap.size, 3, none⟩ = some (.slice fa D.faults.length fc) := hRv.cell 3
      have m4 : (((((wr.setCell ⟨w.heap.size, 0, none⟩ (.slice (some ⟨gs, 0, none⟩) D.secs.length sc)).setCell ⟨w.heap.size, 1, none⟩ (.slice ca D.cache.length cc)).setCell ⟨w.heap.size, 2, none⟩ (.int .i64 D.ops)).setCell ⟨w.heap.size, 3, none⟩ (.slice fa D.faults.length fc)).setCell ⟨w.heap.size, 4, none⟩ (.bool D.down)).cell? ⟨w.heap.size, 4, none⟩ = some (.bool D.down) := hRv.cell 4
      have hlo := hL.lo
      have hxx := hL.x
      have hRx : VN (((((wr.setCell ⟨w.heap.size, 0, none⟩ (.slice (some ⟨gs, 0, none⟩) D.secs.length sc)).setCell ⟨w.heap.size, 1, none⟩ (.slice ca D.cache.length cc)).setCell ⟨w.heap.size, 2, none⟩ (.int .i64 D.ops)).setCell ⟨w.heap.size, 3, none⟩ (.slice fa D.faults.length fc)).setCell ⟨w.heap.size, 4, none⟩ (.bool D.down)) X 32 [.slice (some ⟨gs, 0, none⟩) D.secs.length sc, .slice ca D.cache.length cc, .int .i64 D.ops, .slice fa D.faults.length fc, .bool D.down] := ((((hL.ms.x.other (by omega)).other (by omega)).other (by omega)).other (by omega)).other (by omega)
      have HE : Hid (DD w g ao n cap f (.returned (dval D (some ⟨gs, 0, none⟩) sc ca cc fa fc)) (((((wr.setCell ⟨w.heap.size, 0, none⟩ (.slice (some ⟨gs, 0, none⟩) D.secs.length sc)).setCell ⟨w.heap.size, 1, none⟩ (.slice ca D.cache.length cc)).setCell ⟨w.heap.size, 2, none⟩ (.int .i64 D.ops)).setCell ⟨w.heap.size, 3, none⟩ (.slice fa D.faults.length fc)).setCell ⟨w.heap.size, 4, none⟩ (.bool D.down))) :=
        ⟨D, B, X, gs, sc, ca, cc, fa, fc, ss, cs, rfl, hL.ms.keepX hRk X hRx, hL.ml, hL.ok, by have := hL.few; omega, ((((hL.cn.set (Nat.le_refl _) _ _).set (Nat.le_refl _) _ _).set (Nat.le_refl _) _ _).set (Nat.le_refl _) _ _).set (Nat.le_refl _) _ _, by omega, hxx⟩
      clear hL hRv hRk hRx
      go_wp2
      refine bodyPost_ret (v := dval D (some ⟨gs, 0, none⟩) sc ca cc fa fc) (by simp [results, Try.results104, go_sem, m0, m1, m2, m3, m4, dval]) rfl HE.out
end Go.Proofs.Ytidjcppfolipjaa

/-
  What is read of bytes as a number, plainly: of n bytes (f), from the place p on.
-/
namespace Go.Proofs.Ytidjcppfolipjaa

def getU (n : Nat) (f : Nat → Int) (p : Int) : Int × Int × Bool :=
  if p < 0 ∨ (n : Int) ≤ p then (0, 0, false)
  else if f p.toNat < 128 then (f p.toNat, p + 1, true)
  else if n ≤ p.toNat + 1 then (0, 0, false)
  else if f (p.toNat + 1) < 128 then (if f (p.toNat + 1) = 0 then (0, 0, false) else (f p.toNat - 128 + f (p.toNat + 1) * 128, p + 2, true))
  else if n ≤ p.toNat + 2 then (0, 0, false)
  else if f (p.toNat + 2) < 128 then
    (if f (p.toNat + 2) = 0 ∨ 1000000 < f p.toNat - 128 + (f (p.toNat + 1) - 128) * 128 + f (p.toNat + 2) * 16384 then (0, 0, false)
     else (f p.toNat - 128 + (f (p.toNat + 1) - 128) * 128 + f (p.toNat + 2) * 16384, p + 3, true))
  else (0, 0, false)

theorem getU_neg (n : Nat) (f : Nat → Int) (p : Int) (h : p < 0) : getU n f p = (0, 0, false) := by
  unfold getU; rw [if_pos (Or.inl h)]
theorem getU_past (n : Nat) (f : Nat → Int) (i : Nat) (h : n ≤ i) : getU n f (i : Int) = (0, 0, false) := by
  unfold getU; rw [if_pos (Or.inr (by omega))]
section
variable (n : Nat) (f : Nat → Int) (i : Nat)
theorem getU_in (h : i < n) : ¬ ((i : Int) < 0 ∨ (n : Int) ≤ (i : Int)) := by omega
theorem getU_1 (h : i < n) (h1 : f i < 128) : getU n f (i : Int) = (f i, (i : Int) + 1, true) := by
  unfold getU; rw [if_neg (getU_in n i h), Int.toNat_natCast, if_pos h1]
theorem getU_2end (h : i < n) (h1 : 128 ≤ f i) (h2 : n ≤ i + 1) : getU n f (i : Int) = (0, 0, false) := by
  unfold getU; rw [if_neg (getU_in n i h), Int.toNat_natCast, if_neg (by omega), if_pos h2]
theorem getU_2zero (h : i + 1 < n) (h1 : 128 ≤ f i) (h2 : f (i + 1) = 0) : getU n f (i : Int) = (0, 0, false) := by
  unfold getU; rw [if_neg (getU_in n i (by omega)), Int.toNat_natCast, if_neg (by omega), if_neg (by omega), if_pos (by omega), if_pos h2]
theorem getU_2 (h : i + 1 < n) (h1 : 128 ≤ f i) (h2 : f (i + 1) < 128) (h3 : f (i + 1) ≠ 0) : getU n f (i : Int) = (f i - 128 + f (i + 1) * 128, (i : Int) + 2, true) := by
  unfold getU; rw [if_neg (getU_in n i (by omega)), Int.toNat_natCast, if_neg (by omega), if_neg (by omega), if_pos (by omega), if_neg h3]
theorem getU_3end (h : i + 1 < n) (h1 : 128 ≤ f i) (h2 : 128 ≤ f (i + 1)) (h3 : n ≤ i + 2) : getU n f (i : Int) = (0, 0, false) := by
  unfold getU; rw [if_neg (getU_in n i (by omega)), Int.toNat_natCast, if_neg (by omega), if_neg (by omega), if_neg (by omega), if_pos h3]
theorem getU_3no (h : i + 2 < n) (h1 : 128 ≤ f i) (h2 : 128 ≤ f (i + 1)) (h3 : f (i + 2) < 128) (h4 : f (i + 2) = 0 ∨ 1000000 < f i - 128 + (f (i + 1) - 128) * 128 + f (i + 2) * 16384) : getU n f (i : Int) = (0, 0, false) := by
  unfold getU; rw [if_neg (getU_in n i (by omega)), Int.toNat_natCast, if_neg (by omega), if_neg (by omega), if_neg (by omega), if_neg (by omega), if_pos h3, if_pos h4]
theorem getU_3 (h : i + 2 < n) (h1 : 128 ≤ f i) (h2 : 128 ≤ f (i + 1)) (h3 : f (i + 2) < 128) (h4 : ¬ (f (i + 2) = 0 ∨ 1000000 < f i - 128 + (f (i + 1) - 128) * 128 + f (i + 2) * 16384)) :
    getU n f (i : Int) = (f i - 128 + (f (i + 1) - 128) * 128 + f (i + 2) * 16384, (i : Int) + 3, true) := by
  unfold getU; rw [if_neg (getU_in n i (by omega)), Int.toNat_natCast, if_neg (by omega), if_neg (by omega), if_neg (by omega), if_neg (by omega), if_pos h3, if_neg h4]
theorem getU_long (h : i + 2 < n) (h1 : 128 ≤ f i) (h2 : 128 ≤ f (i + 1)) (h3 : 128 ≤ f (i + 2)) : getU n f (i : Int) = (0, 0, false) := by
  unfold getU; rw [if_neg (getU_in n i (by omega)), Int.toNat_natCast, if_neg (by omega), if_neg (by omega), if_neg (by omega), if_neg (by omega), if_neg (by omega)]
end
end Go.Proofs.Ytidjcppfolipjaa

/-
  What is read as a text, plainly.
-/
namespace Go.Proofs.Ytidjcppfolipjaa
open Go.RowKit
set_option maxRecDepth 4000

theorem getU_bd {n : Nat} {f : Nat → Int} {p a q : Int} (hf : ∀ i, i < n → 0 ≤ f i ∧ f i ≤ 255) (h : getU n f p = (a, q, true)) : 0 ≤ a ∧ a ≤ 1000000 ∧ 0 ≤ q ∧ q ≤ n := by
  unfold getU at h
  by_cases h0 : p < 0 ∨ (n : Int) ≤ p
  · rw [if_pos h0] at h; cases h
  rw [if_neg h0] at h
  have b0 := hf p.toNat (by omega)
  by_cases h1 : f p.toNat < 128
  · rw [if_pos h1] at h; cases h; omega
  rw [if_neg h1] at h
  by_cases h2 : n ≤ p.toNat + 1
  · rw [if_pos h2] at h; cases h
  rw [if_neg h2] at h
  have b1 := hf (p.toNat + 1) (by omega)
  by_cases h3 : f (p.toNat + 1) < 128
  · rw [if_pos h3] at h
    by_cases h4 : f (p.toNat + 1) = 0
    · rw [if_pos h4] at h; cases h
    · rw [if_neg h4] at h; cases h; omega
  rw [if_neg h3] at h
  by_cases h5 : n ≤ p.toNat + 2
  · rw [if_pos h5] at h; cases h
  rw [if_neg h5] at h
  have b2 := hf (p.toNat + 2) (by omega)
  by_cases h6 : f (p.toNat + 2) < 128
  · rw [if_pos h6] at h
    by_cases h7 : f (p.toNat + 2) = 0 ∨ 1000000 < f p.toNat - 128 + (f (p.toNat + 1) - 128) * 128 + f (p.toNat + 2) * 16384
    · rw [if_pos h7] at h; cases h
    · rw [if_neg h7] at h; cases h; omega
  rw [if_neg h6] at h; cases h

/-- What is read as a text. -/
def getText (n : Nat) (f : Nat → Int) (p : Int) : ByteArray × Int × Bool :=
  if (getU n f p).2.2 = true ∧ (getU n f p).1 ≤ n - (getU n f p).2.1 then (strOfNums (lof (getU n f p).1.toNat (fun i => f ((getU n f p).2.1.toNat + i))), (getU n f p).2.1 + (getU n f p).1, true) else (strOfNums [], 0, false)

theorem View.cut {w : World} {b off n cap m k : Nat} {f : Nat → Int} (h : View w (some ⟨b, off, none⟩) n cap f) (hm : k + m ≤ n) : View w (some ⟨b, off + k, none⟩) m (cap - k) (fun i => f (k + i)) := by
  have := h.le
  refine ⟨by omega, fun i hi => h.byte (k + i) (by omega), fun h0 => ?_⟩
  obtain ⟨b', off', e, hb, hc⟩ := h.cells (by omega)
  simp only [Option.some.injEq, Addr.mk.injEq, and_true] at e
  obtain ⟨rfl, rfl⟩ := e
  exact ⟨b, off + k, rfl, hb, fun i hi => by rw [Nat.add_assoc]; exact hc (k + i) (by omega)⟩

theorem retT {s s' : ByteArray} {b b' : Int} {c c' : Bool} (h1 : s = s') (h2 : b = b') (h3 : c = c') :
    Ending.returned (.tuple #[.string s, .int .i64 b, .bool c]) = .returned (.tuple #[.string s', .int .i64 b', .bool c']) := by rw [h1, h2, h3]

end Go.Proofs.Ytidjcppfolipjaa

/-
  A text's bytes as numbers; what is put of a text.
-/
namespace Go.Proofs.Ytidjcppfolipjaa
open Go.RowKit
set_option maxRecDepth 4000

/-- A text's bytes as numbers. -/
def sl (s : ByteArray) : List Int := s.data.toList.map (fun b => (b.toNat : Int))
theorem sl_len (s : ByteArray) : (sl s).length = s.size := by unfold sl; rw [List.length_map, Array.length_toList]; rfl
theorem sl_byte (s : ByteArray) : ∀ y ∈ sl s, 0 ≤ y ∧ y ≤ 255 := by
  intro y hy
  simp only [sl, List.mem_map] at hy
  obtain ⟨b, _, rfl⟩ := hy
  have := b.toNat_lt
  omega
theorem sl_cells (s : ByteArray) : Lib.strCells s = bl (sl s) := by simp [Lib.strCells, bl, sl]

/-- What is put: the bytes, the count's groups, the text. -/
def textL (n : Nat) (f : Nat → Int) (s : ByteArray) : List Int := lof n f ++ groups (clampN s.size) ++ sl s
theorem textL_len (n : Nat) (f : Nat → Int) (s : ByteArray) : (textL n f s).length = n + (groups (clampN s.size)).length + s.size := by
  unfold textL; rw [List.length_append, List.length_append, lof_len, sl_len]

end Go.Proofs.Ytidjcppfolipjaa

/-
  A text and its bytes as numbers, there and back.
-/
namespace Go.Proofs.Ytidjcppfolipjaa
open Go.RowKit
set_option maxRecDepth 4000

theorem strOfNums_sl (s : ByteArray) : strOfNums (sl s) = s := by
  apply ByteArray.ext
  apply Array.ext'
  show ((sl s).map fun n => UInt8.ofNat n.toNat) = s.data.toList
  unfold sl
  rw [List.map_map]
  conv => rhs; rw [← List.map_id s.data.toList]
  apply List.map_congr_left
  intro b _
  simp
theorem sl_strOfNums {t : List Int} (h : ∀ y ∈ t, 0 ≤ y ∧ y ≤ 255) : sl (strOfNums t) = t :=
  strOfNums_inj (sl_byte _) h (strOfNums_sl _)
end Go.Proofs.Ytidjcppfolipjaa

/-
  What was put comes back, plainly: a number of its groups, a text of its bytes; cut by one byte the number does not.
-/
namespace Go.Proofs.Ytidjcppfolipjaa
open Go.RowKit
set_option maxRecDepth 4000

theorem getD_left (l k : List Int) (i : Nat) (h : i < l.length) : (l ++ k).getD i 0 = l.getD i 0 := by
  rw [List.getD_eq_getElem?_getD, List.getD_eq_getElem?_getD, List.getElem?_append_left h]
theorem getD_right (l k : List Int) (i : Nat) : (l ++ k).getD (l.length + i) 0 = k.getD i 0 := by
  rw [List.getD_eq_getElem?_getD, List.getD_eq_getElem?_getD, List.getElem?_append_right (by omega)]
  congr 2
  omega

/-- A number that lies as its groups from n on is read there. -/
theorem getU_put (n N : Nat) (F : Nat → Int) (x : Int) (h0 : 0 ≤ x) (h1 : x ≤ 1000000) (hF : ∀ i, i < (groups x).length → F (n + i) = (groups x).getD i 0) (hN : n + (groups x).length ≤ N) :
    getU N F (n : Int) = (x, (n : Int) + (groups x).length, true) := by
  by_cases a : x < 128
  · have e : groups x = [x] := by unfold groups; rw [if_pos a]
    rw [e] at hF hN ⊢
    have f0 : F n = x := by have := hF 0 (by simp); simpa using this
    simp only [List.length_cons, List.length_nil] at hN
    rw [getU_1 N F n (by omega) (by omega), f0]
    rfl
  · by_cases b : x < 16384
    · have e : groups x = [x % 128 + 128, x / 128] := by unfold groups; rw [if_neg a, if_pos b]
      rw [e] at hF hN ⊢
      have f0 : F n = x % 128 + 128 := by have := hF 0 (by simp); simpa using this
      have f1 : F (n + 1) = x / 128 := by have := hF 1 (by simp); simpa using this
      simp only [List.length_cons, List.length_nil] at hN
      rw [getU_2 N F n (by omega) (by omega) (by omega) (by omega), f0, f1]
      have : x % 128 + 128 - 128 + x / 128 * 128 = x := by omega
      rw [this]
      rfl
    · have e : groups x = [x % 128 + 128, x / 128 % 128 + 128, x / 16384] := by unfold groups; rw [if_neg a, if_neg b]
      rw [e] at hF hN ⊢
      have f0 : F n = x % 128 + 128 := by have := hF 0 (by simp); simpa using this
      have f1 : F (n + 1) = x / 128 % 128 + 128 := by have := hF 1 (by simp); simpa using this
      have f2 : F (n + 2) = x / 16384 := by have := hF 2 (by simp); simpa using this
      simp only [List.length_cons, List.length_nil] at hN
      have v : F n - 128 + (F (n + 1) - 128) * 128 + F (n + 2) * 16384 = x := by rw [f0, f1, f2]; omega
      rw [getU_3 N F n (by omega) (by omega) (by omega) (by omega) (by omega), v]
      rfl

theorem getU_cutoff (n N : Nat) (F : Nat → Int) (x : Int) (_h0 : 0 ≤ x) (hF : ∀ i, i < (groups x).length → F (n + i) = (groups x).getD i 0) (hN : n + (groups x).length = N + 1) :
    getU N F (n : Int) = (0, 0, false) := by
  by_cases a : x < 128
  · have e : groups x = [x] := by unfold groups; rw [if_pos a]
    rw [e] at hN
    simp only [List.length_cons, List.length_nil] at hN
    exact getU_past N F n (by omega)
  · by_cases b : x < 16384
    · have e : groups x = [x % 128 + 128, x / 128] := by unfold groups; rw [if_neg a, if_pos b]
      rw [e] at hF hN
      have f0 : F n = x % 128 + 128 := by have := hF 0 (by simp); simpa using this
      simp only [List.length_cons, List.length_nil] at hN
      exact getU_2end N F n (by omega) (by omega) (by omega)
    · have e : groups x = [x % 128 + 128, x / 128 % 128 + 128, x / 16384] := by unfold groups; rw [if_neg a, if_neg b]
      rw [e] at hF hN
      have f0 : F n = x % 128 + 128 := by have := hF 0 (by simp); simpa using this
      have f1 : F (n + 1) = x / 128 % 128 + 128 := by have := hF 1 (by simp); simpa using this
      simp only [List.length_cons, List.length_nil] at hN
      exact getU_3end N F n (by omega) (by omega) (by omega) (by omega)

/-- A text that was put comes back. -/
theorem getText_put (n : Nat) (f : Nat → Int) (s : ByteArray) (hs : s.size ≤ 1000000) :
    getText (n + (groups (clampN s.size)).length + s.size) (fun i => (textL n f s).getD i 0) (n : Int) = (s, ((n + (groups (clampN s.size)).length + s.size : Nat) : Int), true) := by
  have hc : clampN s.size = s.size := by unfold clampN; rw [if_neg (by omega), if_neg (by omega)]
  rw [hc]
  have e1 : ∀ i, i < (groups s.size).length → (textL n f s).getD (n + i) 0 = (groups s.size).getD i 0 := by
    intro i hi
    unfold textL
    rw [hc, List.append_assoc]
    have := getD_right (lof n f) (groups s.size ++ sl s) i
    rw [lof_len] at this
    rw [this, getD_left _ _ _ hi]
  have hu := getU_put n (n + (groups s.size).length + s.size) (fun i => (textL n f s).getD i 0) s.size (by omega) (by omega) e1 (by omega)
  have e2 : ∀ i, (textL n f s).getD (n + (groups s.size).length + i) 0 = (sl s).getD i 0 := by
    intro i
    unfold textL
    rw [hc]
    have := getD_right (lof n f ++ groups s.size) (sl s) i
    rw [List.length_append, lof_len] at this
    exact this
  unfold getText
  rw [hu]
  have et : ((n : Int) + ((groups s.size).length : Int)).toNat = n + (groups s.size).length := by omega
  rw [if_pos ⟨rfl, by show (s.size : Int) ≤ _; push_cast; omega⟩]
  simp only [Int.toNat_natCast, et]
  have el : lof s.size (fun i => (textL n f s).getD (n + (groups s.size).length + i) 0) = sl s := by
    have h1 := lof_self (sl s)
    rw [sl_len] at h1
    rw [← h1]
    unfold lof
    apply List.map_congr_left
    intro i _
    exact e2 i
  rw [el, strOfNums_sl]
  simp only [Prod.mk.injEq, true_and, and_true]
  push_cast
  omega
end Go.Proofs.Ytidjcppfolipjaa

/-
  Lists of a function's first values are alike just where it is.
-/
namespace Go.Proofs.Ytidjcppfolipjaa
open Go.RowKit
set_option maxRecDepth 4000

theorem lof_eq {n : Nat} {f g : Nat → Int} : lof n f = lof n g ↔ ∀ i, i < n → f i = g i := by
  constructor
  · intro h i hi
    rw [← lof_get n f i hi, ← lof_get n g i hi, h]
  · intro h
    unfold lof
    apply List.map_congr_left
    intro i hi
    exact h i (List.mem_range.1 hi)
end Go.Proofs.Ytidjcppfolipjaa

/-
  What stands at a place of bytes, what is read there: numbers and texts.
-/
namespace Go.Proofs.Ytidjcppfolipjaa
open Go.RowKit
set_option maxRecDepth 4000

/-- The bytes L stand at place i of the N bytes F. -/
structure AtF (N : Nat) (F : Nat → Int) (i : Nat) (L : List Int) : Prop where
  le : i + L.length ≤ N
  at' : ∀ j, j < L.length → F (i + j) = L.getD j 0
theorem AtF.left {N : Nat} {F : Nat → Int} {i : Nat} {L K : List Int} (h : AtF N F i (L ++ K)) : AtF N F i L :=
  ⟨by have := h.le; rw [List.length_append] at this; omega, fun j hj => by rw [h.at' j (by rw [List.length_append]; omega), getD_left _ _ _ hj]⟩
theorem AtF.right {N : Nat} {F : Nat → Int} {i : Nat} {L K : List Int} (h : AtF N F i (L ++ K)) : AtF N F (i + L.length) K :=
  ⟨by have := h.le; rw [List.length_append] at this; omega, fun j hj => by rw [Nat.add_assoc, h.at' (L.length + j) (by rw [List.length_append]; omega), getD_right]⟩
theorem AtF.append {N : Nat} {F : Nat → Int} {i : Nat} {L K : List Int} (h : AtF N F i L) (k : AtF N F (i + L.length) K) : AtF N F i (L ++ K) :=
  ⟨by have := k.le; rw [List.length_append]; omega, fun j hj => by
    rw [List.length_append] at hj
    by_cases e : j < L.length
    · rw [h.at' j e, getD_left _ _ _ e]
    · obtain ⟨m, rfl⟩ : ∃ m, j = L.length + m := ⟨j - L.length, by omega⟩
      rw [← Nat.add_assoc, k.at' m (by omega), getD_right]⟩
theorem AtF.nil {N : Nat} {F : Nat → Int} {i : Nat} (h : i ≤ N) : AtF N F i [] := ⟨by simpa using h, fun j hj => absurd hj (Nat.not_lt_zero _)⟩
/-- It is these bytes. -/
theorem AtF.lof {N : Nat} {F : Nat → Int} {i : Nat} {L : List Int} (h : AtF N F i L) : lof L.length (fun j => F (i + j)) = L := by
  rw [← lof_self L]
  conv => lhs; rw [show (Go.Proofs.Ytidjcppfolipjaa.lof L.length fun i => L.getD i 0).length = L.length by rw [lof_len]]
  rw [lof_eq]
  exact fun j hj => h.at' j hj
theorem AtF.ofLof {N : Nat} {F : Nat → Int} {i : Nat} {L : List Int} (hle : i + L.length ≤ N) (h : L = Go.Proofs.Ytidjcppfolipjaa.lof L.length (fun j => F (i + j))) : AtF N F i L :=
  ⟨hle, fun j hj => by
    conv => rhs; rw [h]
    rw [lof_get _ _ _ hj]⟩

theorem getU_at {N : Nat} {F : Nat → Int} {i : Nat} {x : Int} (h0 : 0 ≤ x) (h1 : x ≤ 1000000) (h : AtF N F i (groups x)) : getU N F (i : Int) = (x, (i : Int) + ((groups x).length : Int), true) :=
  getU_put i N F x h0 h1 h.at' h.le
theorem getU_read {N : Nat} {F : Nat → Int} {p a q : Int} (hb : ∀ i, i < N → 0 ≤ F i ∧ F i ≤ 255) (h : getU N F p = (a, q, true)) : ∃ i : Nat, p = (i : Int) ∧ AtF N F i (groups a) ∧ q = (i : Int) + ((groups a).length : Int) ∧ 0 ≤ a ∧ a ≤ 1000000 := by
  obtain ⟨ha0, ha1, -, -⟩ := getU_bd hb h
  by_cases h1 : p < 0 ∨ (N : Int) ≤ p
  · unfold getU at h; rw [if_pos h1] at h; cases h
  obtain ⟨i, rfl⟩ := Int.eq_ofNat_of_zero_le (a := p) (by omega)
  have hin : i < N := by omega
  have b0 := hb i hin
  refine ⟨i, rfl, ?_⟩
  by_cases c1 : F i < 128
  · rw [getU_1 N F i hin c1] at h
    cases h
    have e : groups (F i) = [F i] := groups_last _ c1
    rw [e]
    refine ⟨⟨by simp; omega, fun j hj => ?_⟩, rfl, ha0, ha1⟩
    match j, hj with
    | 0, _ => rfl
  by_cases c2 : N ≤ i + 1
  · rw [getU_2end N F i hin (by omega) c2] at h; cases h
  have b1 := hb (i + 1) (by omega)
  by_cases c3 : F (i + 1) < 128
  · by_cases c4 : F (i + 1) = 0
    · rw [getU_2zero N F i (by omega) (by omega) c4] at h; cases h
    rw [getU_2 N F i (by omega) (by omega) c3 c4] at h
    cases h
    have e : groups (F i - 128 + F (i + 1) * 128) = [F i, F (i + 1)] := by
      unfold groups
      rw [if_neg (by omega), if_pos (by omega)]
      congr 1
      · omega
      · congr 1; omega
    rw [e]
    refine ⟨⟨by simp; omega, fun j hj => ?_⟩, rfl, ha0, ha1⟩
    match j, hj with
    | 0, _ => rfl
    | 1, _ => rfl
  by_cases c5 : N ≤ i + 2
  · rw [getU_3end N F i (by omega) (by omega) (by omega) c5] at h; cases h
  have b2 := hb (i + 2) (by omega)
  by_cases c6 : F (i + 2) < 128
  · by_cases c7 : F (i + 2) = 0 ∨ 1000000 < F i - 128 + (F (i + 1) - 128) * 128 + F (i + 2) * 16384
    · rw [getU_3no N F i (by omega) (by omega) (by omega) c6 c7] at h; cases h
    rw [getU_3 N F i (by omega) (by omega) (by omega) c6 c7] at h
    cases h
    have e : groups (F i - 128 + (F (i + 1) - 128) * 128 + F (i + 2) * 16384) = [F i, F (i + 1), F (i + 2)] := by
      unfold groups
      rw [if_neg (by omega), if_neg (by omega)]
      congr 1
      · omega
      · congr 1
        · omega
        · congr 1; omega
    rw [e]
    refine ⟨⟨by simp; omega, fun j hj => ?_⟩, rfl, ha0, ha1⟩
    match j, hj with
    | 0, _ => rfl
    | 1, _ => rfl
    | 2, _ => rfl
  · rw [getU_long N F i (by omega) (by omega) (by omega) (by omega)] at h; cases h

/-- A text as bytes. -/
def txtL (s : ByteArray) : List Int := groups s.size ++ sl s
theorem getText_at {N : Nat} {F : Nat → Int} {i : Nat} {s : ByteArray} (hs : s.size ≤ 1000000) (h : AtF N F i (txtL s)) : getText N F (i : Int) = (s, (i : Int) + ((txtL s).length : Int), true) := by
  have h1 := getU_at (x := s.size) (by omega) (by omega) h.left
  have h2 := h.right
  have hl2 := h2.le
  rw [sl_len] at hl2
  unfold getText
  rw [h1]
  simp only
  rw [if_pos ⟨trivial, by omega⟩]
  have e : (i : Int) + ((groups s.size).length : Int) = ((i + (groups (s.size : Int)).length : Nat) : Int) := by push_cast; rfl
  rw [e]
  simp only [Int.toNat_natCast]
  have e2 := h2.lof
  rw [sl_len] at e2
  rw [e2, strOfNums_sl]
  refine Prod.ext rfl (Prod.ext ?_ rfl)
  show _ = _
  unfold txtL
  rw [List.length_append, sl_len]
  push_cast
  omega
theorem getText_read {N : Nat} {F : Nat → Int} {p q : Int} {s : ByteArray} (hb : ∀ i, i < N → 0 ≤ F i ∧ F i ≤ 255) (h : getText N F p = (s, q, true)) : ∃ i : Nat, p = (i : Int) ∧ AtF N F i (txtL s) ∧ q = (i : Int) + ((txtL s).length : Int) ∧ s.size ≤ 1000000 := by
  unfold getText at h
  by_cases c : (getU N F p).2.2 = true ∧ (getU N F p).1 ≤ N - (getU N F p).2.1
  · rw [if_pos c] at h
    obtain ⟨a, q1, ok, hu⟩ : ∃ a q1 ok, getU N F p = (a, q1, ok) := ⟨_, _, _, rfl⟩
    rw [hu] at c h
    simp only at c h
    obtain ⟨rfl, hle⟩ := c
    obtain ⟨i, rfl, hA, rfl, h0, h1⟩ := getU_read hb hu
    obtain ⟨A, rfl⟩ := Int.eq_ofNat_of_zero_le h0
    have e : (i : Int) + ((groups (A : Int)).length : Int) = ((i + (groups (A : Int)).length : Nat) : Int) := by push_cast; rfl
    rw [e] at h hle
    simp only [Int.toNat_natCast, Prod.mk.injEq, and_true] at h
    obtain ⟨hs, hq⟩ := h
    have hbl : ∀ y ∈ Go.Proofs.Ytidjcppfolipjaa.lof A (fun j => F (i + (groups (A : Int)).length + j)), 0 ≤ y ∧ y ≤ 255 := by
      intro y hy
      obtain ⟨j, hj, rfl⟩ := List.mem_map.1 hy
      exact hb _ (by have := List.mem_range.1 hj; omega)
    have hsl : sl s = Go.Proofs.Ytidjcppfolipjaa.lof A (fun j => F (i + (groups (A : Int)).length + j)) := by
      rw [← hs]; exact sl_strOfNums hbl
    have hsz : s.size = A := by rw [← sl_len, hsl, lof_len]
    refine ⟨i, rfl, ?_, ?_, by omega⟩
    · unfold txtL
      rw [hsz]
      refine hA.append ⟨by rw [sl_len, hsz]; omega, fun j hj => ?_⟩
      rw [sl_len, hsz] at hj
      rw [hsl, lof_get _ _ _ hj]
    · rw [← hq]
      unfold txtL
      rw [List.length_append, sl_len, hsz]
      push_cast
      omega
  · rw [if_neg c] at h
    simp at h
end Go.Proofs.Ytidjcppfolipjaa

/-
  The sum of bytes, plainly; that it stays below 2^32; that one byte turned turns it.
-/
namespace Go.Proofs.Ytidjcppfolipjaa

def crcBit (x : Nat) : Nat := if x % 2 = 1 then x / 2 ^^^ 2197175160 else x / 2
def crcBits : Nat → Nat → Nat
  | 0, x => x
  | k + 1, x => crcBit (crcBits k x)
def crcTo (f : Nat → Int) : Nat → Nat
  | 0 => 4294967295
  | k + 1 => crcBits 8 (crcTo f k ^^^ (f k).toNat)
def crc (n : Nat) (f : Nat → Int) : Nat := crcTo f n ^^^ 4294967295

theorem crcBit_lt {x : Nat} (h : x < 4294967296) : crcBit x < 4294967296 := by
  unfold crcBit
  split
  · exact Nat.xor_lt_two_pow (n := 32) (by omega) (by decide)
  · omega
theorem crcBits_lt {k x : Nat} (h : x < 4294967296) : crcBits k x < 4294967296 := by
  induction k with
  | zero => exact h
  | succ k ih => exact crcBit_lt ih
theorem xorByte_lt {x : Nat} {b : Int} (h : x < 4294967296) (h0 : 0 ≤ b ∧ b ≤ 255) : x ^^^ b.toNat < 4294967296 :=
  Nat.xor_lt_two_pow (n := 32) h (by omega)
theorem crcTo_lt {f : Nat → Int} {k : Nat} (h : ∀ i, i < k → 0 ≤ f i ∧ f i ≤ 255) : crcTo f k < 4294967296 := by
  induction k with
  | zero => show 4294967295 < 4294967296; decide
  | succ k ih => exact crcBits_lt (xorByte_lt (ih fun i hi => h i (by omega)) (h k (by omega)))
theorem crc_lt {f : Nat → Int} {n : Nat} (h : ∀ i, i < n → 0 ≤ f i ∧ f i ≤ 255) : crc n f < 4294967296 :=
  Nat.xor_lt_two_pow (n := 32) (crcTo_lt h) (by decide)

theorem xor_cancel {a b c : Nat} (h : a ^^^ c = b ^^^ c) : a = b := by
  have := congrArg (· ^^^ c) h
  simpa [Nat.xor_assoc] using this

theorem crcBit_inj {x y : Nat} (hx : x < 4294967296) (hy : y < 4294967296) (h : crcBit x = crcBit y) : x = y := by
  have t : ∀ z, z < 4294967296 → (crcBit z).testBit 31 = decide (z % 2 = 1) := by
    intro z hz
    have hz2 : (z / 2).testBit 31 = false := Nat.testBit_lt_two_pow (by omega)
    unfold crcBit
    by_cases e : z % 2 = 1
    · rw [if_pos e, Nat.testBit_xor, hz2]; simp [e]; decide
    · rw [if_neg e, hz2]; simp [e]
  have tx := t x hx
  have ty := t y hy
  rw [h, ty] at tx
  have par : (y % 2 = 1) ↔ (x % 2 = 1) := by simpa using tx
  unfold crcBit at h
  by_cases e : x % 2 = 1
  · rw [if_pos e, if_pos (par.2 e)] at h
    have := xor_cancel h
    have := par.2 e
    omega
  · rw [if_neg e, if_neg (fun k => e (par.1 k))] at h
    have : ¬ y % 2 = 1 := fun k => e (par.1 k)
    omega

theorem crcBits_inj {k x y : Nat} (hx : x < 4294967296) (hy : y < 4294967296) (h : crcBits k x = crcBits k y) : x = y := by
  induction k with
  | zero => exact h
  | succ k ih => exact ih (crcBit_inj (crcBits_lt hx) (crcBits_lt hy) h)

theorem crcTo_congr {f g : Nat → Int} {k : Nat} (h : ∀ i, i < k → f i = g i) : crcTo f k = crcTo g k := by
  induction k with
  | zero => rfl
  | succ k ih => show crcBits 8 _ = crcBits 8 _; rw [ih fun i hi => h i (by omega), h k (by omega)]
theorem crc_congr {f g : Nat → Int} {n : Nat} (h : ∀ i, i < n → f i = g i) : crc n f = crc n g := by unfold crc; rw [crcTo_congr h]

/-- Where two rows of bytes part at one place alone, their sums part. -/
theorem crcTo_parts {f g : Nat → Int} {n j : Nat} (hf : ∀ i, i < n → 0 ≤ f i ∧ f i ≤ 255) (hg : ∀ i, i < n → 0 ≤ g i ∧ g i ≤ 255) (hj : j < n) (hne : f j ≠ g j) (hs : ∀ i, i < n → i ≠ j → f i = g i) : crcTo f n ≠ crcTo g n := by
  induction n with
  | zero => omega
  | succ n ih =>
    intro e
    have e' : crcTo f n ^^^ (f n).toNat = crcTo g n ^^^ (g n).toNat :=
      crcBits_inj (k := 8) (xorByte_lt (crcTo_lt fun i hi => hf i (by omega)) (hf n (by omega))) (xorByte_lt (crcTo_lt fun i hi => hg i (by omega)) (hg n (by omega))) e
    by_cases hjn : j = n
    · subst hjn
      rw [crcTo_congr (g := g) fun i hi => hs i (by omega) (by omega), Nat.xor_comm, Nat.xor_comm (crcTo g j)] at e'
      have := xor_cancel e'
      have a := hf j (by omega)
      have b := hg j (by omega)
      omega
    · rw [hs n (by omega) (by omega)] at e'
      exact ih (fun i hi => hf i (by omega)) (fun i hi => hg i (by omega)) (by omega) (fun i hi => hs i (by omega)) (xor_cancel e')

theorem crc_parts {f g : Nat → Int} {n j : Nat} (hf : ∀ i, i < n → 0 ≤ f i ∧ f i ≤ 255) (hg : ∀ i, i < n → 0 ≤ g i ∧ g i ≤ 255) (hj : j < n) (hne : f j ≠ g j) (hs : ∀ i, i < n → i ≠ j → f i = g i) : crc n f ≠ crc n g :=
  fun e => crcTo_parts hf hg hj hne hs (xor_cancel e)

end Go.Proofs.Ytidjcppfolipjaa

/-
  Plain facts on the sum, in the forms in which the walks meet them.
-/
namespace Go.Proofs.Ytidjcppfolipjaa
open Go.RowKit
set_option maxRecDepth 4000

theorem u32_one (y : Nat) (h : y < 4294967296) : bits .and .u32 (y : Int) 1 = ((y % 2 : Nat) : Int) := by
  have := u32_and_nat y 1 h (by decide)
  rw [nat_mask1] at this; exact this
theorem u32_turn (y : Nat) (h : y < 4294967296) : bits .xor .u32 ((y : Int) / 2) 2197175160 = ((y / 2 ^^^ 2197175160 : Nat) : Int) := by
  have := u32_xor_nat (y / 2) 2197175160 (by omega) (by decide)
  rw [← this]; rfl
theorem i64_turn (y : Nat) (h : y < 4294967296) : bits .xor .i64 ((y : Int) / 2) 2197175160 = ((y / 2 ^^^ 2197175160 : Nat) : Int) := by
  have := i64_xor_nat (y / 2) 2197175160 (by omega) (by decide)
  rw [← this]; rfl
theorem i64_last (y : Nat) (h : y < 4294967296) : bits .xor .i64 (y : Int) 4294967295 = ((y ^^^ 4294967295 : Nat) : Int) := i64_xor_nat y 4294967295 (by omega) (by decide)
theorem u32_last (y : Nat) (h : y < 4294967296) : bits .xor .u32 IntKind.u32.max (y : Int) = ((y ^^^ 4294967295 : Nat) : Int) := by
  have e : IntKind.u32.max = ((4294967295 : Nat) : Int) := by simp [IntKind.max, IntKind.signed, IntKind.bits]
  rw [Nat.xor_comm, e]; exact u32_xor_nat 4294967295 y (by decide) h
theorem i64_in (y : Nat) (b : Int) (h : y < 4294967296) (h0 : 0 ≤ b ∧ b ≤ 255) : bits .xor .i64 (y : Int) b = ((y ^^^ b.toNat : Nat) : Int) := by
  obtain ⟨c, rfl⟩ := Int.eq_ofNat_of_zero_le h0.1
  rw [Int.toNat_natCast]; exact i64_xor_nat y c (by omega) (by omega)
theorem u32_in (y : Nat) (b : Int) (h : y < 4294967296) (h0 : 0 ≤ b ∧ b ≤ 255) : bits .xor .u32 (y : Int) b = ((y ^^^ b.toNat : Nat) : Int) := by
  obtain ⟨c, rfl⟩ := Int.eq_ofNat_of_zero_le h0.1
  rw [Int.toNat_natCast]; exact u32_xor_nat y c (by omega) (by omega)
theorem crcBit_odd (y : Nat) (h : y % 2 = 1) : crcBit y = y / 2 ^^^ 2197175160 := by unfold crcBit; rw [if_pos h]
theorem crcBit_even (y : Nat) (h : ¬ y % 2 = 1) : crcBit y = y / 2 := by unfold crcBit; rw [if_neg h]

theorem retInt {k : IntKind} {a b : Int} (h : a = b) : Ending.returned (.int k a) = .returned (.int k b) := by rw [h]

end Go.Proofs.Ytidjcppfolipjaa

/-
  The program's Crc comes to the plain sum, at every slice of bytes that reads.
-/
namespace Go.Proofs.Ytidjcppfolipjaa
open Go.RowKit
set_option maxRecDepth 4000

set_option maxHeartbeats 1000000 in
theorem crcStep_any (x : Nat) (w : World) (hx : x < 4294967296) :
    Calls Try.prog 136 #[.int .u32 (x : Int)] w fun e w' => e = .returned (.int .u32 ((crcBits 8 x : Nat) : Int)) ∧ w = w' := by
  go_enter Try.func136, Try.ntmps136
  go_wp2
  go_loopg [0, 4] 8 (fun g s i wr => w = wr ∧ ∃ k y : Nat, k ≤ 8 ∧ g = 8 - k ∧ s = .int .u32 (y : Int) ∧ i = .int .i64 k ∧ y < 4294967296 ∧ y = crcBits k x)
  case atStart => exact ⟨rfl, 0, x, by omega, rfl, rfl, rfl, hx, rfl⟩
  case round =>
    obtain ⟨rfl, k, y, hk, rfl, rfl, rfl, hy, hyk⟩ := hrel
    have HY : Hid (y = crcBits k x) := hyk
    clear hyk
    by_cases hlt : k < 8
    · have hkz : (k : Int) < 8 := by omega
      by_cases hodd : y % 2 = 1
      · have q1 : bits .and .u32 (y : Int) 1 = 1 := by rw [u32_one y hy, hodd]; rfl
        have q2 := u32_turn y hy
        have HO : Hid (y % 2 = 1) := hodd
        clear hodd
        go_wp2
        go_roundg (8 - (k + 1))
        case measure => omega
        case rel => exact ⟨rfl, k + 1, y / 2 ^^^ 2197175160, by omega, rfl, rfl, by go_num, Nat.xor_lt_two_pow (n := 32) (by omega) (by decide), by rw [← crcBit_odd y HO.out, HY.out]; rfl⟩
      · have q1 : bits .and .u32 (y : Int) 1 = 0 := by rw [u32_one y hy, show y % 2 = 0 by omega]; rfl
        have HO : Hid (¬ y % 2 = 1) := hodd
        clear hodd
        go_wp2
        go_roundg (8 - (k + 1))
        case measure => omega
        case rel => exact ⟨rfl, k + 1, y / 2, by omega, rfl, by go_num, by go_num, by omega, by rw [← crcBit_even y HO.out, HY.out]; rfl⟩
    · obtain rfl : k = 8 := by omega
      go_wp2
      go_ret
      exact ⟨retInt (congrArg Int.ofNat HY.out), rfl⟩

set_option maxHeartbeats 1000000 in
theorem crc_impl (ao : Option Addr) (n cap : Nat) (f : Nat → Int) (w : World) (hv : View w ao n cap f) (hn : n ≤ 281474976710656) :
    Calls Try.prog 131 #[.slice ao n cap] w fun e w' => e = .returned (.int .i64 ((crc n f : Nat) : Int)) ∧ w = w' := by
  go_enter Try.func131, Try.ntmps131
  go_wp2
  go_loopg [3, 8] n (fun g s i wr => w = wr ∧ ∃ k y : Nat, k ≤ n ∧ g = n - k ∧ s = .int .u32 (y : Int) ∧ i = .int .i64 k ∧ y < 4294967296 ∧ y = crcTo f k)
  case atStart => exact ⟨rfl, 0, 4294967295, by omega, rfl, rfl, rfl, by decide, rfl⟩
  case round =>
    obtain ⟨rfl, k, y, hk, rfl, rfl, rfl, hy, hyk⟩ := hrel
    have HY : Hid (y = crcTo f k) := hyk
    clear hyk
    by_cases hlt : k < n
    · obtain ⟨b, off, rfl, hb, hc⟩ := hv.cells (by omega)
      have hkz : (k : Int) < (n : Int) := by omega
      have hc1 := hc k hlt
      have hbk := hv.byte k hlt
      have q1 := u32_in y (f k) hy hbk
      have hlt2 := xorByte_lt hy hbk
      obtain ⟨hbk0, hbk1⟩ := hbk
      clear hc
      go_wp2_with fail
      refine (crcStep_any _ _ hlt2).mono ?_
      rintro e _ ⟨rfl, rfl⟩
      go_wp2
      go_roundg (n - (k + 1))
      case measure => omega
      case rel => exact ⟨rfl, k + 1, crcBits 8 (y ^^^ (f k).toNat), by omega, rfl, rfl, by go_num, crcBits_lt hlt2, by rw [HY.out]; rfl⟩
    · obtain rfl : k = n := by omega
      have q1 := u32_last y hy
      have q2 : y ^^^ 4294967295 < 4294967296 := Nat.xor_lt_two_pow (n := 32) hy (by decide)
      have q3 : wrap64 ((y ^^^ 4294967295 : Nat) : Int) = ((y ^^^ 4294967295 : Nat) : Int) := by
        generalize y ^^^ 4294967295 = z at q2
        exact IntWalk.wrap64_in _ ⟨by omega, by omega⟩
      go_wp2
      go_ret
      exact ⟨retInt (congrArg (fun z : Nat => ((z ^^^ 4294967295 : Nat) : Int)) HY.out), rfl⟩

theorem crc_impl' {c : Nat} (ao : Option Addr) (n cap : Nat) (f : Nat → Int) (w : World) (hg : Hid (crc n f = c)) (hv : View w ao n cap f) (hn : n ≤ 281474976710656) :
    Calls Try.prog 131 #[.slice ao n cap] w fun e w' => e = .returned (.int .i64 (c : Int)) ∧ w = w' := by
  have h := crc_impl ao n cap f w hv hn
  rw [hg.out] at h; exact h
end Go.Proofs.Ytidjcppfolipjaa

/-
  The four bytes of a sum; new rows of bytes.
-/
namespace Go.Proofs.Ytidjcppfolipjaa
open Go.RowKit
set_option maxRecDepth 4000

def sumL (c : Nat) : List Int := [(c : Int) / 16777216 % 256, (c : Int) / 65536 % 256, (c : Int) / 256 % 256, (c : Int) % 256]
theorem sumL_len (c : Nat) : (sumL c).length = 4 := rfl
theorem sumL_byte (c : Nat) : ∀ y ∈ sumL c, 0 ≤ y ∧ y ≤ 255 := by
  intro y hy
  simp only [sumL, List.mem_cons, List.not_mem_nil, or_false] at hy
  rcases hy with rfl | rfl | rfl | rfl <;> omega

theorem lof_sumL (c : Nat) : lof 4 (fun i => (sumL c).getD i 0) = sumL c := lof_self (sumL c)

/-- New cells. -/
theorem cellNews (w : World) (l : List Value) (t : TypeId) : ∀ j u, l[j]? = some u → (w.alloc (.cells l.toArray t)).cell? ((⟨w.heap.size, 0, none⟩ : Addr).add j) = some u := by
  intro j u hj
  have e : (⟨w.heap.size, 0, none⟩ : Addr).add j = ⟨w.heap.size, j, none⟩ := by unfold Addr.add; split <;> simp_all
  rw [e]
  simp [hj]

theorem newRow (w : World) (l : List Int) (t : TypeId) : Row t (w.alloc (.cells (l.map (Value.int .u8)).toArray t)) w.heap.size l.length (fun i => l.getD i 0) :=
  Row.ofIs ⟨_, Deep.blk_alloc_new _ _, by simp, fun i hi => by simp [hi]⟩

theorem bytes_of_list {l : List Int} (h : ∀ y ∈ l, 0 ≤ y ∧ y ≤ 255) : ∀ i, i < l.length → 0 ≤ l.getD i 0 ∧ l.getD i 0 ≤ 255 := by
  intro i hi
  have := h _ (List.getElem_mem hi)
  simpa [hi] using this

end Go.Proofs.Ytidjcppfolipjaa

/-
  The program's PutSum: what was there, and behind it the four bytes of its sum, in memory of its own.
-/
namespace Go.Proofs.Ytidjcppfolipjaa
open Go.RowKit
set_option maxRecDepth 4000

set_option maxHeartbeats 1000000 in
theorem putSum_impl (b off n cap : Nat) (f : Nat → Int) (w : World) (hv : View w (some ⟨b, off, none⟩) n cap f) (hn : n ≤ 35184372088832) :
    Calls Try.prog 106 #[.slice (some ⟨b, off, none⟩) n cap] w fun e w' => ∃ g c, e = .returned (.slice (some ⟨g, 0, none⟩) (n + 4) c) ∧ w.heap.size ≤ g ∧ n + 4 ≤ c ∧ Row 5 w' g (n + 4) (fun i => (lof n f ++ sumL (crc n f)).getD i 0) ∧ Below w.heap.size w w' := by
  have hlt := crc_lt hv.byte
  obtain ⟨c, hc⟩ : ∃ c, Hid (crc n f = c) := ⟨_, rfl⟩
  rw [hc.out] at hlt
  have hcz : (c : Int) < 4294967296 := by omega
  have hw : ∀ x : Int, IntKind.u8.wrap x = x % 256 := u8_wrap
  go_enter Try.func106, Try.ntmps106
  go_wp2_with fail
  refine (crc_impl' _ n cap f w hc hv (by omega)).mono ?_
  rintro e _ ⟨rfl, rfl⟩
  go_wp2_with fail
  have hb1 : Below w.heap.size w (w.alloc (.cells #[.int .u8 ((c : Int) / 16777216 % 256), .int .u8 ((c : Int) / 65536 % 256), .int .u8 ((c : Int) / 256 % 256), .int .u8 ((c : Int) % 256)] 5)) := (Below.refl _ _).alloc (Nat.le_refl _) _
  have hr : Row 5 (w.alloc (.cells #[.int .u8 ((c : Int) / 16777216 % 256), .int .u8 ((c : Int) / 65536 % 256), .int .u8 ((c : Int) / 256 % 256), .int .u8 ((c : Int) % 256)] 5)) w.heap.size 4 (fun i => (sumL c).getD i 0) := newRow w (sumL c) 5
  refine (putBytes_any b off n cap f (some ⟨w.heap.size, 0, none⟩) 4 4 (fun i => (sumL c).getD i 0) _ (hv.below hb1) (hr.view (by omega) (bytes_of_list (sumL_byte c))) (by intro h; cases h) (by omega)).mono ?_
  rintro e w2 ⟨rfl, hown, hb2⟩
  rw [lof_sumL] at hown
  rw [show (w.alloc (.cells #[.int .u8 ((c : Int) / 16777216 % 256), .int .u8 ((c : Int) / 65536 % 256), .int .u8 ((c : Int) / 256 % 256), .int .u8 ((c : Int) % 256)] 5)).heap.size = w.heap.size + 1 from by simp] at hown
  go_wp2
  go_ret
  rw [hc.out]
  exact ⟨_, n + 4, rfl, by simp, by omega, row_of_owned hown, hb1.trans (hb2.mono hb1.size)⟩

end Go.Proofs.Ytidjcppfolipjaa

