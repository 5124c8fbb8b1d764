/-
  Together: DrawCore, DrawDisk12, AsSecs, DrawAnyK, DrawAnyP, GetPlain, GetTextPlain, TextPlain, StrSl, NumsPlain, LofEq
-/
import Derived.Test.YtdhfbblameiloaaFF12
import Derived.Test.YtdhfbblameiloaaFF1
import Derived.Deep.RegionWith
import Derived.Test.YtdhfbblameiloaaFF5
import Derived.Test.YtdhfbblameiloaaFF8
import Derived.Test.YtdhfbblameiloaaFF10
import Derived.Test.YtdhfbblameiloaaFF11
import Derived.Deep.LoopGhost
import Derived.Deep.RegionHeld3
import Derived.Lib.AppendStr
/-
  The draws of layer 1, as far as a law leans on them.
-/
namespace Go.Proofs.Ytdhfbblameiloaa
open Go.RowKit
set_option maxRecDepth 4000

/-- Drawn bytes in memory of their own. -/
structure Drawn (w w' : World) (g : Nat) (e : Ending) (m b c : Nat) (l : List Int) : Prop where
  ret : e = .returned (.slice (some ⟨b, 0, none⟩) m c)
  len : l.length = m
  byte : ∀ y ∈ l, 0 ≤ y ∧ y ≤ 255
  new : w.heap.size ≤ b
  le : m ≤ c
  row : Row 5 w' b m (fun i => l.getD i 0)
  few : m ≤ 9

set_option maxHeartbeats 2000000 in
theorem l1Some_any (g : Nat) (ao : Option Addr) (n cap : Nat) (f : Nat → Int) (w : World) (hn : n ≤ 1048576) (hC : Cur w g ao n cap f) :
    Calls Try.prog 78 #[.pointer (some ⟨g, 0, none⟩)] w fun e w' => (∃ (b c m : Nat) (l : List Int), Drawn w w' g e m b c l) ∧ Cur w' g ao n cap f ∧ But g w w' := by
  have hb0 : Below w.heap.size w (w.alloc (.cells #[.int .i64 0, .int .i64 1, .int .i64 2, .int .i64 5, .int .i64 9] 3)) := (Below.refl _ _).alloc (Nat.le_refl _) _
  have hgl := hC.lt
  have hz := newInts w [0, 1, 2, 5, 9] 3
  go_enter Try.func78, Try.ntmps78
  go_wp2_with fail
  refine (l1Int_any g ao n cap f w.heap.size 5 (fun i => [0, 1, 2, 5, 9].getD i 0) _ hn (by omega) (by omega) hz (by omega) (hC.below hb0)).mono ?_
  rintro e w1 ⟨j, hj, rfl, hC1, hO1⟩
  have hmem : [(0 : Int), 1, 2, 5, 9].getD j 0 ∈ [(0 : Int), 1, 2, 5, 9] := getD_mem hj
  obtain ⟨m, hm, hm9⟩ : ∃ m : Nat, [(0 : Int), 1, 2, 5, 9].getD j 0 = (m : Int) ∧ m ≤ 9 := by
    simp only [List.mem_cons, List.not_mem_nil, or_false] at hmem
    exact ⟨([(0 : Int), 1, 2, 5, 9].getD j 0).toNat, by omega, by omega⟩
  clear hmem hz
  rw [hm]
  clear hm
  have hB1 : But g w w1 := (But.ofBelow hb0).trans (But.ofOnly hO1)
  clear hO1
  go_wp2_with fail
  refine (l1Bytes_any g ao n cap f m w1 hn (by omega) hC1).mono ?_
  rintro e w2 ⟨b, c, l, rfl, hl, hy, hb, hc, hrow, hC2, hB2⟩
  go_wp2
  go_ret
  exact ⟨⟨b, c, m, l, rfl, hl, hy, Nat.le_trans hB1.size hb, hc, hrow, hm9⟩, hC2, hB1.trans hB2⟩

theorem conv_drawn {w : World} {m b c : Nat} {l : List Int} (h1 : l.length = m) (h2 : ∀ y ∈ l, 0 ≤ y ∧ y ≤ 255) (h4 : m ≤ c) (h5 : Row 5 w b m (fun i => l.getD i 0)) :
    (convert 27 9 (.slice (some ⟨b, 0, none⟩) m c)).run Try.prog w = .ok (.string (strOfNums l)) w := by
  subst h1
  have := conv_view (h5.view h4 (fun i hi => h2 _ (getD_mem hi)))
  rw [lof_self] at this
  exact this
theorem Drawn.mono {w0 w w' : World} {g : Nat} {e : Ending} {m b c : Nat} {l : List Int} (h : Drawn w w' g e m b c l) (hs : w0.heap.size ≤ w.heap.size) : Drawn w0 w' g e m b c l :=
  ⟨h.ret, h.len, h.byte, Nat.le_trans hs h.new, h.le, h.row, h.few⟩

/-- Drawn bytes as a result among others: all that is known of them. -/
structure Own9 (w w' : World) (m b c : Nat) (l : List Int) : Prop where
  len : l.length = m
  byte : ∀ y ∈ l, 0 ≤ y ∧ y ≤ 255
  new : w.heap.size ≤ b
  le : m ≤ c
  row : Row 5 w' b m (fun i => l.getD i 0)
  few : m ≤ 9
theorem Own9.bytes {w w' : World} {m b c : Nat} {l : List Int} (h : Own9 w w' m b c l) : ∀ i, i < m → 0 ≤ l.getD i 0 ∧ l.getD i 0 ≤ 255 := by
  intro i hi
  exact h.byte _ (getD_mem (by rw [h.len]; exact hi))
theorem Own9.view {w w' : World} {m b c : Nat} {l : List Int} (h : Own9 w w' m b c l) : View w' (some ⟨b, 0, none⟩) m c (fun i => l.getD i 0) := h.row.view h.le h.bytes

end Go.Proofs.Ytdhfbblameiloaa

/-
  The draw of a disk.
-/
namespace Go.Proofs.Ytdhfbblameiloaa
open Go.RowKit
set_option maxRecDepth 4000

theorem Up.ofBut {g B : Nat} {w w' : World} (h : But g w w') (hg : g < B) : Up B w w' := ⟨h.size, fun k hk hl => h.block k hl (by omega)⟩
theorem MS.up {w w' : World} {B X gs sc : Nat} {ca : Option Addr} {cc : Nat} {fa : Option Addr} {fc : Nat} {ss cs : List Value} {D : PDisk} {S : List (List Int)} (h : MS w B X gs sc ca cc fa fc ss cs D S) (hu : Up B w w') (hX : B ≤ X) : MS w' B X gs sc ca cc fa fc ss cs D S :=
  ⟨h.x.block (hu.2 X hX h.x.lt), h.secs.up hu, h.ns, h.len, fun i v l h1 h2 => (h.ob i v l h1 h2).up hu, own_upK h.own hu, h.nc, fun i v l h1 h2 => (h.cb i v l h1 h2).up hu, own_upK h.fown hu⟩
theorem MS.calm {w : World} {B X gs sc : Nat} {ca : Option Addr} {cc : Nat} {fa : Option Addr} {fc : Nat} {ss cs : List Value} {D : PDisk} {S : List (List Int)} (h : MS w B X gs sc ca cc fa fc ss cs D S) : MS (w.setCell ⟨X, 4, none⟩ (.bool false)) B X gs sc ca cc fa fc ss cs { D with down := false } S := by
  have hk := keep_vn (P := fun t => t = 32) (i := 4) (u := .bool false) h.x rfl
  have hx := h.x.set 4 (.bool false)
  simp only [List.set] at hx
  exact ⟨hx, h.secs.keepT hk (by decide), h.ns, h.len, fun i v l h1 h2 => (h.ob i v l h1 h2).keepT hk (by decide), own_keepT h.own hk (by decide), h.nc, fun i v l h1 h2 => (h.cb i v l h1 h2).keepT hk (by decide), own_keepT h.fown hk (by decide)⟩
theorem CN.belowB {w : World} {g : Nat} {ao : Option Addr} {n cap : Nat} {f : Nat → Int} {W W' : World} {B : Nat} (h : CN w g ao n cap f W) (hb : Below B W W') (hB : w.heap.size ≤ B) : CN w g ao n cap f W' := by
  have hlt := h.lt
  refine ⟨?_, ⟨hb.os.trans h.but.os, hb.tape.trans h.but.tape, hb.output.trans h.but.output, Nat.le_trans h.but.size hb.size, fun k hk hne => (hb.block k (by omega)).trans (h.but.block k hk hne)⟩, h.lt, h.code⟩
  obtain ⟨i, k, hr, h0, hi⟩ := h.cur.cells
  refine ⟨⟨i, k, hr.of_block (hb.block g (by omega)), h0, hi⟩, ⟨h.cur.view.le, h.cur.view.byte, fun hn => ?_⟩, h.cur.apart⟩
  obtain ⟨b', off, e, hl, hc⟩ := h.cur.view.cells hn
  have := h.code _ e hn
  refine ⟨b', off, e, Nat.lt_of_lt_of_le hl hb.size, fun j hj => ?_⟩
  rw [World.cell?_of_block (w := W) (hb.block b' (by simp at this; omega))]
  exact hc j hj
theorem own_fview {W : World} {B : Nat} {a : Option Addr} {c : Nat} {l : List PFault} (h : W.ownsRow B 79 3 (.slice a l.length c) l.length (fcells l)) : FView W a c l := by
  obtain ⟨a', c', e, h1, h2, h3⟩ := own_rl h
  cases e
  exact fview_rl h3 h1 h2
theorem OkD.made {m : Nat} {l : List PFault} (hm : 4 ≤ m ∧ m ≤ 48) (hl : FaultsOk l) : OkD (madeD m l) :=
  ⟨⟨by simpa [madeD] using hm.1, by simpa [madeD] using hm.2, fun i hi => by simp [madeD]⟩, ⟨by simp [madeD], fun i hi => by simp [madeD] at hi⟩, ⟨by simp [madeD], by simp [madeD]⟩, hl, by simp [madeD]⟩
/-- A disk that is being drawn. -/
structure LD (w : World) (g : Nat) (ao : Option Addr) (n cap : Nat) (f : Nat → Int) (B X gs sc : Nat) (fa : Option Addr) (fc : Nat) (N k : Nat) (D : PDisk) (ca : Option Addr) (cc : Nat) (ss cs : List Value) (W : World) : Prop where
  ms : MS W B X gs sc ca cc fa fc ss cs D D.secs
  ml : ML D sc ca cc fa fc
  ok : OkD D
  len : D.secs.length = N
  few : k + D.cache.length ≤ 12
  r : VN W w.heap.size 32 [.slice none 0 0, .slice none 0 0, .int .i64 0, .slice none 0 0, .bool false]
  cn : CN w g ao n cap f W
  lo : w.heap.size < B
  b : B ≤ W.heap.size
  x : B ≤ X
theorem LD.but {w : World} {g : Nat} {ao : Option Addr} {n cap : Nat} {f : Nat → Int} {B X gs sc : Nat} {fa : Option Addr} {fc : Nat} {N k : Nat} {D : PDisk} {ca : Option Addr} {cc : Nat} {ss cs : List Value} {W W' : World} (h : LD w g ao n cap f B X gs sc fa fc N k D ca cc ss cs W) (hC : Cur W' g ao n cap f) (hb : But g W W') : LD w g ao n cap f B X gs sc fa fc N k D ca cc ss cs W' :=
  have h1 := h.cn.lt
  have h2 := h.lo
  ⟨h.ms.up (Up.ofBut hb (by omega)) h.x, h.ml, h.ok, h.len, h.few, h.r.block (hb.block _ h.r.lt (by omega)), h.cn.next hC hb, h.lo, Nat.le_trans h.b hb.size, h.x⟩
theorem LD.op {w : World} {g : Nat} {ao : Option Addr} {n cap : Nat} {f : Nat → Int} {B X gs sc : Nat} {fa : Option Addr} {fc : Nat} {N k : Nat} {D D' : PDisk} {ca ca' : Option Addr} {cc cc' : Nat} {ss cs ss' cs' : List Value} {W W' : World} (h : LD w g ao n cap f B X gs sc fa fc N (k + 1) D ca cc ss cs W) (hm : MS W' B X gs sc ca' cc' fa fc ss' cs' D' D'.secs) (hl : ML D' sc ca' cc' fa fc) (hok : OkD D') (hn : D'.secs.length = D.secs.length) (hc : D'.cache.length ≤ D.cache.length + 1) (hb : Below B W W') : LD w g ao n cap f B X gs sc fa fc N k D' ca' cc' ss' cs' W' :=
  have h2 := h.lo
  ⟨hm, hl, hok, hn.trans h.len, by have := h.few; omega, h.r.block (hb.block _ h2), h.cn.belowB hb (by omega), h.lo, Nat.le_trans h.b hb.size, h.x⟩
/-- What was drawn. -/
def DD (w : World) (g : Nat) (ao : Option Addr) (n cap : Nat) (f : Nat → Int) (e : Ending) (W : World) : Prop :=
  ∃ (D : PDisk) (B X gs sc : Nat) (ca : Option Addr) (cc : Nat) (fa : Option Addr) (fc : Nat) (ss cs : List Value), e = .returned (dval D (some ⟨gs, 0, none⟩) sc ca cc fa fc) ∧ MS W B X gs sc ca cc fa fc ss cs D D.secs ∧ ML D sc ca cc fa fc ∧ OkD D ∧ D.cache.length ≤ 12 ∧ CN w g ao n cap f W ∧ w.heap.size ≤ B ∧ B ≤ X

set_option maxHeartbeats 8000000 in
theorem l12Draw_any (g : Nat) (ao : Option Addr) (n cap : Nat) (f : Nat → Int) (w : World) (hn : n ≤ 1048576) (hC : Cur w g ao n cap f) :
    Calls Try.prog 104 #[.pointer (some ⟨g, 0, none⟩)] w (DD w g ao n cap f) := by
  have hR := CN.start hC
  have hg := hR.lt
  have hbA : Below w.heap.size w (w.alloc (.cells #[.slice none 0 0, .slice none 0 0, .int .i64 0, .slice none 0 0, .bool false] 32)) := (Below.refl _ _).alloc (Nat.le_refl _) _
  have hV := VN.new w 32 [.slice none 0 0, .slice none 0 0, .int .i64 0, .slice none 0 0, .bool false]
  replace hR := hR.below hbA
  have hsz : w.heap.size < (w.alloc (.cells #[.slice none 0 0, .slice none 0 0, .int .i64 0, .slice none 0 0, .bool false] 32)).heap.size := by simp
  clear hC hbA
  go_enter Try.func104, Try.ntmps104
  go_wp2_with fail
  obtain ⟨WA, hWA⟩ : ∃ x, Hid (w.alloc (.cells #[.slice none 0 0, .slice none 0 0, .int .i64 0, .slice none 0 0, .bool false] 32) = x) := ⟨_, rfl⟩
  rw [hWA.out] at hR hV hsz ⊢
  refine (l1Below_any g ao n cap f 4 WA hn (by omega) (by omega) hR.cur).mono ?_
  rintro e w1 ⟨x, rfl, hx0, hx1, hC1, hO1⟩
  replace hV := hV.block ((But.ofOnly hO1).block _ hV.lt (by omega))
  replace hR := hR.next hC1 (But.ofOnly hO1)
  have hsz1 := Nat.lt_of_lt_of_le hsz (But.ofOnly hO1).size
  clear hC1 hO1 hWA hsz
  go_wp2_with fail
  refine (l12FaultList_any g ao n cap f w1 hn hR.cur).mono ?_
  rintro e w2 ⟨l, v, rfl, hDF, hl3, hC2⟩
  replace hV := hV.block (hC2.but.block _ hV.lt (by omega))
  replace hR := hR.next hC2.cur hC2.but
  have hsz2 := Nat.lt_of_lt_of_le hsz1 hC2.size
  obtain ⟨va, vc, ev⟩ := own_form hDF.own
  subst ev
  have HF : Hid (FaultsOk l) := hDF.ok
  have hDN := specDiskNew_own (4 + x) va vc l w2 (own_fview hDF.own) (by omega)
  clear hC2 hsz1 hDF
  go_wp2_with fail
  refine hDN.mono ?_
  rintro e w3 ⟨v3, rfl, hb3, h3⟩
  clear hDN
  obtain ⟨-, hK⟩ := h3.resolve_right (fun h => h.1 ⟨by omega, HF.out⟩)
  obtain ⟨sa, sc, ca, cc, fa, fc, ss, cs, rfl, hKO, hOw, hFo⟩ := hK
  obtain ⟨D0, hD0⟩ : ∃ z, Hid (madeD (4 + x).toNat l = z) := ⟨_, rfl⟩
  have hok0 : OkD D0 := hD0.out ▸ OkD.made (m := (4 + x).toNat) (by omega) HF.out
  have hlen0 : 4 ≤ D0.secs.length ∧ D0.secs.length ≤ 48 := by have := hok0.1; exact ⟨this.1, this.2.1⟩
  have hc0 : D0.cache.length = 0 := by rw [← hD0.out]; rfl
  rw [hD0.out] at hKO hOw hFo ⊢
  obtain ⟨gs, es⟩ : ∃ gs, sa = some ⟨gs, 0, none⟩ := by
    obtain ⟨g', e, -⟩ := hKO.secs.cell (by rw [hKO.ns]; omega)
    exact ⟨g', e⟩
  subst es
  have hbX : Below w3.heap.size w3 (w3.alloc (.cells #[.slice (some ⟨gs, 0, none⟩) D0.secs.length sc, .slice ca D0.cache.length cc, .int .i64 D0.ops, .slice fa D0.faults.length fc, .bool D0.down] 32)) := (Below.refl _ _).alloc (Nat.le_refl _) _
  have hX := VN.new w3 32 [.slice (some ⟨gs, 0, none⟩) D0.secs.length sc, .slice ca D0.cache.length cc, .int .i64 D0.ops, .slice fa D0.faults.length fc, .bool D0.down]
  have hL0 : LD w g ao n cap f w2.heap.size w3.heap.size gs sc fa fc D0.secs.length 12 D0 ca cc ss cs (w3.alloc (.cells #[.slice (some ⟨gs, 0, none⟩) D0.secs.length sc, .slice ca D0.cache.length cc, .int .i64 D0.ops, .slice fa D0.faults.length fc, .bool D0.down] 32)) :=
    ⟨MS.start (hKO.up (Up.ofBelow hbX)) hX (own_upK hOw (Up.ofBelow hbX)) (own_upK hFo (Up.ofBelow hbX)), ⟨hKO.sle, hKO.cle, hKO.cnil, hKO.fle, hKO.fnil⟩, hok0, rfl, by omega, (hV.block (hb3.block _ hsz2)).below hbX, (hR.below hb3).below hbX, hsz2, Nat.le_trans hb3.size hbX.size, hb3.size⟩
  clear hbX hX hKO hOw hFo hV hR hb3 hsz2 hD0 HF hl3 h3 hc0
  unfold dval
  obtain ⟨X, hXe⟩ := hidEx w3.heap.size
  obtain ⟨B, hBe⟩ := hidEx w2.heap.size
  obtain ⟨W3, hW3⟩ : ∃ z, Hid (w3.alloc (.cells #[.slice (some ⟨gs, 0, none⟩) D0.secs.length sc, .slice ca D0.cache.length cc, .int .i64 D0.ops, .slice fa D0.faults.length fc, .bool D0.down] 32) = z) := ⟨_, rfl⟩
  rw [hXe.out, hBe.out, hW3.out] at hL0
  go_wp2_with fail
  rw [hXe.out, hW3.out]
  refine (l1Below_any g ao n cap f 12 W3 hn (by omega) (by omega) hL0.cn.cur).mono ?_
  rintro e w4 ⟨y, rfl, hy0, hy1, hC4, hO4⟩
  have HL : Hid (LD w g ao n cap f B X gs sc fa fc D0.secs.length 12 D0 ca cc ss cs w4) := hL0.but hC4 (But.ofOnly hO4)
  clear hL0 hC4 hO4 hXe hBe hW3
  obtain ⟨m, rfl⟩ := Int.eq_ofNat_of_zero_le hy0
  obtain ⟨N, hN⟩ := hidEx D0.secs.length
  rw [hN.out] at HL hlen0
  clear hok0 hN
  go_wp2
  go_loopg [4] m (fun q i wr => ∃ (k : Nat) (D : PDisk) (ca : Option Addr) (cc : Nat) (ss cs : List Value), q = k ∧ i = .int .i64 k ∧ LD w g ao n cap f B X gs sc fa fc N k D ca cc ss cs wr)
  case atStart => exact ⟨m, D0, ca, cc, ss, cs, rfl, rfl, ⟨HL.out.ms, HL.out.ml, HL.out.ok, HL.out.len, by have := HL.out.few; omega, HL.out.r, HL.out.cn, HL.out.lo, HL.out.b, HL.out.x⟩⟩
  case round =>
    clear HL
    obtain ⟨k, D, ca, cc, ss, cs, hq, rfl, hL⟩ := hrel
    by_cases hk : 0 < k
    · obtain ⟨k, rfl⟩ : ∃ j, k = j + 1 := ⟨k - 1, by omega⟩
      have hkz : (0 : Int) < ((k + 1 : Nat) : Int) := by omega
      have hkb : k ≤ 11 := by have := hL.few; omega
      go_wp2_with fail
      refine (l1Below_any g ao n cap f 5 wr hn (by omega) (by omega) hL.cn.cur).mono ?_
      rintro e w5 ⟨y, rfl, hy0', hy1', hC5, hO5⟩
      replace hL := hL.but hC5 (But.ofOnly hO5)
      clear hC5 hO5
      by_cases hya : y = 0
      · subst hya
        have hF := l12Flush_any B X gs sc ca cc fa fc ss cs D w5 hL.ms hL.ml hL.ok hL.b hL.x
        go_wp2_with fail
        refine hF.mono ?_
        rintro e w6 ⟨rfl, ⟨ca', cc', ss', cs', hM, hl⟩, hb⟩
        have HL : Hid (LD w g ao n cap f B X gs sc fa fc N k (flushF D).1 ca' cc' ss' cs' w6) := hL.op hM hl hL.ok.flush flush_len.1 (by have := (flush_len (D := D)).2; omega) hb
        clear hL hF hM hl hb
        go_wp2
        go_roundg k
        case measure => omega
        case rel => exact ⟨k, _, _, _, _, _, rfl, congrArg (Value.int .i64) (by omega), HL.out⟩
      by_cases hyb : y = 1
      · subst hyb
        have y4 : w5.cell? ⟨X, 4, none⟩ = some (.bool D.down) := hL.ms.x.cell 4
        have q4 := hL.ms.x.fz 4
        have hbS : Below B w5 (w5.setCell ⟨X, 4, none⟩ (.bool false)) := (Below.refl _ _).setCell (p := ⟨X, 4, none⟩) hL.x _
        have HL : Hid (LD w g ao n cap f B X gs sc fa fc N k { D with down := false } ca cc ss cs (w5.setCell ⟨X, 4, none⟩ (.bool false))) := hL.op hL.ms.calm ⟨hL.ml.s, hL.ml.c, hL.ml.cn, hL.ml.f, hL.ml.fn⟩ hL.ok.on rfl (Nat.le_succ _) hbS
        clear hL hbS
        go_wp2
        go_roundg k
        case measure => omega
        case rel => exact ⟨k, _, _, _, _, _, rfl, congrArg (Value.int .i64) (by omega), HL.out⟩
      have y0 : w5.cell? ⟨X, 0, none⟩ = some (.slice (some ⟨gs, 0, none⟩) D.secs.length sc) := hL.ms.x.cell 0
      have hln : 4 ≤ D.secs.length := by have := hL.len; omega
      have hln2 : D.secs.length ≤ 48 := by have := hL.len; omega
      go_wp2_with fail
      refine (l1Below_any g ao n cap f (D.secs.length : Nat) w5 hn (by omega) (by omega) hL.cn.cur).mono ?_
      rintro e w6 ⟨u, rfl, hu0, hu1, hC6, hO6⟩
      replace hL := hL.but hC6 (But.ofOnly hO6)
      clear hC6 hO6 y0
      go_wp2_with fail
      refine (l1Some_any g ao n cap f w6 hn hL.cn.cur).mono ?_
      rintro e w7 ⟨⟨b, c, mm, l, hD⟩, hC7, hB7⟩
      obtain rfl := hD.ret
      obtain rfl := hD.len
      replace hL := hL.but hC7 hB7
      have hW := l12Write_any B X gs sc ca cc fa fc ss cs D u (some ⟨b, 0, none⟩) c l w7 hL.ms hL.ml ⟨hL.ok, ⟨hu0, hu1⟩, by have := hD.few; omega, by have := hL.few; omega⟩ (Own9.view ⟨rfl, hD.byte, hD.new, hD.le, hD.row, hD.few⟩) (fun e => by cases e) hL.b hL.x
      have hmw : MayW D u l := ⟨hL.ok, ⟨hu0, hu1⟩, by have := hD.few; omega, by have := hL.few; omega⟩
      clear hC7 hB7 hD
      go_wp2_with fail
      refine hW.mono ?_
      rintro e w8 ⟨rfl, ⟨ca', cc', ss', cs', hM, hl⟩, hb⟩
      have HL : Hid (LD w g ao n cap f B X gs sc fa fc N k (writeF D u l).1 ca' cc' ss' cs' w8) := hL.op hM hl (OkD.write hmw) write_len.1 write_len.2 hb
      clear hL hW hM hl hb hmw
      go_wp2
      go_roundg k
      case measure => omega
      case rel => exact ⟨k, _, _, _, _, _, rfl, congrArg (Value.int .i64) (by omega), HL.out⟩
    · have hkz : ¬ (0 : Int) < (k : Int) := by omega
      have a0 : wr.cell? ⟨X, 0, none⟩ = some (.slice (some ⟨gs, 0, none⟩) D.secs.length sc) := hL.ms.x.cell 0
      have a1 : wr.cell? ⟨X, 1, none⟩ = some (.slice ca D.cache.length cc) := hL.ms.x.cell 1
      have a2 : wr.cell? ⟨X, 2, none⟩ = some (.int .i64 D.ops) := hL.ms.x.cell 2
      have a3 : wr.cell? ⟨X, 3, none⟩ = some (.slice fa D.faults.length fc) := hL.ms.x.cell 3
      have a4 : wr.cell? ⟨X, 4, none⟩ = some (.bool D.down) := hL.ms.x.cell 4
      have r0 : wr.cell? ⟨w.heap.size, 0, none⟩ = some (.slice none 0 0) := hL.r.cell 0
      have r1 : wr.cell? ⟨w.heap.size, 1, none⟩ = some (.slice none 0 0) := hL.r.cell 1
      have r2 : wr.cell? ⟨w.heap.size, 2, none⟩ = some (.int .i64 0) := hL.r.cell 2
      have r3 : wr.cell? ⟨w.heap.size, 3, none⟩ = some (.slice none 0 0) := hL.r.cell 3
      have r4 : wr.cell? ⟨w.heap.size, 4, none⟩ = some (.bool false) := hL.r.cell 4
      have z0 := hL.r.fz 0
      have z1 := hL.r.fz 1
      have z2 := hL.r.fz 2
      have z3 := hL.r.fz 3
      have z4 := hL.r.fz 4
      have hRv := ret5_vn (.slice (some ⟨gs, 0, none⟩) D.secs.length sc) (.slice ca D.cache.length cc) (.int .i64 D.ops) (.slice fa D.faults.length fc) (.bool D.down) hL.r
      have hRk := ret5_keep (.slice (some ⟨gs, 0, none⟩) D.secs.length sc) (.slice ca D.cache.length cc) (.int .i64 D.ops) (.slice fa D.faults.length fc) (.bool D.down) hL.r
      have m0 : (((((wr.setCell ⟨w.heap.size, 0, none⟩ (.slice (some ⟨gs, 0, none⟩) D.secs.length sc)).setCell ⟨w.heap.size, 1, none⟩ (.slice ca D.cache.length cc)).setCell ⟨w.heap.size, 2, none⟩ (.int .i64 D.ops)).setCell ⟨w.heap.size, 3, none⟩ (.slice fa D.faults.length fc)).setCell ⟨w.heap.size, 4, none⟩ (.bool D.down)).cell? ⟨w.heap.size, 0, none⟩ = some (.slice (some ⟨gs, 0, none⟩) D.secs.length sc) := hRv.cell 0
      have m1 : (((((wr.setCell ⟨w.heap.size, 0, none⟩ (.slice (some ⟨gs, 0, none⟩) D.secs.length sc)).setCell ⟨w.heap.size, 1, none⟩ (.slice ca D.cache.length cc)).setCell ⟨w.heap.size, 2, none⟩ (.int .i64 D.ops)).setCell ⟨w.heap.size, 3, none⟩ (.slice fa D.faults.length fc)).setCell ⟨w.heap.size, 4, none⟩ (.bool D.down)).cell? ⟨w.heap.size, 1, none⟩ = some (.slice ca D.cache.length cc) := hRv.cell 1
      have m2 : (((((wr.setCell ⟨w.heap.size, 0, none⟩ (.slice (some ⟨gs, 0, none⟩) D.secs.length sc)).setCell ⟨w.heap.size, 1, none⟩ (.slice ca D.cache.length cc)).setCell ⟨w.heap.size, 2, none⟩ (.int .i64 D.ops)).setCell ⟨w.heap.size, 3, none⟩ (.slice fa D.faults.length fc)).setCell ⟨w.heap.size, 4, none⟩ (.bool D.down)).cell? ⟨w.heap.size, 2, none⟩ = some (.int .i64 D.ops) := hRv.cell 2
      have m3 : (((((wr.setCell ⟨w.heap.size, 0, none⟩ (.slice (some ⟨gs, 0, none⟩) D.secs.length sc)).setCell ⟨w.heap.size, 1, none⟩ (.slice ca D.cache.length cc)).setCell ⟨w.heap.size, 2, none⟩ (.int .i64 D.ops)).setCell ⟨w.heap.size, 3, none⟩ (.slice fa D.faults.length fc)).setCell ⟨w.heap.size, 4, none⟩ (.bool D.down)).cell? ⟨w.heap.size, 3, none⟩ = some (.slice fa D.faults.length fc) := hRv.cell 3
      have m4 : (((((wr.setCell ⟨w.heap.size, 0, none⟩ (.slice (some ⟨gs, 0, none⟩) D.secs.length sc)).setCell ⟨w.heap.size, 1, none⟩ (.slice ca D.cache.length cc)).setCell ⟨w.heap.size, 2, none⟩ (.int .i64 D.ops)).setCell ⟨w.heap.size, 3, none⟩ (.slice fa D.faults.length fc)).setCell ⟨w.heap.size, 4, none⟩ (.bool D.down)).cell? ⟨w.heap.size, 4, none⟩ = some (.bool D.down) := hRv.cell 4
      have hlo := hL.lo
      have hxx := hL.x
      have hRx : VN (((((wr.setCell ⟨w.heap.size, 0, none⟩ (.slice (some ⟨gs, 0, none⟩) D.secs.length sc)).setCell ⟨w.heap.size, 1, none⟩ (.slice ca D.cache.length cc)).setCell ⟨w.heap.size, 2, none⟩ (.int .i64 D.ops)).setCell ⟨w.heap.size, 3, none⟩ (.slice fa D.faults.length fc)).setCell ⟨w.heap.size, 4, none⟩ (.bool D.down)) X 32 [.slice (some ⟨gs, 0, none⟩) D.secs.length sc, .slice ca D.cache.length cc, .int .i64 D.ops, .slice fa D.faults.length fc, .bool D.down] := ((((hL.ms.x.other (by omega)).other (by omega)).other (by omega)).other (by omega)).other (by omega)
      have HE : Hid (DD w g ao n cap f (.returned (dval D (some ⟨gs, 0, none⟩) sc ca cc fa fc)) (((((wr.setCell ⟨w.heap.size, 0, none⟩ (.slice (some ⟨gs, 0, none⟩) D.secs.length sc)).setCell ⟨w.heap.size, 1, none⟩ (.slice ca D.cache.length cc)).setCell ⟨w.heap.size, 2, none⟩ (.int .i64 D.ops)).setCell ⟨w.heap.size, 3, none⟩ (.slice fa D.faults.length fc)).setCell ⟨w.heap.size, 4, none⟩ (.bool D.down))) :=
        ⟨D, B, X, gs, sc, ca, cc, fa, fc, ss, cs, rfl, hL.ms.keepX hRk X hRx, hL.ml, hL.ok, by have := hL.few; omega, ((((hL.cn.set (Nat.le_refl _) _ _).set (Nat.le_refl _) _ _).set (Nat.le_refl _) _ _).set (Nat.le_refl _) _ _).set (Nat.le_refl _) _ _, by omega, hxx⟩
      clear hL hRv hRk hRx
      go_wp2
      refine bodyPost_ret (v := dval D (some ⟨gs, 0, none⟩) sc ca cc fa fc) (by simp [results, Try.results104, go_sem, m0, m1, m2, m3, m4, dval]) rfl HE.out
end Go.Proofs.Ytdhfbblameiloaa

/-
  A disk whose sectors are what its variable has.
-/
namespace Go.Proofs.Ytdhfbblameiloaa
open Go.RowKit
set_option maxRecDepth 4000

theorem MS.asSecs {w : World} {B X gs sc : Nat} {ca : Option Addr} {cc : Nat} {fa : Option Addr} {fc : Nat} {ss cs : List Value} {D : PDisk} {S : List (List Int)} (h : MS w B X gs sc ca cc fa fc ss cs D S) : MS w B X gs sc ca cc fa fc ss cs { D with secs := S } S := by
  have e := h.len
  exact ⟨by have := h.x; rw [← e] at this; exact this, h.secs, h.ns.trans e.symm, rfl, h.ob, h.own, h.nc, h.cb, h.fown⟩
end Go.Proofs.Ytdhfbblameiloaa

/-
  A drawn disk that is bent: what each way of bending comes to.
-/
namespace Go.Proofs.Ytdhfbblameiloaa
open Go.RowKit
set_option maxRecDepth 4000

/-- A row of numbers that was laid anew. -/
def IL (W : World) (b : Nat) (l : List Int) : Prop := W.rowIs b 3 l.length (fun i => .int .i64 (l.getD i 0))
theorem IL.new (w : World) (l : List Int) (xs : Array Value) (hx : xs = (l.map (Value.int .i64)).toArray) : IL (w.alloc (.cells xs 3)) w.heap.size l := by
  subst hx
  have := World.rowIs_alloc w (l.map (Value.int .i64)).toArray 3 (fun i => .int .i64 (l.getD i 0)) (fun j hj => by
    have h1 : j < l.length := by simpa using hj
    simp [h1])
  simpa [IL] using this
theorem IL.lt {W : World} {b : Nat} {l : List Int} (h : IL W b l) : b < W.heap.size := World.rowIs.lt h
theorem IL.below {W W' : World} {b : Nat} {l : List Int} (h : IL W b l) (hb : Below W.heap.size W W') : IL W' b l := h.of_block (hb.block b h.lt)
theorem IL.but {W W' : World} {g b : Nat} {l : List Int} (h : IL W b l) (hb : But g W W') (hne : b ≠ g) : IL W' b l := h.of_block (hb.block b h.lt hne)
theorem l1Int_il (g : Nat) (ao : Option Addr) (n cap : Nat) (f : Nat → Int) (l : List Int) (A : Nat) (w : World) (hn : n ≤ 1048576) (h0 : 0 < l.length) (h1 : l.length ≤ 1000) (hA : IL w A l) (hne : A ≠ g) (hC : Cur w g ao n cap f) :
    Calls Try.prog 93 #[.pointer (some ⟨g, 0, none⟩), .slice (some ⟨A, 0, none⟩) l.length l.length] w fun e w' => ∃ z : Int, e = .returned (.int .i64 z) ∧ z ∈ l ∧ Cur w' g ao n cap f ∧ But g w w' := by
  refine (l1Int_any g ao n cap f A l.length (fun i => l.getD i 0) w hn h0 (by omega) (fun i hi => hA.cell hi) hne hC).mono ?_
  rintro e w' ⟨j, hj, rfl, hC2, hO2⟩
  exact ⟨_, rfl, getD_mem hj, hC2, But.ofOnly hO2⟩

theorem ob_drawn {w : World} {B b c : Nat} {l : List Int} (hc : l.length ≤ c) (hy : ∀ y ∈ l, 0 ≤ y ∧ y ≤ 255) (hr : Row 5 w b l.length (fun i => l.getD i 0)) (hB : B ≤ b) : OB w B (.slice (some ⟨b, 0, none⟩) l.length c) l :=
  ⟨_, _, rfl, hc, (fun e => by cases e), hy, .inr ⟨b, rfl, hB, hr⟩⟩
theorem ob_zeros (w : World) {B : Nat} (N : Nat) (hB : B ≤ w.heap.size) : OB (w.alloc (.cells (madeCells #[.int .u8 0] N) 5)) B (.slice (some ⟨w.heap.size, 0, none⟩) N N) (List.replicate N 0) := by
  have hr : Row 5 (w.alloc (.cells (madeCells #[.int .u8 0] N) 5)) w.heap.size N (fun _ => 0) := Row.ofIs (World.rowIs_made w _ _ _)
  have hl : (List.replicate N (0 : Int)).length = N := by simp
  refine ⟨some ⟨w.heap.size, 0, none⟩, N, by rw [hl], by rw [hl]; exact Nat.le_refl _, (fun e => by cases e), fun x hx => by simp at hx; omega, .inr ⟨_, rfl, hB, ?_⟩⟩
  rw [hl]
  refine hr.congr (fun i hi => ?_)
  simp [bf, hi]
theorem ob_one (w : World) {B : Nat} (hB : B ≤ w.heap.size) : OB (w.alloc (.cells #[.int .u8 1] 5)) B (.slice (some ⟨w.heap.size, 0, none⟩) 1 1) [1] := by
  have hr : Row 5 (w.alloc (.cells #[.int .u8 1] 5)) w.heap.size 1 (fun _ => 1) := Row.ofIs (World.rowIs_alloc w #[.int .u8 1] 5 (fun _ => .int .u8 1) (fun j hj => by
    have : j = 0 := by simp at hj; omega
    subst this; rfl))
  refine ⟨some ⟨w.heap.size, 0, none⟩, 1, rfl, Nat.le_refl _, (fun e => by cases e), fun x hx => by simp at hx; omega, .inr ⟨_, rfl, hB, hr.congr (fun i hi => ?_)⟩⟩
  have hi' : i < 1 := hi
  have : i = 0 := by omega
  subst this; rfl
/-- The cells of a row of one element. -/
theorem cells2New (W : World) (a b : Value) (T : TypeId) : ∀ j u, [a, b][j]? = some u → (W.alloc (.cells #[a, b] T)).cell? ((⟨W.heap.size, 0, none⟩ : Addr).add j) = some u := by
  intro j u h
  have hv := VN.new W T [a, b]
  have ea : ∀ j, (⟨W.heap.size, 0, none⟩ : Addr).add j = ⟨W.heap.size, j, none⟩ := fun j => by unfold Addr.add; split <;> simp_all
  rw [ea]
  have := hv.cell j
  rw [← h]
  exact this
/-- A fault more, in the variable too. -/
theorem MS.moreF {w wa : World} {B X gs sc : Nat} {ca : Option Addr} {cc : Nat} {fa : Option Addr} {fc : Nat} {ss cs : List Value} {D : PDisk} {S : List (List Int)} (h : MS w B X gs sc ca cc fa fc ss cs D S) (hk : KeepT (fun t => t = 79) w wa) (f : PFault) {fb : Option Addr} {fd : Nat} (hO : wa.ownsRow B 79 3 (.slice fb (D.faults.length + 1) fd) (D.faults.length + 1) (fcells D.faults ++ [.int .i64 f.pos, .int .i64 f.keep, .int .i64 f.cut])) :
    MS (wa.setCell ⟨X, 3, none⟩ (.slice fb (D.faults.length + 1) fd)) B X gs sc ca cc fb fd ss cs { D with faults := D.faults ++ [f] } S := by
  have hXa := h.x.block (hk _ _ _ _ h.x (by decide))
  have hk2 := keep_vn (P := fun t => t = 32) (i := 3) (u := .slice fb (D.faults.length + 1) fd) hXa rfl
  have hX2 := hXa.set 3 (.slice fb (D.faults.length + 1) fd)
  simp only [List.set] at hX2
  have hO2 := own_keepT hO hk2 (by decide)
  refine ⟨?_, (h.secs.keepT hk (by decide)).keepT hk2 (by decide), h.ns, h.len, fun i v x h1 h2 => ((h.ob i v x h1 h2).keepT hk (by decide)).keepT hk2 (by decide), own_keepT (own_keepT h.own hk (by decide)) hk2 (by decide), h.nc, fun i v x h1 h2 => ((h.cb i v x h1 h2).keepT hk (by decide)).keepT hk2 (by decide), ?_⟩
  · show VN _ X _ [.slice (some ⟨gs, 0, none⟩) D.secs.length sc, .slice ca D.cache.length cc, .int .i64 D.ops, .slice fb (D.faults ++ [f]).length fd, .bool D.down]
    rw [List.length_append]
    exact hX2
  · show World.ownsRow _ B _ 3 (.slice fb (D.faults ++ [f]).length fd) (D.faults ++ [f]).length (fcells (D.faults ++ [f]))
    rw [fcells_push, List.length_append]
    exact hO2
/-- The sectors are cut to three. -/
theorem MS.cut3 {w : World} {B X gs sc : Nat} {ca : Option Addr} {cc : Nat} {fa : Option Addr} {fc : Nat} {ss cs : List Value} {D : PDisk} (h : MS w B X gs sc ca cc fa fc ss cs D D.secs) (h4 : 3 ≤ D.secs.length) :
    MS (w.setCell ⟨X, 0, none⟩ (.slice (some ⟨gs, 0, none⟩) 3 sc)) B X gs sc ca cc fa fc (ss.take 3) cs { D with secs := D.secs.take 3 } (D.secs.take 3) := by
  have hk2 := keep_vn (P := fun t => t = 32) (i := 0) (u := .slice (some ⟨gs, 0, none⟩) 3 sc) h.x rfl
  have hX2 := h.x.set 0 (.slice (some ⟨gs, 0, none⟩) 3 sc)
  simp only [List.set] at hX2
  have hl : (D.secs.take 3).length = 3 := by simp; omega
  refine ⟨?_, ?_, by have := h.ns; simp [this], rfl, fun i v x h1 h2 => ?_, own_keepT h.own hk2 (by decide), h.nc, fun i v x h1 h2 => (h.cb i v x h1 h2).keepT hk2 (by decide), own_keepT h.fown hk2 (by decide)⟩
  · show VN _ X _ [.slice (some ⟨gs, 0, none⟩) (D.secs.take 3).length sc, .slice ca D.cache.length cc, .int .i64 D.ops, .slice fa D.faults.length fc, .bool D.down]
    rw [hl]
    exact hX2
  · have hr := h.secs.keepT hk2 (by decide)
    rcases hr with hr | ⟨g, cur, e, hB, hc, hp⟩
    · exact .inl (by rw [hr]; rfl)
    · refine .inr ⟨g, cur, e, hB, hc, fun i u hu => hp i u ?_⟩
      rw [List.getElem?_take] at hu
      split at hu
      · exact hu
      · cases hu
  · rw [List.getElem?_take] at h1 h2
    split at h1
    · rename_i hi
      rw [if_pos hi] at h2
      exact (h.ob i v x h1 h2).keepT hk2 (by decide)
    · cases h1

/-- A disk that is drawn and bent, in a variable, beside the cursor and the result's variable. -/
structure AL (w : World) (g : Nat) (ao : Option Addr) (n cap : Nat) (f : Nat → Int) (B X gs sc : Nat) (fa : Option Addr) (fc : Nat) (D : PDisk) (ca : Option Addr) (cc : Nat) (ss cs : List Value) (W : World) : Prop where
  ms : MS W B X gs sc ca cc fa fc ss cs D D.secs
  ml : ML D sc ca cc fa fc
  ok : KFine D
  few : 3 ≤ D.secs.length ∧ D.secs.length ≤ 48
  r : VN W w.heap.size 32 [.slice none 0 0, .slice none 0 0, .int .i64 0, .slice none 0 0, .bool false]
  cn : CN w g ao n cap f W
  lo : w.heap.size < B
  b : B ≤ W.heap.size
  x : B ≤ X
section
variable {w : World} {g : Nat} {ao : Option Addr} {n cap : Nat} {f : Nat → Int} {B X gs sc : Nat} {fa : Option Addr} {fc : Nat} {D : PDisk} {ca : Option Addr} {cc : Nat} {ss cs : List Value} {W W' : World}
theorem AL.but (h : AL w g ao n cap f B X gs sc fa fc D ca cc ss cs W) (hC : Cur W' g ao n cap f) (hb : But g W W') : AL w g ao n cap f B X gs sc fa fc D ca cc ss cs W' :=
  have h1 := h.cn.lt
  have h2 := h.lo
  ⟨h.ms.up (Up.ofBut hb (by omega)) h.x, h.ml, h.ok, h.few, h.r.block (hb.block _ h.r.lt (by omega)), h.cn.next hC hb, h.lo, Nat.le_trans h.b hb.size, h.x⟩
theorem AL.on (h : AL w g ao n cap f B X gs sc fa fc D ca cc ss cs W) (hb : Below W.heap.size W W') : AL w g ao n cap f B X gs sc fa fc D ca cc ss cs W' :=
  ⟨h.ms.on hb, h.ml, h.ok, h.few, h.r.below hb, h.cn.below hb, h.lo, Nat.le_trans h.b hb.size, h.x⟩
theorem AL.op {D' : PDisk} {ca' fa' : Option Addr} {cc' fc' : Nat} {ss' cs' : List Value} (h : AL w g ao n cap f B X gs sc fa fc D ca cc ss cs W) (hm : MS W' B X gs sc ca' cc' fa' fc' ss' cs' D' D'.secs) (hl : ML D' sc ca' cc' fa' fc') (hok : KFine D') (hf : 3 ≤ D'.secs.length ∧ D'.secs.length ≤ 48) (hb : Below B W W') : AL w g ao n cap f B X gs sc fa' fc' D' ca' cc' ss' cs' W' :=
  have h2 := h.lo
  ⟨hm, hl, hok, hf, h.r.block (hb.block _ h2), h.cn.belowB hb (by omega), h.lo, Nat.le_trans h.b hb.size, h.x⟩
theorem AL.setX (h : AL w g ao n cap f B X gs sc fa fc D ca cc ss cs W) (i : Nat) (u : Value) : Below B W (W.setCell ⟨X, i, none⟩ u) := (Below.refl _ _).setCell (p := ⟨X, i, none⟩) h.x _
theorem AL.ops (h : AL w g ao n cap f B X gs sc fa fc D ca cc ss cs W) (z : Int) : AL w g ao n cap f B X gs sc fa fc { D with ops := z } ca cc ss cs (W.setCell ⟨X, 2, none⟩ (.int .i64 z)) :=
  h.op (h.ms.ops z) ⟨h.ml.s, h.ml.c, h.ml.cn, h.ml.f, h.ml.fn⟩ ⟨h.ok.ns, h.ok.sec, h.ok.nc, h.ok.cache, h.ok.nf⟩ h.few (h.setX 2 _)
theorem AL.cut (h : AL w g ao n cap f B X gs sc fa fc D ca cc ss cs W) : AL w g ao n cap f B X gs sc fa fc { D with secs := D.secs.take 3 } ca cc (ss.take 3) cs (W.setCell ⟨X, 0, none⟩ (.slice (some ⟨gs, 0, none⟩) 3 sc)) := by
  have h3 := h.few.1
  have hl : (D.secs.take 3).length = 3 := by simp; omega
  have hs := h.ml.s
  exact h.op (h.ms.cut3 h3) ⟨by show (D.secs.take 3).length ≤ _; omega, h.ml.c, h.ml.cn, h.ml.f, h.ml.fn⟩ ⟨by show (D.secs.take 3).length ≤ _; omega, fun x hx => h.ok.sec x (List.mem_of_mem_take hx), h.ok.nc, h.ok.cache, h.ok.nf⟩ (by show 3 ≤ (D.secs.take 3).length ∧ (D.secs.take 3).length ≤ 48; omega) (h.setX 0 _)
theorem AL.sec (h : AL w g ao n cap f B X gs sc fa fc D ca cc ss cs W) {m : Nat} (hm : m < D.secs.length) {v : Value} {l : List Int} (hv : OB W B v l) (hl : l.length ≤ 1048576) : AL w g ao n cap f B X gs sc fa fc { D with secs := D.secs.set m l } ca cc (ss.set m v) cs (W.setCell ⟨gs, m, none⟩ v) := by
  have hlen : (D.secs.set m l).length = D.secs.length := by simp
  obtain ⟨gs', e, hgB, -, -⟩ := h.ms.secs.cell (by rw [h.ms.ns]; omega)
  cases e
  have h4 := h.few
  have h5 := h.ml.s
  have h6 := h.ok.ns
  refine h.op (h.ms.put hm hv).asSecs ⟨by show (D.secs.set m l).length ≤ _; omega, h.ml.c, h.ml.cn, h.ml.f, h.ml.fn⟩ ⟨by show (D.secs.set m l).length ≤ _; omega, fun x hx => ?_, h.ok.nc, h.ok.cache, h.ok.nf⟩ (by show 3 ≤ (D.secs.set m l).length ∧ (D.secs.set m l).length ≤ 48; omega) ((Below.refl _ _).setCell (p := ⟨gs, m, none⟩) hgB _)
  rcases List.mem_or_eq_of_mem_set hx with hx | hx
  · exact h.ok.sec x hx
  · rw [hx]; exact hl
/-- Behind the append to the cache, and the store. -/
theorem AL.push {wa : World} {row : Option Nat} (h : AL w g ao n cap f B X gs sc fa fc D ca cc ss cs W) (hg : W.grownBy wa row) (hr : ∀ k, row = some k → B ≤ k) (hk : KeepT (fun t => t = 51) W wa) {z : Int} {l : List Int} {u : Value} (hu : OB W B u l) (hl : l.length ≤ 1048576) (hc : D.cache.length ≤ 1000) {cb : Option Addr} {cd : Nat} (hcd : D.cache.length + 1 ≤ cd) (hcb : cb = none → cd = 0) (hO : wa.ownsRow B 51 2 (.slice cb (D.cache.length + 1) cd) (D.cache.length + 1) (wcells D.cache cs ++ [.int .i64 z, u])) :
    AL w g ao n cap f B X gs sc fa fc { D with cache := D.cache ++ [(z, l)] } cb cd ss (cs ++ [u]) (wa.setCell ⟨X, 1, none⟩ (.slice cb (D.cache.length + 1) cd)) := by
  have hb : Below B W (wa.setCell ⟨X, 1, none⟩ (.slice cb (D.cache.length + 1) cd)) := ((Below.refl _ _).grown hg h.b hr).setCell (p := ⟨X, 1, none⟩) h.x _
  refine h.op (h.ms.more hk hu hO).1 ⟨h.ml.s, by show (D.cache ++ [(z, l)]).length ≤ _; simp; omega, hcb, h.ml.f, h.ml.fn⟩ ⟨h.ok.ns, h.ok.sec, by show (D.cache ++ [(z, l)]).length ≤ _; simp; omega, fun x hx => ?_, h.ok.nf⟩ h.few hb
  rcases List.mem_append.1 hx with hx | hx
  · exact h.ok.cache x hx
  · simp at hx; rw [hx]; exact hl
/-- Behind the append to the faults, and the store. -/
theorem AL.pushF {wa : World} {row : Option Nat} (h : AL w g ao n cap f B X gs sc fa fc D ca cc ss cs W) (hg : W.grownBy wa row) (hr : ∀ k, row = some k → B ≤ k) (hk : KeepT (fun t => t = 79) W wa) (x : PFault) (hc : D.faults.length ≤ 1000) {fb : Option Addr} {fd : Nat} (hcd : D.faults.length + 1 ≤ fd) (hfb : fb = none → fd = 0) (hO : wa.ownsRow B 79 3 (.slice fb (D.faults.length + 1) fd) (D.faults.length + 1) (fcells D.faults ++ [.int .i64 x.pos, .int .i64 x.keep, .int .i64 x.cut])) :
    AL w g ao n cap f B X gs sc fb fd { D with faults := D.faults ++ [x] } ca cc ss cs (wa.setCell ⟨X, 3, none⟩ (.slice fb (D.faults.length + 1) fd)) := by
  have hb : Below B W (wa.setCell ⟨X, 3, none⟩ (.slice fb (D.faults.length + 1) fd)) := ((Below.refl _ _).grown hg h.b hr).setCell (p := ⟨X, 3, none⟩) h.x _
  exact h.op (h.ms.moreF hk x hO) ⟨h.ml.s, h.ml.c, h.ml.cn, by show (D.faults ++ [x]).length ≤ _; simp; omega, hfb⟩ ⟨h.ok.ns, h.ok.sec, h.ok.nc, h.ok.cache, by show (D.faults ++ [x]).length ≤ _; simp; omega⟩ h.few hb
end
end Go.Proofs.Ytdhfbblameiloaa

/-
  The draw of a disk that is bent or not: what was drawn.
-/
namespace Go.Proofs.Ytdhfbblameiloaa
open Go.RowKit
set_option maxRecDepth 4000

/-- What was drawn. -/
def AD (w : World) (g : Nat) (ao : Option Addr) (n cap : Nat) (f : Nat → Int) (e : Ending) (W : World) : Prop :=
  ∃ (D : PDisk) (B X gs sc : Nat) (ca : Option Addr) (cc : Nat) (fa : Option Addr) (fc : Nat) (ss cs : List Value), e = .returned (dval D (some ⟨gs, 0, none⟩) sc ca cc fa fc) ∧ MS W B X gs sc ca cc fa fc ss cs D D.secs ∧ ML D sc ca cc fa fc ∧ KFine D ∧ (3 ≤ D.secs.length ∧ D.secs.length ≤ 48) ∧ CN w g ao n cap f W ∧ w.heap.size ≤ B ∧ B ≤ X

/-- The variable's disk is laid into the result's. -/
theorem AL.out {w : World} {g : Nat} {ao : Option Addr} {n cap : Nat} {f : Nat → Int} {B X gs sc : Nat} {fa : Option Addr} {fc : Nat} {D : PDisk} {ca : Option Addr} {cc : Nat} {ss cs : List Value} {W : World} (hL : AL w g ao n cap f B X gs sc fa fc D ca cc ss cs W) :
    AD w g ao n cap f (.returned (dval D (some ⟨gs, 0, none⟩) sc ca cc fa fc)) (((((W.setCell ⟨w.heap.size, 0, none⟩ (.slice (some ⟨gs, 0, none⟩) D.secs.length sc)).setCell ⟨w.heap.size, 1, none⟩ (.slice ca D.cache.length cc)).setCell ⟨w.heap.size, 2, none⟩ (.int .i64 D.ops)).setCell ⟨w.heap.size, 3, none⟩ (.slice fa D.faults.length fc)).setCell ⟨w.heap.size, 4, none⟩ (.bool D.down)) := by
  have hRk := ret5_keep (.slice (some ⟨gs, 0, none⟩) D.secs.length sc) (.slice ca D.cache.length cc) (.int .i64 D.ops) (.slice fa D.faults.length fc) (.bool D.down) hL.r
  have hlo := hL.lo
  have hxx := hL.x
  have hms := hL.ms
  refine ⟨D, B, X, gs, sc, ca, cc, fa, fc, ss, cs, rfl, hms.keepX hRk X ?_, hL.ml, hL.ok, hL.few, ((((hL.cn.set (Nat.le_refl _) _ _).set (Nat.le_refl _) _ _).set (Nat.le_refl _) _ _).set (Nat.le_refl _) _ _).set (Nat.le_refl _) _ _, by omega, hxx⟩
  exact ((((hms.x.other (by omega)).other (by omega)).other (by omega)).other (by omega)).other (by omega)
end Go.Proofs.Ytdhfbblameiloaa

/-
  What is read of bytes as a number, plainly: of n bytes (f), from the place p on.
-/
namespace Go.Proofs.Ytdhfbblameiloaa

def getU (n : Nat) (f : Nat → Int) (p : Int) : Int × Int × Bool :=
  if p < 0 ∨ (n : Int) ≤ p then (0, 0, false)
  else if f p.toNat < 128 then (f p.toNat, p + 1, true)
  else if n ≤ p.toNat + 1 then (0, 0, false)
  else if f (p.toNat + 1) < 128 then (if f (p.toNat + 1) = 0 then (0, 0, false) else (f p.toNat - 128 + f (p.toNat + 1) * 128, p + 2, true))
  else if n ≤ p.toNat + 2 then (0, 0, false)
  else if f (p.toNat + 2) < 128 then
    (if f (p.toNat + 2) = 0 ∨ 1000000 < f p.toNat - 128 + (f (p.toNat + 1) - 128) * 128 + f (p.toNat + 2) * 16384 then (0, 0, false)
     else (f p.toNat - 128 + (f (p.toNat + 1) - 128) * 128 + f (p.toNat + 2) * 16384, p + 3, true))
  else (0, 0, false)

theorem getU_neg (n : Nat) (f : Nat → Int) (p : Int) (h : p < 0) : getU n f p = (0, 0, false) := by
  unfold getU; rw [if_pos (Or.inl h)]
theorem getU_past (n : Nat) (f : Nat → Int) (i : Nat) (h : n ≤ i) : getU n f (i : Int) = (0, 0, false) := by
  unfold getU; rw [if_pos (Or.inr (by omega))]
section
variable (n : Nat) (f : Nat → Int) (i : Nat)
theorem getU_in (h : i < n) : ¬ ((i : Int) < 0 ∨ (n : Int) ≤ (i : Int)) := by omega
theorem getU_1 (h : i < n) (h1 : f i < 128) : getU n f (i : Int) = (f i, (i : Int) + 1, true) := by
  unfold getU; rw [if_neg (getU_in n i h), Int.toNat_natCast, if_pos h1]
theorem getU_2end (h : i < n) (h1 : 128 ≤ f i) (h2 : n ≤ i + 1) : getU n f (i : Int) = (0, 0, false) := by
  unfold getU; rw [if_neg (getU_in n i h), Int.toNat_natCast, if_neg (by omega), if_pos h2]
theorem getU_2zero (h : i + 1 < n) (h1 : 128 ≤ f i) (h2 : f (i + 1) = 0) : getU n f (i : Int) = (0, 0, false) := by
  unfold getU; rw [if_neg (getU_in n i (by omega)), Int.toNat_natCast, if_neg (by omega), if_neg (by omega), if_pos (by omega), if_pos h2]
theorem getU_2 (h : i + 1 < n) (h1 : 128 ≤ f i) (h2 : f (i + 1) < 128) (h3 : f (i + 1) ≠ 0) : getU n f (i : Int) = (f i - 128 + f (i + 1) * 128, (i : Int) + 2, true) := by
  unfold getU; rw [if_neg (getU_in n i (by omega)), Int.toNat_natCast, if_neg (by omega), if_neg (by omega), if_pos (by omega), if_neg h3]
theorem getU_3end (h : i + 1 < n) (h1 : 128 ≤ f i) (h2 : 128 ≤ f (i + 1)) (h3 : n ≤ i + 2) : getU n f (i : Int) = (0, 0, false) := by
  unfold getU; rw [if_neg (getU_in n i (by omega)), Int.toNat_natCast, if_neg (by omega), if_neg (by omega), if_neg (by omega), if_pos h3]
theorem getU_3no (h : i + 2 < n) (h1 : 128 ≤ f i) (h2 : 128 ≤ f (i + 1)) (h3 : f (i + 2) < 128) (h4 : f (i + 2) = 0 ∨ 1000000 < f i - 128 + (f (i + 1) - 128) * 128 + f (i + 2) * 16384) : getU n f (i : Int) = (0, 0, false) := by
  unfold getU; rw [if_neg (getU_in n i (by omega)), Int.toNat_natCast, if_neg (by omega), if_neg (by omega), if_neg (by omega), if_neg (by omega), if_pos h3, if_pos h4]
theorem getU_3 (h : i + 2 < n) (h1 : 128 ≤ f i) (h2 : 128 ≤ f (i + 1)) (h3 : f (i + 2) < 128) (h4 : ¬ (f (i + 2) = 0 ∨ 1000000 < f i - 128 + (f (i + 1) - 128) * 128 + f (i + 2) * 16384)) :
    getU n f (i : Int) = (f i - 128 + (f (i + 1) - 128) * 128 + f (i + 2) * 16384, (i : Int) + 3, true) := by
  unfold getU; rw [if_neg (getU_in n i (by omega)), Int.toNat_natCast, if_neg (by omega), if_neg (by omega), if_neg (by omega), if_neg (by omega), if_pos h3, if_neg h4]
theorem getU_long (h : i + 2 < n) (h1 : 128 ≤ f i) (h2 : 128 ≤ f (i + 1)) (h3 : 128 ≤ f (i + 2)) : getU n f (i : Int) = (0, 0, false) := by
  unfold getU; rw [if_neg (getU_in n i (by omega)), Int.toNat_natCast, if_neg (by omega), if_neg (by omega), if_neg (by omega), if_neg (by omega), if_neg (by omega)]
end
end Go.Proofs.Ytdhfbblameiloaa

/-
  What is read as a text, plainly.
-/
namespace Go.Proofs.Ytdhfbblameiloaa
open Go.RowKit
set_option maxRecDepth 4000

theorem getU_bd {n : Nat} {f : Nat → Int} {p a q : Int} (hf : ∀ i, i < n → 0 ≤ f i ∧ f i ≤ 255) (h : getU n f p = (a, q, true)) : 0 ≤ a ∧ a ≤ 1000000 ∧ 0 ≤ q ∧ q ≤ n := by
  unfold getU at h
  by_cases h0 : p < 0 ∨ (n : Int) ≤ p
  · rw [if_pos h0] at h; cases h
  rw [if_neg h0] at h
  have b0 := hf p.toNat (by omega)
  by_cases h1 : f p.toNat < 128
  · rw [if_pos h1] at h; cases h; omega
  rw [if_neg h1] at h
  by_cases h2 : n ≤ p.toNat + 1
  · rw [if_pos h2] at h; cases h
  rw [if_neg h2] at h
  have b1 := hf (p.toNat + 1) (by omega)
  by_cases h3 : f (p.toNat + 1) < 128
  · rw [if_pos h3] at h
    by_cases h4 : f (p.toNat + 1) = 0
    · rw [if_pos h4] at h; cases h
    · rw [if_neg h4] at h; cases h; omega
  rw [if_neg h3] at h
  by_cases h5 : n ≤ p.toNat + 2
  · rw [if_pos h5] at h; cases h
  rw [if_neg h5] at h
  have b2 := hf (p.toNat + 2) (by omega)
  by_cases h6 : f (p.toNat + 2) < 128
  · rw [if_pos h6] at h
    by_cases h7 : f (p.toNat + 2) = 0 ∨ 1000000 < f p.toNat - 128 + (f (p.toNat + 1) - 128) * 128 + f (p.toNat + 2) * 16384
    · rw [if_pos h7] at h; cases h
    · rw [if_neg h7] at h; cases h; omega
  rw [if_neg h6] at h; cases h

/-- What is read as a text. -/
def getText (n : Nat) (f : Nat → Int) (p : Int) : ByteArray × Int × Bool :=
  if (getU n f p).2.2 = true ∧ (getU n f p).1 ≤ n - (getU n f p).2.1 then (strOfNums (lof (getU n f p).1.toNat (fun i => f ((getU n f p).2.1.toNat + i))), (getU n f p).2.1 + (getU n f p).1, true) else (strOfNums [], 0, false)

theorem View.cut {w : World} {b off n cap m k : Nat} {f : Nat → Int} (h : View w (some ⟨b, off, none⟩) n cap f) (hm : k + m ≤ n) : View w (some ⟨b, off + k, none⟩) m (cap - k) (fun i => f (k + i)) := by
  have := h.le
  refine ⟨by omega, fun i hi => h.byte (k + i) (by omega), fun h0 => ?_⟩
  obtain ⟨b', off', e, hb, hc⟩ := h.cells (by omega)
  simp only [Option.some.injEq, Addr.mk.injEq, and_true] at e
  obtain ⟨rfl, rfl⟩ := e
  exact ⟨b, off + k, rfl, hb, fun i hi => by rw [Nat.add_assoc]; exact hc (k + i) (by omega)⟩

theorem retT {s s' : ByteArray} {b b' : Int} {c c' : Bool} (h1 : s = s') (h2 : b = b') (h3 : c = c') :
    Ending.returned (.tuple #[.string s, .int .i64 b, .bool c]) = .returned (.tuple #[.string s', .int .i64 b', .bool c']) := by rw [h1, h2, h3]

end Go.Proofs.Ytdhfbblameiloaa

/-
  A text's bytes as numbers; what is put of a text.
-/
namespace Go.Proofs.Ytdhfbblameiloaa
open Go.RowKit
set_option maxRecDepth 4000

/-- A text's bytes as numbers. -/
def sl (s : ByteArray) : List Int := s.data.toList.map (fun b => (b.toNat : Int))
theorem sl_len (s : ByteArray) : (sl s).length = s.size := by unfold sl; rw [List.length_map, Array.length_toList]; rfl
theorem sl_byte (s : ByteArray) : ∀ y ∈ sl s, 0 ≤ y ∧ y ≤ 255 := by
  intro y hy
  simp only [sl, List.mem_map] at hy
  obtain ⟨b, _, rfl⟩ := hy
  have := b.toNat_lt
  omega
theorem sl_cells (s : ByteArray) : Lib.strCells s = bl (sl s) := by simp [Lib.strCells, bl, sl]

/-- What is put: the bytes, the count's groups, the text. -/
def textL (n : Nat) (f : Nat → Int) (s : ByteArray) : List Int := lof n f ++ groups (clampN s.size) ++ sl s
theorem textL_len (n : Nat) (f : Nat → Int) (s : ByteArray) : (textL n f s).length = n + (groups (clampN s.size)).length + s.size := by
  unfold textL; rw [List.length_append, List.length_append, lof_len, sl_len]

end Go.Proofs.Ytdhfbblameiloaa

/-
  A text and its bytes as numbers, there and back.
-/
namespace Go.Proofs.Ytdhfbblameiloaa
open Go.RowKit
set_option maxRecDepth 4000

theorem strOfNums_sl (s : ByteArray) : strOfNums (sl s) = s := by
  apply ByteArray.ext
  apply Array.ext'
  show ((sl s).map fun n => UInt8.ofNat n.toNat) = s.data.toList
  unfold sl
  rw [List.map_map]
  conv => rhs; rw [← List.map_id s.data.toList]
  apply List.map_congr_left
  intro b _
  simp
theorem sl_strOfNums {t : List Int} (h : ∀ y ∈ t, 0 ≤ y ∧ y ≤ 255) : sl (strOfNums t) = t :=
  strOfNums_inj (sl_byte _) h (strOfNums_sl _)
end Go.Proofs.Ytdhfbblameiloaa

/-
  What was put comes back, plainly: a number of its groups, a text of its bytes; cut by one byte the number does not.
-/
namespace Go.Proofs.Ytdhfbblameiloaa
open Go.RowKit
set_option maxRecDepth 4000

theorem getD_left (l k : List Int) (i : Nat) (h : i < l.length) : (l ++ k).getD i 0 = l.getD i 0 := by
  rw [List.getD_eq_getElem?_getD, List.getD_eq_getElem?_getD, List.getElem?_append_left h]
theorem getD_right (l k : List Int) (i : Nat) : (l ++ k).getD (l.length + i) 0 = k.getD i 0 := by
  rw [List.getD_eq_getElem?_getD, List.getD_eq_getElem?_getD, List.getElem?_append_right (by omega)]
  congr 2
  omega

/-- A number that lies as its groups from n on is read there. -/
theorem getU_put (n N : Nat) (F : Nat → Int) (x : Int) (h0 : 0 ≤ x) (h1 : x ≤ 1000000) (hF : ∀ i, i < (groups x).length → F (n + i) = (groups x).getD i 0) (hN : n + (groups x).length ≤ N) :
    getU N F (n : Int) = (x, (n : Int) + (groups x).length, true) := by
  by_cases a : x < 128
  · have e : groups x = [x] := by unfold groups; rw [if_pos a]
    rw [e] at hF hN ⊢
    have f0 : F n = x := by have := hF 0 (by simp); simpa using this
    simp only [List.length_cons, List.length_nil] at hN
    rw [getU_1 N F n (by omega) (by omega), f0]
    rfl
  · by_cases b : x < 16384
    · have e : groups x = [x % 128 + 128, x / 128] := by unfold groups; rw [if_neg a, if_pos b]
      rw [e] at hF hN ⊢
      have f0 : F n = x % 128 + 128 := by have := hF 0 (by simp); simpa using this
      have f1 : F (n + 1) = x / 128 := by have := hF 1 (by simp); simpa using this
      simp only [List.length_cons, List.length_nil] at hN
      rw [getU_2 N F n (by omega) (by omega) (by omega) (by omega), f0, f1]
      have : x % 128 + 128 - 128 + x / 128 * 128 = x := by omega
      rw [this]
      rfl
    · have e : groups x = [x % 128 + 128, x / 128 % 128 + 128, x / 16384] := by unfold groups; rw [if_neg a, if_neg b]
      rw [e] at hF hN ⊢
      have f0 : F n = x % 128 + 128 := by have := hF 0 (by simp); simpa using this
      have f1 : F (n + 1) = x / 128 % 128 + 128 := by have := hF 1 (by simp); simpa using this
      have f2 : F (n + 2) = x / 16384 := by have := hF 2 (by simp); simpa using this
      simp only [List.length_cons, List.length_nil] at hN
      have v : F n - 128 + (F (n + 1) - 128) * 128 + F (n + 2) * 16384 = x := by rw [f0, f1, f2]; omega
      rw [getU_3 N F n (by omega) (by omega) (by omega) (by omega) (by omega), v]
      rfl

theorem getU_cutoff (n N : Nat) (F : Nat → Int) (x : Int) (_h0 : 0 ≤ x) (hF : ∀ i, i < (groups x).length → F (n + i) = (groups x).getD i 0) (hN : n + (groups x).length = N + 1) :
    getU N F (n : Int) = (0, 0, false) := by
  by_cases a : x < 128
  · have e : groups x = [x] := by unfold groups; rw [if_pos a]
    rw [e] at hN
    simp only [List.length_cons, List.length_nil] at hN
    exact getU_past N F n (by omega)
  · by_cases b : x < 16384
    · have e : groups x = [x % 128 + 128, x / 128] := by unfold groups; rw [if_neg a, if_pos b]
      rw [e] at hF hN
      have f0 : F n = x % 128 + 128 := by have := hF 0 (by simp); simpa using this
      simp only [List.length_cons, List.length_nil] at hN
      exact getU_2end N F n (by omega) (by omega) (by omega)
    · have e : groups x = [x % 128 + 128, x / 128 % 128 + 128, x / 16384] := by unfold groups; rw [if_neg a, if_neg b]
      rw [e] at hF hN
      have f0 : F n = x % 128 + 128 := by have := hF 0 (by simp); simpa using this
      have f1 : F (n + 1) = x / 128 % 128 + 128 := by have := hF 1 (by simp); simpa using this
      simp only [List.length_cons, List.length_nil] at hN
      exact getU_3end N F n (by omega) (by omega) (by omega) (by omega)

/-- A text that was put comes back. -/
theorem getText_put (n : Nat) (f : Nat → Int) (s : ByteArray) (hs : s.size ≤ 1000000) :
    getText (n + (groups (clampN s.size)).length + s.size) (fun i => (textL n f s).getD i 0) (n : Int) = (s, ((n + (groups (clampN s.size)).length + s.size : Nat) : Int), true) := by
  have hc : clampN s.size = s.size := by unfold clampN; rw [if_neg (by omega), if_neg (by omega)]
  rw [hc]
  have e1 : ∀ i, i < (groups s.size).length → (textL n f s).getD (n + i) 0 = (groups s.size).getD i 0 := by
    intro i hi
    unfold textL
    rw [hc, List.append_assoc]
    have := getD_right (lof n f) (groups s.size ++ sl s) i
    rw [lof_len] at this
    rw [this, getD_left _ _ _ hi]
  have hu := getU_put n (n + (groups s.size).length + s.size) (fun i => (textL n f s).getD i 0) s.size (by omega) (by omega) e1 (by omega)
  have e2 : ∀ i, (textL n f s).getD (n + (groups s.size).length + i) 0 = (sl s).getD i 0 := by
    intro i
    unfold textL
    rw [hc]
    have := getD_right (lof n f ++ groups s.size) (sl s) i
    rw [List.length_append, lof_len] at this
    exact this
  unfold getText
  rw [hu]
  have et : ((n : Int) + ((groups s.size).length : Int)).toNat = n + (groups s.size).length := by omega
  rw [if_pos ⟨rfl, by show (s.size : Int) ≤ _; push_cast; omega⟩]
  simp only [Int.toNat_natCast, et]
  have el : lof s.size (fun i => (textL n f s).getD (n + (groups s.size).length + i) 0) = sl s := by
    have h1 := lof_self (sl s)
    rw [sl_len] at h1
    rw [← h1]
    unfold lof
    apply List.map_congr_left
    intro i _
    exact e2 i
  rw [el, strOfNums_sl]
  simp only [Prod.mk.injEq, true_and, and_true]
  push_cast
  omega
end Go.Proofs.Ytdhfbblameiloaa

/-
  Lists of a function's first values are alike just where it is.
-/
namespace Go.Proofs.Ytdhfbblameiloaa
open Go.RowKit
set_option maxRecDepth 4000

theorem lof_eq {n : Nat} {f g : Nat → Int} : lof n f = lof n g ↔ ∀ i, i < n → f i = g i := by
  constructor
  · intro h i hi
    rw [← lof_get n f i hi, ← lof_get n g i hi, h]
  · intro h
    unfold lof
    apply List.map_congr_left
    intro i hi
    exact h i (List.mem_range.1 hi)
end Go.Proofs.Ytdhfbblameiloaa

