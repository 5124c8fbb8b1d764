/-
  Together: DrawCore, DrawDisk12, AsSecs, DrawAnyK, DrawAnyP, GetTextPlain, NumsPlain, LofEq, AtB, SumPlain, SumSeen, DrawBend, DrawOnce, DrawPageAt13, UpFive, DrawVarK
-/
import Derived.Test.YtdhfbblameiloaaUP9
import Derived.Test.YtdhfbblameiloaaUP1
import Derived.Laws.BytesArg
import Derived.Deep.RegionWith
import Derived.Test.YtdhfbblameiloaaUP3
import Derived.Test.YtdhfbblameiloaaUP5
import Derived.Test.YtdhfbblameiloaaUP7
import Derived.Test.YtdhfbblameiloaaUP8
import Derived.Deep.LoopGhost
import Derived.Deep.RegionHeld3
import Derived.Lib.AppendStr
import Derived.Test.YtdhfbblameiloaaUP2
import Derived.Laws.IdiomStrings
import Derived.WalkSpells
import Derived.Test.YtdhfbblameiloaaProg
/-
  The draws of layer 1, as far as a law leans on them.
-/
namespace Go.Proofs.Ytdhfbblameiloaa
open Go.RowKit
set_option maxRecDepth 4000

/-- Drawn bytes in memory of their own. -/
structure Drawn (w w' : World) (g : Nat) (e : Ending) (m b c : Nat) (l : List Int) : Prop where
  ret : e = .returned (.slice (some ⟨b, 0, none⟩) m c)
  len : l.length = m
  byte : ∀ y ∈ l, 0 ≤ y ∧ y ≤ 255
  new : w.heap.size ≤ b
  le : m ≤ c
  row : Row 5 w' b m (fun i => l.getD i 0)
  few : m ≤ 9

set_option maxHeartbeats 2000000 in
theorem l1Some_any (g : Nat) (ao : Option Addr) (n cap : Nat) (f : Nat → Int) (w : World) (hn : n ≤ 1048576) (hC : Cur w g ao n cap f) :
    Calls Try.prog 78 #[.pointer (some ⟨g, 0, none⟩)] w fun e w' => (∃ (b c m : Nat) (l : List Int), Drawn w w' g e m b c l) ∧ Cur w' g ao n cap f ∧ But g w w' := by
  have hb0 : Below w.heap.size w (w.alloc (.cells #[.int .i64 0, .int .i64 1, .int .i64 2, .int .i64 5, .int .i64 9] 3)) := (Below.refl _ _).alloc (Nat.le_refl _) _
  have hgl := hC.lt
  have hz := newInts w [0, 1, 2, 5, 9] 3
  go_enter Try.func78, Try.ntmps78
  go_wp2_with fail
  refine (l1Int_any g ao n cap f w.heap.size 5 (fun i => [0, 1, 2, 5, 9].getD i 0) _ hn (by omega) (by omega) hz (by omega) (hC.below hb0)).mono ?_
  rintro e w1 ⟨j, hj, rfl, hC1, hO1⟩
  have hmem : [(0 : Int), 1, 2, 5, 9].getD j 0 ∈ [(0 : Int), 1, 2, 5, 9] := getD_mem hj
  obtain ⟨m, hm, hm9⟩ : ∃ m : Nat, [(0 : Int), 1, 2, 5, 9].getD j 0 = (m : Int) ∧ m ≤ 9 := by
    simp only [List.mem_cons, List.not_mem_nil, or_false] at hmem
    exact ⟨([(0 : Int), 1, 2, 5, 9].getD j 0).toNat, by omega, by omega⟩
  clear hmem hz
  rw [hm]
  clear hm
  have hB1 : But g w w1 := (But.ofBelow hb0).trans (But.ofOnly hO1)
  clear hO1
  go_wp2_with fail
  refine (l1Bytes_any g ao n cap f m w1 hn (by omega) hC1).mono ?_
  rintro e w2 ⟨b, c, l, rfl, hl, hy, hb, hc, hrow, hC2, hB2⟩
  go_wp2
  go_ret
  exact ⟨⟨b, c, m, l, rfl, hl, hy, Nat.le_trans hB1.size hb, hc, hrow, hm9⟩, hC2, hB1.trans hB2⟩

theorem Drawn.mono {w0 w w' : World} {g : Nat} {e : Ending} {m b c : Nat} {l : List Int} (h : Drawn w w' g e m b c l) (hs : w0.heap.size ≤ w.heap.size) : Drawn w0 w' g e m b c l :=
  ⟨h.ret, h.len, h.byte, Nat.le_trans hs h.new, h.le, h.row, h.few⟩

/-- Drawn bytes as a result among others: all that is known of them. -/
structure Own9 (w w' : World) (m b c : Nat) (l : List Int) : Prop where
  len : l.length = m
  byte : ∀ y ∈ l, 0 ≤ y ∧ y ≤ 255
  new : w.heap.size ≤ b
  le : m ≤ c
  row : Row 5 w' b m (fun i => l.getD i 0)
  few : m ≤ 9
theorem Own9.bytes {w w' : World} {m b c : Nat} {l : List Int} (h : Own9 w w' m b c l) : ∀ i, i < m → 0 ≤ l.getD i 0 ∧ l.getD i 0 ≤ 255 := by
  intro i hi
  exact h.byte _ (getD_mem (by rw [h.len]; exact hi))
theorem Own9.view {w w' : World} {m b c : Nat} {l : List Int} (h : Own9 w w' m b c l) : View w' (some ⟨b, 0, none⟩) m c (fun i => l.getD i 0) := h.row.view h.le h.bytes

end Go.Proofs.Ytdhfbblameiloaa

/-
  The draw of a disk.
-/
namespace Go.Proofs.Ytdhfbblameiloaa
open Go.RowKit
set_option maxRecDepth 4000

theorem Up.ofBut {g B : Nat} {w w' : World} (h : But g w w') (hg : g < B) : Up B w w' := ⟨h.size, fun k hk hl => h.block k hl (by omega)⟩
theorem MS.up {w w' : World} {B X gs sc : Nat} {ca : Option Addr} {cc : Nat} {fa : Option Addr} {fc : Nat} {ss cs : List Value} {D : PDisk} {S : List (List Int)} (h : MS w B X gs sc ca cc fa fc ss cs D S) (hu : Up B w w') (hX : B ≤ X) : MS w' B X gs sc ca cc fa fc ss cs D S :=
  ⟨h.x.block (hu.2 X hX h.x.lt), h.secs.up hu, h.ns, h.len, fun i v l h1 h2 => (h.ob i v l h1 h2).up hu, own_upK h.own hu, h.nc, fun i v l h1 h2 => (h.cb i v l h1 h2).up hu, own_upK h.fown hu⟩
theorem MS.calm {w : World} {B X gs sc : Nat} {ca : Option Addr} {cc : Nat} {fa : Option Addr} {fc : Nat} {ss cs : List Value} {D : PDisk} {S : List (List Int)} (h : MS w B X gs sc ca cc fa fc ss cs D S) : MS (w.setCell ⟨X, 4, none⟩ (.bool false)) B X gs sc ca cc fa fc ss cs { D with down := false } S := by
  have hk := keep_vn (P := fun t => t = 32) (i := 4) (u := .bool false) h.x rfl
  have hx := h.x.set 4 (.bool false)
  simp only [List.set] at hx
  exact ⟨hx, h.secs.keepT hk (by decide), h.ns, h.len, fun i v l h1 h2 => (h.ob i v l h1 h2).keepT hk (by decide), own_keepT h.own hk (by decide), h.nc, fun i v l h1 h2 => (h.cb i v l h1 h2).keepT hk (by decide), own_keepT h.fown hk (by decide)⟩
theorem CN.belowB {w : World} {g : Nat} {ao : Option Addr} {n cap : Nat} {f : Nat → Int} {W W' : World} {B : Nat} (h : CN w g ao n cap f W) (hb : Below B W W') (hB : w.heap.size ≤ B) : CN w g ao n cap f W' := by
  have hlt := h.lt
  refine ⟨?_, ⟨hb.os.trans h.but.os, hb.tape.trans h.but.tape, hb.output.trans h.but.output, Nat.le_trans h.but.size hb.size, fun k hk hne => (hb.block k (by omega)).trans (h.but.block k hk hne)⟩, h.lt, h.code⟩
  obtain ⟨i, k, hr, h0, hi⟩ := h.cur.cells
  refine ⟨⟨i, k, hr.of_block (hb.block g (by omega)), h0, hi⟩, ⟨h.cur.view.le, h.cur.view.byte, fun hn => ?_⟩, h.cur.apart⟩
  obtain ⟨b', off, e, hl, hc⟩ := h.cur.view.cells hn
  have := h.code _ e hn
  refine ⟨b', off, e, Nat.lt_of_lt_of_le hl hb.size, fun j hj => ?_⟩
  rw [World.cell?_of_block (w := W) (hb.block b' (by simp at this; omega))]
  exact hc j hj
theorem own_fview {W : World} {B : Nat} {a : Option Addr} {c : Nat} {l : List PFault} (h : W.ownsRow B 79 3 (.slice a l.length c) l.length (fcells l)) : FView W a c l := by
  obtain ⟨a', c', e, h1, h2, h3⟩ := own_rl h
  cases e
  exact fview_rl h3 h1 h2
theorem OkD.made {m : Nat} {l : List PFault} (hm : 4 ≤ m ∧ m ≤ 48) (hl : FaultsOk l) : OkD (madeD m l) :=
  ⟨⟨by simpa [madeD] using hm.1, by simpa [madeD] using hm.2, fun i hi => by simp [madeD]⟩, ⟨by simp [madeD], fun i hi => by simp [madeD] at hi⟩, ⟨by simp [madeD], by simp [madeD]⟩, hl, by simp [madeD]⟩
/-- A disk that is being drawn. -/
structure LD (w : World) (g : Nat) (ao : Option Addr) (n cap : Nat) (f : Nat → Int) (B X gs sc : Nat) (fa : Option Addr) (fc : Nat) (N k : Nat) (D : PDisk) (ca : Option Addr) (cc : Nat) (ss cs : List Value) (W : World) : Prop where
  ms : MS W B X gs sc ca cc fa fc ss cs D D.secs
  ml : ML D sc ca cc fa fc
  ok : OkD D
  len : D.secs.length = N
  few : k + D.cache.length ≤ 12
  r : VN W w.heap.size 32 [.slice none 0 0, .slice none 0 0, .int .i64 0, .slice none 0 0, .bool false]
  cn : CN w g ao n cap f W
  lo : w.heap.size < B
  b : B ≤ W.heap.size
  x : B ≤ X
theorem LD.but {w : World} {g : Nat} {ao : Option Addr} {n cap : Nat} {f : Nat → Int} {B X gs sc : Nat} {fa : Option Addr} {fc : Nat} {N k : Nat} {D : PDisk} {ca : Option Addr} {cc : Nat} {ss cs : List Value} {W W' : World} (h : LD w g ao n cap f B X gs sc fa fc N k D ca cc ss cs W) (hC : Cur W' g ao n cap f) (hb : But g W W') : LD w g ao n cap f B X gs sc fa fc N k D ca cc ss cs W' :=
  have h1 := h.cn.lt
  have h2 := h.lo
  ⟨h.ms.up (Up.ofBut hb (by omega)) h.x, h.ml, h.ok, h.len, h.few, h.r.block (hb.block _ h.r.lt (by omega)), h.cn.next hC hb, h.lo, Nat.le_trans h.b hb.size, h.x⟩
theorem LD.op {w : World} {g : Nat} {ao : Option Addr} {n cap : Nat} {f : Nat → Int} {B X gs sc : Nat} {fa : Option Addr} {fc : Nat} {N k : Nat} {D D' : PDisk} {ca ca' : Option Addr} {cc cc' : Nat} {ss cs ss' cs' : List Value} {W W' : World} (h : LD w g ao n cap f B X gs sc fa fc N (k + 1) D ca cc ss cs W) (hm : MS W' B X gs sc ca' cc' fa fc ss' cs' D' D'.secs) (hl : ML D' sc ca' cc' fa fc) (hok : OkD D') (hn : D'.secs.length = D.secs.length) (hc : D'.cache.length ≤ D.cache.length + 1) (hb : Below B W W') : LD w g ao n cap f B X gs sc fa fc N k D' ca' cc' ss' cs' W' :=
  have h2 := h.lo
  ⟨hm, hl, hok, hn.trans h.len, by have := h.few; omega, h.r.block (hb.block _ h2), h.cn.belowB hb (by omega), h.lo, Nat.le_trans h.b hb.size, h.x⟩
/-- What was drawn. -/
def DD (w : World) (g : Nat) (ao : Option Addr) (n cap : Nat) (f : Nat → Int) (e : Ending) (W : World) : Prop :=
  ∃ (D : PDisk) (B X gs sc : Nat) (ca : Option Addr) (cc : Nat) (fa : Option Addr) (fc : Nat) (ss cs : List Value), e = .returned (dval D (some ⟨gs, 0, none⟩) sc ca cc fa fc) ∧ MS W B X gs sc ca cc fa fc ss cs D D.secs ∧ ML D sc ca cc fa fc ∧ OkD D ∧ D.cache.length ≤ 12 ∧ CN w g ao n cap f W ∧ w.heap.size ≤ B ∧ B ≤ X

set_option maxHeartbeats 8000000 in
theorem l12Draw_any (g : Nat) (ao : Option Addr) (n cap : Nat) (f : Nat → Int) (w : World) (hn : n ≤ 1048576) (hC : Cur w g ao n cap f) :
    Calls Try.prog 104 #[.pointer (some ⟨g, 0, none⟩)] w (DD w g ao n cap f) := by
  have hR := CN.start hC
  have hg := hR.lt
  have hbA : Below w.heap.size w (w.alloc (.cells #[.slice none 0 0, .slice none 0 0, .int .i64 0, .slice none 0 0, .bool false] 32)) := (Below.refl _ _).alloc (Nat.le_refl _) _
  have hV := VN.new w 32 [.slice none 0 0, .slice none 0 0, .int .i64 0, .slice none 0 0, .bool false]
  replace hR := hR.below hbA
  have hsz : w.heap.size < (w.alloc (.cells #[.slice none 0 0, .slice none 0 0, .int .i64 0, .slice none 0 0, .bool false] 32)).heap.size := by simp
  clear hC hbA
  go_enter Try.func104, Try.ntmps104
  go_wp2_with fail
  obtain ⟨WA, hWA⟩ : ∃ x, Hid (w.alloc (.cells #[.slice none 0 0, .slice none 0 0, .int .i64 0, .slice none 0 0, .bool false] 32) = x) := ⟨_, rfl⟩
  rw [hWA.out] at hR hV hsz ⊢
  refine (l1Below_any g ao n cap f 4 WA hn (by omega) (by omega) hR.cur).mono ?_
  rintro e w1 ⟨x, rfl, hx0, hx1, hC1, hO1⟩
  replace hV := hV.block ((But.ofOnly hO1).block _ hV.lt (by omega))
  replace hR := hR.next hC1 (But.ofOnly hO1)
  have hsz1 := Nat.lt_of_lt_of_le hsz (But.ofOnly hO1).size
  clear hC1 hO1 hWA hsz
  go_wp2_with fail
  refine (l12FaultList_any g ao n cap f w1 hn hR.cur).mono ?_
  rintro e w2 ⟨l, v, rfl, hDF, hl3, hC2⟩
  replace hV := hV.block (hC2.but.block _ hV.lt (by omega))
  replace hR := hR.next hC2.cur hC2.but
  have hsz2 := Nat.lt_of_lt_of_le hsz1 hC2.size
  obtain ⟨va, vc, ev⟩ := own_form hDF.own
  subst ev
  have HF : Hid (FaultsOk l) := hDF.ok
  have hDN := specDiskNew_own (4 + x) va vc l w2 (own_fview hDF.own) (by omega)
  clear hC2 hsz1 hDF
  go_wp2_with fail
  refine hDN.mono ?_
  rintro e w3 ⟨v3, rfl, hb3, h3⟩
  clear hDN
  obtain ⟨-, hK⟩ := h3.resolve_right (fun h => h.1 ⟨by omega, HF.out⟩)
  obtain ⟨sa, sc, ca, cc, fa, fc, ss, cs, rfl, hKO, hOw, hFo⟩ := hK
  obtain ⟨D0, hD0⟩ : ∃ z, Hid (madeD (4 + x).toNat l = z) := ⟨_, rfl⟩
  have hok0 : OkD D0 := hD0.out ▸ OkD.made (m := (4 + x).toNat) (by omega) HF.out
  have hlen0 : 4 ≤ D0.secs.length ∧ D0.secs.length ≤ 48 := by have := hok0.1; exact ⟨this.1, this.2.1⟩
  have hc0 : D0.cache.length = 0 := by rw [← hD0.out]; rfl
  rw [hD0.out] at hKO hOw hFo ⊢
  obtain ⟨gs, es⟩ : ∃ gs, sa = some ⟨gs, 0, none⟩ := by
    obtain ⟨g', e, -⟩ := hKO.secs.cell (by rw [hKO.ns]; omega)
    exact ⟨g', e⟩
  subst es
  have hbX : Below w3.heap.size w3 (w3.alloc (.cells #[.slice (some ⟨gs, 0, none⟩) D0.secs.length sc, .slice ca D0.cache.length cc, .int .i64 D0.ops, .slice fa D0.faults.length fc, .bool D0.down] 32)) := (Below.refl _ _).alloc (Nat.le_refl _) _
  have hX := VN.new w3 32 [.slice (some ⟨gs, 0, none⟩) D0.secs.length sc, .slice ca D0.cache.length cc, .int .i64 D0.ops, .slice fa D0.faults.length fc, .bool D0.down]
  have hL0 : LD w g ao n cap f w2.heap.size w3.heap.size gs sc fa fc D0.secs.length 12 D0 ca cc ss cs (w3.alloc (.cells #[.slice (some ⟨gs, 0, none⟩) D0.secs.length sc, .slice ca D0.cache.length cc, .int .i64 D0.ops, .slice fa D0.faults.length fc, .bool D0.down] 32)) :=
    ⟨MS.start (hKO.up (Up.ofBelow hbX)) hX (own_upK hOw (Up.ofBelow hbX)) (own_upK hFo (Up.ofBelow hbX)), ⟨hKO.sle, hKO.cle, hKO.cnil, hKO.fle, hKO.fnil⟩, hok0, rfl, by omega, (hV.block (hb3.block _ hsz2)).below hbX, (hR.below hb3).below hbX, hsz2, Nat.le_trans hb3.size hbX.size, hb3.size⟩
  clear hbX hX hKO hOw hFo hV hR hb3 hsz2 hD0 HF hl3 h3 hc0
  unfold dval
  obtain ⟨X, hXe⟩ := hidEx w3.heap.size
  obtain ⟨B, hBe⟩ := hidEx w2.heap.size
  obtain ⟨W3, hW3⟩ : ∃ z, Hid (w3.alloc (.cells #[.slice (some ⟨gs, 0, none⟩) D0.secs.length sc, .slice ca D0.cache.length cc, .int .i64 D0.ops, .slice fa D0.faults.length fc, .bool D0.down] 32) = z) := ⟨_, rfl⟩
  rw [hXe.out, hBe.out, hW3.out] at hL0
  go_wp2_with fail
  rw [hXe.out, hW3.out]
  refine (l1Below_any g ao n cap f 12 W3 hn (by omega) (by omega) hL0.cn.cur).mono ?_
  rintro e w4 ⟨y, rfl, hy0, hy1, hC4, hO4⟩
  have HL : Hid (LD w g ao n cap f B X gs sc fa fc D0.secs.length 12 D0 ca cc ss cs w4) := hL0.but hC4 (But.ofOnly hO4)
  clear hL0 hC4 hO4 hXe hBe hW3
  obtain ⟨m, rfl⟩ := Int.eq_ofNat_of_zero_le hy0
  obtain ⟨N, hN⟩ := hidEx D0.secs.length
  rw [hN.out] at HL hlen0
  clear hok0 hN
  go_wp2
  go_loopg [4] m (fun q i wr => ∃ (k : Nat) (D : PDisk) (ca : Option Addr) (cc : Nat) (ss cs : List Value), q = k ∧ i = .int .i64 k ∧ LD w g ao n cap f B X gs sc fa fc N k D ca cc ss cs wr)
  case atStart => exact ⟨m, D0, ca, cc, ss, cs, rfl, rfl, ⟨HL.out.ms, HL.out.ml, HL.out.ok, HL.out.len, by have := HL.out.few; omega, HL.out.r, HL.out.cn, HL.out.lo, HL.out.b, HL.out.x⟩⟩
  case round =>
    clear HL
    obtain ⟨k, D, ca, cc, ss, cs, hq, rfl, hL⟩ := hrel
    by_cases hk : 0 < k
    · obtain ⟨k, rfl⟩ : ∃ j, k = j + 1 := ⟨k - 1, by omega⟩
      have hkz : (0 : Int) < ((k + 1 : Nat) : Int) := by omega
      have hkb : k ≤ 11 := by have := hL.few; omega
      go_wp2_with fail
      refine (l1Below_any g ao n cap f 5 wr hn (by omega) (by omega) hL.cn.cur).mono ?_
      rintro e w5 ⟨y, rfl, hy0', hy1', hC5, hO5⟩
      replace hL := hL.but hC5 (But.ofOnly hO5)
      clear hC5 hO5
      by_cases hya : y = 0
      · subst hya
        have hF := l12Flush_any B X gs sc ca cc fa fc ss cs D w5 hL.ms hL.ml hL.ok hL.b hL.x
        go_wp2_with fail
        refine hF.mono ?_
        rintro e w6 ⟨rfl, ⟨ca', cc', ss', cs', hM, hl⟩, hb⟩
        have HL : Hid (LD w g ao n cap f B X gs sc fa fc N k (flushF D).1 ca' cc' ss' cs' w6) := hL.op hM hl hL.ok.flush flush_len.1 (by have := (flush_len (D := D)).2; omega) hb
        clear hL hF hM hl hb
        go_wp2
        go_roundg k
        case measure => omega
        case rel => exact ⟨k, _, _, _, _, _, rfl, congrArg (Value.int .i64) (by omega), HL.out⟩
      by_cases hyb : y = 1
      · subst hyb
        have y4 : w5.cell? ⟨X, 4, none⟩ = some (.bool D.down) := hL.ms.x.cell 4
        have q4 := hL.ms.x.fz 4
        have hbS : Below B w5 (w5.setCell ⟨X, 4, none⟩ (.bool false)) := (Below.refl _ _).setCell (p := ⟨X, 4, none⟩) hL.x _
        have HL : Hid (LD w g ao n cap f B X gs sc fa fc N k { D with down := false } ca cc ss cs (w5.setCell ⟨X, 4, none⟩ (.bool false))) := hL.op hL.ms.calm ⟨hL.ml.s, hL.ml.c, hL.ml.cn, hL.ml.f, hL.ml.fn⟩ hL.ok.on rfl (Nat.le_succ _) hbS
        clear hL hbS
        go_wp2
        go_roundg k
        case measure => omega
        case rel => exact ⟨k, _, _, _, _, _, rfl, congrArg (Value.int .i64) (by omega), HL.out⟩
      have y0 : w5.cell? ⟨X, 0, none⟩ = some (.slice (some ⟨gs, 0, none⟩) D.secs.length sc) := hL.ms.x.cell 0
      have hln : 4 ≤ D.secs.length := by have := hL.len; omega
      have hln2 : D.secs.length ≤ 48 := by have := hL.len; omega
      go_wp2_with fail
      refine (l1Below_any g ao n cap f (D.secs.length : Nat) w5 hn (by omega) (by omega) hL.cn.cur).mono ?_
      rintro e w6 ⟨u, rfl, hu0, hu1, hC6, hO6⟩
      replace hL := hL.but hC6 (But.ofOnly hO6)
      clear hC6 hO6 y0
      go_wp2_with fail
      refine (l1Some_any g ao n cap f w6 hn hL.cn.cur).mono ?_
      rintro e w7 ⟨⟨b, c, mm, l, hD⟩, hC7, hB7⟩
      obtain rfl := hD.ret
      obtain rfl := hD.len
      replace hL := hL.but hC7 hB7
      have hW := l12Write_any B X gs sc ca cc fa fc ss cs D u (some ⟨b, 0, none⟩) c l w7 hL.ms hL.ml ⟨hL.ok, ⟨hu0, hu1⟩, by have := hD.few; omega, by have := hL.few; omega⟩ (Own9.view ⟨rfl, hD.byte, hD.new, hD.le, hD.row, hD.few⟩) (fun e => by cases e) hL.b hL.x
      have hmw : MayW D u l := ⟨hL.ok, ⟨hu0, hu1⟩, by have := hD.few; omega, by have := hL.few; omega⟩
      clear hC7 hB7 hD
      go_wp2_with fail
      refine hW.mono ?_
      rintro e w8 ⟨rfl, ⟨ca', cc', ss', cs', hM, hl⟩, hb⟩
      have HL : Hid (LD w g ao n cap f B X gs sc fa fc N k (writeF D u l).1 ca' cc' ss' cs' w8) := hL.op hM hl (OkD.write hmw) write_len.1 write_len.2 hb
      clear hL hW hM hl hb hmw
      go_wp2
      go_roundg k
      case measure => omega
      case rel => exact ⟨k, _, _, _, _, _, rfl, congrArg (Value.int .i64) (by omega), HL.out⟩
    · have hkz : ¬ (0 : Int) < (k : Int) := by omega
      have a0 : wr.cell? ⟨X, 0, none⟩ = some (.slice (some ⟨gs, 0, none⟩) D.secs.length sc) := hL.ms.x.cell 0
      have a1 : wr.cell? ⟨X, 1, none⟩ = some (.slice ca D.cache.length cc) := hL.ms.x.cell 1
      have a2 : wr.cell? ⟨X, 2, none⟩ = some (.int .i64 D.ops) := hL.ms.x.cell 2
      have a3 : wr.cell? ⟨X, 3, none⟩ = some (.slice fa D.faults.length fc) := hL.ms.x.cell 3
      have a4 : wr.cell? ⟨X, 4, none⟩ = some (.bool D.down) := hL.ms.x.cell 4
      have r0 : wr.cell? ⟨w.heap.size, 0, none⟩ = some (.slice none 0 0) := hL.r.cell 0
      have r1 : wr.cell? ⟨w.heap.size, 1, none⟩ = some (.slice none 0 0) := hL.r.cell 1
      have r2 : wr.cell? ⟨w.heap.size, 2, none⟩ = some (.int .i64 0) := hL.r.cell 2
      have r3 : wr.cell? ⟨w.heap.size, 3, none⟩ = some (.slice none 0 0) := hL.r.cell 3
      have r4 : wr.cell? ⟨w.heap.size, 4, none⟩ = some (.bool false) := hL.r.cell 4
      have z0 := hL.r.fz 0
      have z1 := hL.r.fz 1
      have z2 := hL.r.fz 2
      have z3 := hL.r.fz 3
      have z4 := hL.r.fz 4
      have hRv := ret5_vn (.slice (some ⟨gs, 0, none⟩) D.secs.length sc) (.slice ca D.cache.length cc) (.int .i64 D.ops) (.slice fa D.faults.length fc) (.bool D.down) hL.r
      have hRk := ret5_keep (.slice (some ⟨gs, 0, none⟩) D.secs.length sc) (.slice ca D.cache.length cc) (.int .i64 D.ops) (.slice fa D.faults.length fc) (.bool D.down) hL.r
      have m0 : (((((wr.setCell ⟨w.heap.size, 0, none⟩ (.slice (some ⟨gs, 0, none⟩) D.secs.length sc)).setCell ⟨w.heap.size, 1, none⟩ (.slice ca D.cache.length cc)).setCell ⟨w.heap.size, 2, none⟩ (.int .i64 D.ops)).setCell ⟨w.heap.size, 3, none⟩ (.slice fa D.faults.length fc)).setCell ⟨w.heap.size, 4, none⟩ (.bool D.down)).cell? ⟨w.heap.size, 0, none⟩ = some (.slice (some ⟨gs, 0, none⟩) D.secs.length sc) := hRv.cell 0
      have m1 : (((((wr.setCell ⟨w.heap.size, 0, none⟩ (.slice (some ⟨gs, 0, none⟩) D.secs.length sc)).setCell ⟨w.heap.size, 1, none⟩ (.slice ca D.cache.length cc)).setCell ⟨w.heap.size, 2, none⟩ (.int .i64 D.ops)).setCell ⟨w.heap.size, 3, none⟩ (.slice fa D.faults.length fc)).setCell ⟨w.heap.size, 4, none⟩ (.bool D.down)).cell? ⟨w.heap.size, 1, none⟩ = some (.slice ca D.cache.length cc) := hRv.cell 1
      have m2 : (((((wr.setCell ⟨w.heap.size, 0, none⟩ (.slice (some ⟨gs, 0, none⟩) D.secs.length sc)).setCell ⟨w.heap.size, 1, none⟩ (.slice ca D.cache.length cc)).setCell ⟨w.heap.size, 2, none⟩ (.int .i64 D.ops)).setCell ⟨w.heap.size, 3, none⟩ (.slice fa D.faults.length fc)).setCell ⟨w.heap.size, 4, none⟩ (.bool D.down)).cell? ⟨w.heap.size, 2, none⟩ = some (.int .i64 D.ops) := hRv.cell 2
      have m3 : (((((wr.setCell ⟨w.heap.size, 0, none⟩ (.slice (some ⟨gs, 0, none⟩) D.secs.length sc)).setCell ⟨w.heap.size, 1, none⟩ (.slice ca D.cache.length cc)).setCell ⟨w.heap.size, 2, none⟩ (.int .i64 D.ops)).setCell ⟨w.heap.size, 3, none⟩ (.slice fa D.faults.length fc)).setCell ⟨w.heap.size, 4, none⟩ (.bool D.down)).cell? ⟨w.heap.size, 3, none⟩ = some (.slice fa D.faults.length fc) := hRv.cell 3
      have m4 : (((((wr.setCell ⟨w.heap.size, 0, none⟩ (.slice (some ⟨gs, 0, none⟩) D.secs.length sc)).setCell ⟨w.heap.size, 1, none⟩ (.slice ca D.cache.length cc)).setCell ⟨w.heap.size, 2, none⟩ (.int .i64 D.ops)).setCell ⟨w.heap.size, 3, none⟩ (.slice fa D.faults.length fc)).setCell ⟨w.heap.size, 4, none⟩ (.bool D.down)).cell? ⟨w.heap.size, 4, none⟩ = some (.bool D.down) := hRv.cell 4
      have hlo := hL.lo
      have hxx := hL.x
      have hRx : VN (((((wr.setCell ⟨w.heap.size, 0, none⟩ (.slice (some ⟨gs, 0, none⟩) D.secs.length sc)).setCell ⟨w.heap.size, 1, none⟩ (.slice ca D.cache.length cc)).setCell ⟨w.heap.size, 2, none⟩ (.int .i64 D.ops)).setCell ⟨w.heap.size, 3, none⟩ (.slice fa D.faults.length fc)).setCell ⟨w.heap.size, 4, none⟩ (.bool D.down)) X 32 [.slice (some ⟨gs, 0, none⟩) D.secs.length sc, .slice ca D.cache.length cc, .int .i64 D.ops, .slice fa D.faults.length fc, .bool D.down] := ((((hL.ms.x.other (by omega)).other (by omega)).other (by omega)).other (by omega)).other (by omega)
      have HE : Hid (DD w g ao n cap f (.returned (dval D (some ⟨gs, 0, none⟩) sc ca cc fa fc)) (((((wr.setCell ⟨w.heap.size, 0, none⟩ (.slice (some ⟨gs, 0, none⟩) D.secs.length sc)).setCell ⟨w.heap.size, 1, none⟩ (.slice ca D.cache.length cc)).setCell ⟨w.heap.size, 2, none⟩ (.int .i64 D.ops)).setCell ⟨w.heap.size, 3, none⟩ (.slice fa D.faults.length fc)).setCell ⟨w.heap.size, 4, none⟩ (.bool D.down))) :=
        ⟨D, B, X, gs, sc, ca, cc, fa, fc, ss, cs, rfl, hL.ms.keepX hRk X hRx, hL.ml, hL.ok, by have := hL.few; omega, ((((hL.cn.set (Nat.le_refl _) _ _).set (Nat.le_refl _) _ _).set (Nat.le_refl _) _ _).set (Nat.le_refl _) _ _).set (Nat.le_refl _) _ _, by omega, hxx⟩
      clear hL hRv hRk hRx
      go_wp2
      refine bodyPost_ret (v := dval D (some ⟨gs, 0, none⟩) sc ca cc fa fc) (by simp [results, Try.results104, go_sem, m0, m1, m2, m3, m4, dval]) rfl HE.out
end Go.Proofs.Ytdhfbblameiloaa

/-
  A disk whose sectors are what its variable has.
-/
namespace Go.Proofs.Ytdhfbblameiloaa
open Go.RowKit
set_option maxRecDepth 4000

theorem MS.asSecs {w : World} {B X gs sc : Nat} {ca : Option Addr} {cc : Nat} {fa : Option Addr} {fc : Nat} {ss cs : List Value} {D : PDisk} {S : List (List Int)} (h : MS w B X gs sc ca cc fa fc ss cs D S) : MS w B X gs sc ca cc fa fc ss cs { D with secs := S } S := by
  have e := h.len
  exact ⟨by have := h.x; rw [← e] at this; exact this, h.secs, h.ns.trans e.symm, rfl, h.ob, h.own, h.nc, h.cb, h.fown⟩
end Go.Proofs.Ytdhfbblameiloaa

/-
  A drawn disk that is bent: what each way of bending comes to.
-/
namespace Go.Proofs.Ytdhfbblameiloaa
open Go.RowKit
set_option maxRecDepth 4000

/-- A row of numbers that was laid anew. -/
def IL (W : World) (b : Nat) (l : List Int) : Prop := W.rowIs b 3 l.length (fun i => .int .i64 (l.getD i 0))
theorem IL.new (w : World) (l : List Int) (xs : Array Value) (hx : xs = (l.map (Value.int .i64)).toArray) : IL (w.alloc (.cells xs 3)) w.heap.size l := by
  subst hx
  have := World.rowIs_alloc w (l.map (Value.int .i64)).toArray 3 (fun i => .int .i64 (l.getD i 0)) (fun j hj => by
    have h1 : j < l.length := by simpa using hj
    simp [h1])
  simpa [IL] using this
theorem IL.lt {W : World} {b : Nat} {l : List Int} (h : IL W b l) : b < W.heap.size := World.rowIs.lt h
theorem IL.below {W W' : World} {b : Nat} {l : List Int} (h : IL W b l) (hb : Below W.heap.size W W') : IL W' b l := h.of_block (hb.block b h.lt)
theorem IL.but {W W' : World} {g b : Nat} {l : List Int} (h : IL W b l) (hb : But g W W') (hne : b ≠ g) : IL W' b l := h.of_block (hb.block b h.lt hne)
theorem l1Int_il (g : Nat) (ao : Option Addr) (n cap : Nat) (f : Nat → Int) (l : List Int) (A : Nat) (w : World) (hn : n ≤ 1048576) (h0 : 0 < l.length) (h1 : l.length ≤ 1000) (hA : IL w A l) (hne : A ≠ g) (hC : Cur w g ao n cap f) :
    Calls Try.prog 93 #[.pointer (some ⟨g, 0, none⟩), .slice (some ⟨A, 0, none⟩) l.length l.length] w fun e w' => ∃ z : Int, e = .returned (.int .i64 z) ∧ z ∈ l ∧ Cur w' g ao n cap f ∧ But g w w' := by
  refine (l1Int_any g ao n cap f A l.length (fun i => l.getD i 0) w hn h0 (by omega) (fun i hi => hA.cell hi) hne hC).mono ?_
  rintro e w' ⟨j, hj, rfl, hC2, hO2⟩
  exact ⟨_, rfl, getD_mem hj, hC2, But.ofOnly hO2⟩

theorem ob_drawn {w : World} {B b c : Nat} {l : List Int} (hc : l.length ≤ c) (hy : ∀ y ∈ l, 0 ≤ y ∧ y ≤ 255) (hr : Row 5 w b l.length (fun i => l.getD i 0)) (hB : B ≤ b) : OB w B (.slice (some ⟨b, 0, none⟩) l.length c) l :=
  ⟨_, _, rfl, hc, (fun e => by cases e), hy, .inr ⟨b, rfl, hB, hr⟩⟩
theorem ob_zeros (w : World) {B : Nat} (N : Nat) (hB : B ≤ w.heap.size) : OB (w.alloc (.cells (madeCells #[.int .u8 0] N) 5)) B (.slice (some ⟨w.heap.size, 0, none⟩) N N) (List.replicate N 0) := by
  have hr : Row 5 (w.alloc (.cells (madeCells #[.int .u8 0] N) 5)) w.heap.size N (fun _ => 0) := Row.ofIs (World.rowIs_made w _ _ _)
  have hl : (List.replicate N (0 : Int)).length = N := by simp
  refine ⟨some ⟨w.heap.size, 0, none⟩, N, by rw [hl], by rw [hl]; exact Nat.le_refl _, (fun e => by cases e), fun x hx => by simp at hx; omega, .inr ⟨_, rfl, hB, ?_⟩⟩
  rw [hl]
  refine hr.congr (fun i hi => ?_)
  simp [bf, hi]
theorem ob_one (w : World) {B : Nat} (hB : B ≤ w.heap.size) : OB (w.alloc (.cells #[.int .u8 1] 5)) B (.slice (some ⟨w.heap.size, 0, none⟩) 1 1) [1] := by
  have hr : Row 5 (w.alloc (.cells #[.int .u8 1] 5)) w.heap.size 1 (fun _ => 1) := Row.ofIs (World.rowIs_alloc w #[.int .u8 1] 5 (fun _ => .int .u8 1) (fun j hj => by
    have : j = 0 := by simp at hj; omega
    subst this; rfl))
  refine ⟨some ⟨w.heap.size, 0, none⟩, 1, rfl, Nat.le_refl _, (fun e => by cases e), fun x hx => by simp at hx; omega, .inr ⟨_, rfl, hB, hr.congr (fun i hi => ?_)⟩⟩
  have hi' : i < 1 := hi
  have : i = 0 := by omega
  subst this; rfl
/-- The cells of a row of one element. -/
theorem cells2New (W : World) (a b : Value) (T : TypeId) : ∀ j u, [a, b][j]? = some u → (W.alloc (.cells #[a, b] T)).cell? ((⟨W.heap.size, 0, none⟩ : Addr).add j) = some u := by
  intro j u h
  have hv := VN.new W T [a, b]
  have ea : ∀ j, (⟨W.heap.size, 0, none⟩ : Addr).add j = ⟨W.heap.size, j, none⟩ := fun j => by unfold Addr.add; split <;> simp_all
  rw [ea]
  have := hv.cell j
  rw [← h]
  exact this
/-- A fault more, in the variable too. -/
theorem MS.moreF {w wa : World} {B X gs sc : Nat} {ca : Option Addr} {cc : Nat} {fa : Option Addr} {fc : Nat} {ss cs : List Value} {D : PDisk} {S : List (List Int)} (h : MS w B X gs sc ca cc fa fc ss cs D S) (hk : KeepT (fun t => t = 79) w wa) (f : PFault) {fb : Option Addr} {fd : Nat} (hO : wa.ownsRow B 79 3 (.slice fb (D.faults.length + 1) fd) (D.faults.length + 1) (fcells D.faults ++ [.int .i64 f.pos, .int .i64 f.keep, .int .i64 f.cut])) :
    MS (wa.setCell ⟨X, 3, none⟩ (.slice fb (D.faults.length + 1) fd)) B X gs sc ca cc fb fd ss cs { D with faults := D.faults ++ [f] } S := by
  have hXa := h.x.block (hk _ _ _ _ h.x (by decide))
  have hk2 := keep_vn (P := fun t => t = 32) (i := 3) (u := .slice fb (D.faults.length + 1) fd) hXa rfl
  have hX2 := hXa.set 3 (.slice fb (D.faults.length + 1) fd)
  simp only [List.set] at hX2
  have hO2 := own_keepT hO hk2 (by decide)
  refine ⟨?_, (h.secs.keepT hk (by decide)).keepT hk2 (by decide), h.ns, h.len, fun i v x h1 h2 => ((h.ob i v x h1 h2).keepT hk (by decide)).keepT hk2 (by decide), own_keepT (own_keepT h.own hk (by decide)) hk2 (by decide), h.nc, fun i v x h1 h2 => ((h.cb i v x h1 h2).keepT hk (by decide)).keepT hk2 (by decide), ?_⟩
  · show VN _ X _ [.slice (some ⟨gs, 0, none⟩) D.secs.length sc, .slice ca D.cache.length cc, .int .i64 D.ops, .slice fb (D.faults ++ [f]).length fd, .bool D.down]
    rw [List.length_append]
    exact hX2
  · show World.ownsRow _ B _ 3 (.slice fb (D.faults ++ [f]).length fd) (D.faults ++ [f]).length (fcells (D.faults ++ [f]))
    rw [fcells_push, List.length_append]
    exact hO2
/-- The sectors are cut to three. -/
theorem MS.cut3 {w : World} {B X gs sc : Nat} {ca : Option Addr} {cc : Nat} {fa : Option Addr} {fc : Nat} {ss cs : List Value} {D : PDisk} (h : MS w B X gs sc ca cc fa fc ss cs D D.secs) (h4 : 3 ≤ D.secs.length) :
    MS (w.setCell ⟨X, 0, none⟩ (.slice (some ⟨gs, 0, none⟩) 3 sc)) B X gs sc ca cc fa fc (ss.take 3) cs { D with secs := D.secs.take 3 } (D.secs.take 3) := by
  have hk2 := keep_vn (P := fun t => t = 32) (i := 0) (u := .slice (some ⟨gs, 0, none⟩) 3 sc) h.x rfl
  have hX2 := h.x.set 0 (.slice (some ⟨gs, 0, none⟩) 3 sc)
  simp only [List.set] at hX2
  have hl : (D.secs.take 3).length = 3 := by simp; omega
  refine ⟨?_, ?_, by have := h.ns; simp [this], rfl, fun i v x h1 h2 => ?_, own_keepT h.own hk2 (by decide), h.nc, fun i v x h1 h2 => (h.cb i v x h1 h2).keepT hk2 (by decide), own_keepT h.fown hk2 (by decide)⟩
  · show VN _ X _ [.slice (some ⟨gs, 0, none⟩) (D.secs.take 3).length sc, .slice ca D.cache.length cc, .int .i64 D.ops, .slice fa D.faults.length fc, .bool D.down]
    rw [hl]
    exact hX2
  · have hr := h.secs.keepT hk2 (by decide)
    rcases hr with hr | ⟨g, cur, e, hB, hc, hp⟩
    · exact .inl (by rw [hr]; rfl)
    · refine .inr ⟨g, cur, e, hB, hc, fun i u hu => hp i u ?_⟩
      rw [List.getElem?_take] at hu
      split at hu
      · exact hu
      · cases hu
  · rw [List.getElem?_take] at h1 h2
    split at h1
    · rename_i hi
      rw [if_pos hi] at h2
      exact (h.ob i v x h1 h2).keepT hk2 (by decide)
    · cases h1

/-- A disk that is drawn and bent, in a variable, beside the cursor and the result's variable. -/
structure AL (w : World) (g : Nat) (ao : Option Addr) (n cap : Nat) (f : Nat → Int) (B X gs sc : Nat) (fa : Option Addr) (fc : Nat) (D : PDisk) (ca : Option Addr) (cc : Nat) (ss cs : List Value) (W : World) : Prop where
  ms : MS W B X gs sc ca cc fa fc ss cs D D.secs
  ml : ML D sc ca cc fa fc
  ok : KFine D
  few : 3 ≤ D.secs.length ∧ D.secs.length ≤ 48
  r : VN W w.heap.size 32 [.slice none 0 0, .slice none 0 0, .int .i64 0, .slice none 0 0, .bool false]
  cn : CN w g ao n cap f W
  lo : w.heap.size < B
  b : B ≤ W.heap.size
  x : B ≤ X
section
variable {w : World} {g : Nat} {ao : Option Addr} {n cap : Nat} {f : Nat → Int} {B X gs sc : Nat} {fa : Option Addr} {fc : Nat} {D : PDisk} {ca : Option Addr} {cc : Nat} {ss cs : List Value} {W W' : World}
theorem AL.but (h : AL w g ao n cap f B X gs sc fa fc D ca cc ss cs W) (hC : Cur W' g ao n cap f) (hb : But g W W') : AL w g ao n cap f B X gs sc fa fc D ca cc ss cs W' :=
  have h1 := h.cn.lt
  have h2 := h.lo
  ⟨h.ms.up (Up.ofBut hb (by omega)) h.x, h.ml, h.ok, h.few, h.r.block (hb.block _ h.r.lt (by omega)), h.cn.next hC hb, h.lo, Nat.le_trans h.b hb.size, h.x⟩
theorem AL.on (h : AL w g ao n cap f B X gs sc fa fc D ca cc ss cs W) (hb : Below W.heap.size W W') : AL w g ao n cap f B X gs sc fa fc D ca cc ss cs W' :=
  ⟨h.ms.on hb, h.ml, h.ok, h.few, h.r.below hb, h.cn.below hb, h.lo, Nat.le_trans h.b hb.size, h.x⟩
theorem AL.op {D' : PDisk} {ca' fa' : Option Addr} {cc' fc' : Nat} {ss' cs' : List Value} (h : AL w g ao n cap f B X gs sc fa fc D ca cc ss cs W) (hm : MS W' B X gs sc ca' cc' fa' fc' ss' cs' D' D'.secs) (hl : ML D' sc ca' cc' fa' fc') (hok : KFine D') (hf : 3 ≤ D'.secs.length ∧ D'.secs.length ≤ 48) (hb : Below B W W') : AL w g ao n cap f B X gs sc fa' fc' D' ca' cc' ss' cs' W' :=
  have h2 := h.lo
  ⟨hm, hl, hok, hf, h.r.block (hb.block _ h2), h.cn.belowB hb (by omega), h.lo, Nat.le_trans h.b hb.size, h.x⟩
theorem AL.setX (h : AL w g ao n cap f B X gs sc fa fc D ca cc ss cs W) (i : Nat) (u : Value) : Below B W (W.setCell ⟨X, i, none⟩ u) := (Below.refl _ _).setCell (p := ⟨X, i, none⟩) h.x _
theorem AL.ops (h : AL w g ao n cap f B X gs sc fa fc D ca cc ss cs W) (z : Int) : AL w g ao n cap f B X gs sc fa fc { D with ops := z } ca cc ss cs (W.setCell ⟨X, 2, none⟩ (.int .i64 z)) :=
  h.op (h.ms.ops z) ⟨h.ml.s, h.ml.c, h.ml.cn, h.ml.f, h.ml.fn⟩ ⟨h.ok.ns, h.ok.sec, h.ok.nc, h.ok.cache, h.ok.nf⟩ h.few (h.setX 2 _)
theorem AL.cut (h : AL w g ao n cap f B X gs sc fa fc D ca cc ss cs W) : AL w g ao n cap f B X gs sc fa fc { D with secs := D.secs.take 3 } ca cc (ss.take 3) cs (W.setCell ⟨X, 0, none⟩ (.slice (some ⟨gs, 0, none⟩) 3 sc)) := by
  have h3 := h.few.1
  have hl : (D.secs.take 3).length = 3 := by simp; omega
  have hs := h.ml.s
  exact h.op (h.ms.cut3 h3) ⟨by show (D.secs.take 3).length ≤ _; omega, h.ml.c, h.ml.cn, h.ml.f, h.ml.fn⟩ ⟨by show (D.secs.take 3).length ≤ _; omega, fun x hx => h.ok.sec x (List.mem_of_mem_take hx), h.ok.nc, h.ok.cache, h.ok.nf⟩ (by show 3 ≤ (D.secs.take 3).length ∧ (D.secs.take 3).length ≤ 48; omega) (h.setX 0 _)
theorem AL.sec (h : AL w g ao n cap f B X gs sc fa fc D ca cc ss cs W) {m : Nat} (hm : m < D.secs.length) {v : Value} {l : List Int} (hv : OB W B v l) (hl : l.length ≤ 1048576) : AL w g ao n cap f B X gs sc fa fc { D with secs := D.secs.set m l } ca cc (ss.set m v) cs (W.setCell ⟨gs, m, none⟩ v) := by
  have hlen : (D.secs.set m l).length = D.secs.length := by simp
  obtain ⟨gs', e, hgB, -, -⟩ := h.ms.secs.cell (by rw [h.ms.ns]; omega)
  cases e
  have h4 := h.few
  have h5 := h.ml.s
  have h6 := h.ok.ns
  refine h.op (h.ms.put hm hv).asSecs ⟨by show (D.secs.set m l).length ≤ _; omega, h.ml.c, h.ml.cn, h.ml.f, h.ml.fn⟩ ⟨by show (D.secs.set m l).length ≤ _; omega, fun x hx => ?_, h.ok.nc, h.ok.cache, h.ok.nf⟩ (by show 3 ≤ (D.secs.set m l).length ∧ (D.secs.set m l).length ≤ 48; omega) ((Below.refl _ _).setCell (p := ⟨gs, m, none⟩) hgB _)
  rcases List.mem_or_eq_of_mem_set hx with hx | hx
  · exact h.ok.sec x hx
  · rw [hx]; exact hl
/-- Behind the append to the cache, and the store. -/
theorem AL.push {wa : World} {row : Option Nat} (h : AL w g ao n cap f B X gs sc fa fc D ca cc ss cs W) (hg : W.grownBy wa row) (hr : ∀ k, row = some k → B ≤ k) (hk : KeepT (fun t => t = 51) W wa) {z : Int} {l : List Int} {u : Value} (hu : OB W B u l) (hl : l.length ≤ 1048576) (hc : D.cache.length ≤ 1000) {cb : Option Addr} {cd : Nat} (hcd : D.cache.length + 1 ≤ cd) (hcb : cb = none → cd = 0) (hO : wa.ownsRow B 51 2 (.slice cb (D.cache.length + 1) cd) (D.cache.length + 1) (wcells D.cache cs ++ [.int .i64 z, u])) :
    AL w g ao n cap f B X gs sc fa fc { D with cache := D.cache ++ [(z, l)] } cb cd ss (cs ++ [u]) (wa.setCell ⟨X, 1, none⟩ (.slice cb (D.cache.length + 1) cd)) := by
  have hb : Below B W (wa.setCell ⟨X, 1, none⟩ (.slice cb (D.cache.length + 1) cd)) := ((Below.refl _ _).grown hg h.b hr).setCell (p := ⟨X, 1, none⟩) h.x _
  refine h.op (h.ms.more hk hu hO).1 ⟨h.ml.s, by show (D.cache ++ [(z, l)]).length ≤ _; simp; omega, hcb, h.ml.f, h.ml.fn⟩ ⟨h.ok.ns, h.ok.sec, by show (D.cache ++ [(z, l)]).length ≤ _; simp; omega, fun x hx => ?_, h.ok.nf⟩ h.few hb
  rcases List.mem_append.1 hx with hx | hx
  · exact h.ok.cache x hx
  · simp at hx; rw [hx]; exact hl
/-- Behind the append to the faults, and the store. -/
theorem AL.pushF {wa : World} {row : Option Nat} (h : AL w g ao n cap f B X gs sc fa fc D ca cc ss cs W) (hg : W.grownBy wa row) (hr : ∀ k, row = some k → B ≤ k) (hk : KeepT (fun t => t = 79) W wa) (x : PFault) (hc : D.faults.length ≤ 1000) {fb : Option Addr} {fd : Nat} (hcd : D.faults.length + 1 ≤ fd) (hfb : fb = none → fd = 0) (hO : wa.ownsRow B 79 3 (.slice fb (D.faults.length + 1) fd) (D.faults.length + 1) (fcells D.faults ++ [.int .i64 x.pos, .int .i64 x.keep, .int .i64 x.cut])) :
    AL w g ao n cap f B X gs sc fb fd { D with faults := D.faults ++ [x] } ca cc ss cs (wa.setCell ⟨X, 3, none⟩ (.slice fb (D.faults.length + 1) fd)) := by
  have hb : Below B W (wa.setCell ⟨X, 3, none⟩ (.slice fb (D.faults.length + 1) fd)) := ((Below.refl _ _).grown hg h.b hr).setCell (p := ⟨X, 3, none⟩) h.x _
  exact h.op (h.ms.moreF hk x hO) ⟨h.ml.s, h.ml.c, h.ml.cn, by show (D.faults ++ [x]).length ≤ _; simp; omega, hfb⟩ ⟨h.ok.ns, h.ok.sec, h.ok.nc, h.ok.cache, by show (D.faults ++ [x]).length ≤ _; simp; omega⟩ h.few hb
end
end Go.Proofs.Ytdhfbblameiloaa

/-
  The draw of a disk that is bent or not: what was drawn.
-/
namespace Go.Proofs.Ytdhfbblameiloaa
open Go.RowKit
set_option maxRecDepth 4000

/-- What was drawn. -/
def AD (w : World) (g : Nat) (ao : Option Addr) (n cap : Nat) (f : Nat → Int) (e : Ending) (W : World) : Prop :=
  ∃ (D : PDisk) (B X gs sc : Nat) (ca : Option Addr) (cc : Nat) (fa : Option Addr) (fc : Nat) (ss cs : List Value), e = .returned (dval D (some ⟨gs, 0, none⟩) sc ca cc fa fc) ∧ MS W B X gs sc ca cc fa fc ss cs D D.secs ∧ ML D sc ca cc fa fc ∧ KFine D ∧ (3 ≤ D.secs.length ∧ D.secs.length ≤ 48) ∧ CN w g ao n cap f W ∧ w.heap.size ≤ B ∧ B ≤ X

/-- The variable's disk is laid into the result's. -/
theorem AL.out {w : World} {g : Nat} {ao : Option Addr} {n cap : Nat} {f : Nat → Int} {B X gs sc : Nat} {fa : Option Addr} {fc : Nat} {D : PDisk} {ca : Option Addr} {cc : Nat} {ss cs : List Value} {W : World} (hL : AL w g ao n cap f B X gs sc fa fc D ca cc ss cs W) :
    AD w g ao n cap f (.returned (dval D (some ⟨gs, 0, none⟩) sc ca cc fa fc)) (((((W.setCell ⟨w.heap.size, 0, none⟩ (.slice (some ⟨gs, 0, none⟩) D.secs.length sc)).setCell ⟨w.heap.size, 1, none⟩ (.slice ca D.cache.length cc)).setCell ⟨w.heap.size, 2, none⟩ (.int .i64 D.ops)).setCell ⟨w.heap.size, 3, none⟩ (.slice fa D.faults.length fc)).setCell ⟨w.heap.size, 4, none⟩ (.bool D.down)) := by
  have hRk := ret5_keep (.slice (some ⟨gs, 0, none⟩) D.secs.length sc) (.slice ca D.cache.length cc) (.int .i64 D.ops) (.slice fa D.faults.length fc) (.bool D.down) hL.r
  have hlo := hL.lo
  have hxx := hL.x
  have hms := hL.ms
  refine ⟨D, B, X, gs, sc, ca, cc, fa, fc, ss, cs, rfl, hms.keepX hRk X ?_, hL.ml, hL.ok, hL.few, ((((hL.cn.set (Nat.le_refl _) _ _).set (Nat.le_refl _) _ _).set (Nat.le_refl _) _ _).set (Nat.le_refl _) _ _).set (Nat.le_refl _) _ _, by omega, hxx⟩
  exact ((((hms.x.other (by omega)).other (by omega)).other (by omega)).other (by omega)).other (by omega)
end Go.Proofs.Ytdhfbblameiloaa

/-
  What is read as a text, plainly.
-/
namespace Go.Proofs.Ytdhfbblameiloaa
open Go.RowKit
set_option maxRecDepth 4000

theorem View.cut {w : World} {b off n cap m k : Nat} {f : Nat → Int} (h : View w (some ⟨b, off, none⟩) n cap f) (hm : k + m ≤ n) : View w (some ⟨b, off + k, none⟩) m (cap - k) (fun i => f (k + i)) := by
  have := h.le
  refine ⟨by omega, fun i hi => h.byte (k + i) (by omega), fun h0 => ?_⟩
  obtain ⟨b', off', e, hb, hc⟩ := h.cells (by omega)
  simp only [Option.some.injEq, Addr.mk.injEq, and_true] at e
  obtain ⟨rfl, rfl⟩ := e
  exact ⟨b, off + k, rfl, hb, fun i hi => by rw [Nat.add_assoc]; exact hc (k + i) (by omega)⟩

end Go.Proofs.Ytdhfbblameiloaa

/-
  What was put comes back, plainly: a number of its groups, a text of its bytes; cut by one byte the number does not.
-/
namespace Go.Proofs.Ytdhfbblameiloaa
open Go.RowKit
set_option maxRecDepth 4000

theorem getD_left (l k : List Int) (i : Nat) (h : i < l.length) : (l ++ k).getD i 0 = l.getD i 0 := by
  rw [List.getD_eq_getElem?_getD, List.getD_eq_getElem?_getD, List.getElem?_append_left h]
theorem getD_right (l k : List Int) (i : Nat) : (l ++ k).getD (l.length + i) 0 = k.getD i 0 := by
  rw [List.getD_eq_getElem?_getD, List.getD_eq_getElem?_getD, List.getElem?_append_right (by omega)]
  congr 2
  omega

end Go.Proofs.Ytdhfbblameiloaa

/-
  Lists of a function's first values are alike just where it is.
-/
namespace Go.Proofs.Ytdhfbblameiloaa
open Go.RowKit
set_option maxRecDepth 4000

theorem lof_eq {n : Nat} {f g : Nat → Int} : lof n f = lof n g ↔ ∀ i, i < n → f i = g i := by
  constructor
  · intro h i hi
    rw [← lof_get n f i hi, ← lof_get n g i hi, h]
  · intro h
    unfold lof
    apply List.map_congr_left
    intro i hi
    exact h i (List.mem_range.1 hi)
end Go.Proofs.Ytdhfbblameiloaa

/-
  What stands at a place of bytes, what is read there: numbers and texts.
-/
namespace Go.Proofs.Ytdhfbblameiloaa
open Go.RowKit
set_option maxRecDepth 4000

/-- The bytes L stand at place i of the N bytes F. -/
structure AtF (N : Nat) (F : Nat → Int) (i : Nat) (L : List Int) : Prop where
  le : i + L.length ≤ N
  at' : ∀ j, j < L.length → F (i + j) = L.getD j 0
theorem AtF.append {N : Nat} {F : Nat → Int} {i : Nat} {L K : List Int} (h : AtF N F i L) (k : AtF N F (i + L.length) K) : AtF N F i (L ++ K) :=
  ⟨by have := k.le; rw [List.length_append]; omega, fun j hj => by
    rw [List.length_append] at hj
    by_cases e : j < L.length
    · rw [h.at' j e, getD_left _ _ _ e]
    · obtain ⟨m, rfl⟩ : ∃ m, j = L.length + m := ⟨j - L.length, by omega⟩
      rw [← Nat.add_assoc, k.at' m (by omega), getD_right]⟩
theorem AtF.nil {N : Nat} {F : Nat → Int} {i : Nat} (h : i ≤ N) : AtF N F i [] := ⟨by simpa using h, fun j hj => absurd hj (Nat.not_lt_zero _)⟩
end Go.Proofs.Ytdhfbblameiloaa

/-
  The four bytes of a sum; new rows of bytes.
-/
namespace Go.Proofs.Ytdhfbblameiloaa
open Go.RowKit
set_option maxRecDepth 4000

theorem bytes_of_list {l : List Int} (h : ∀ y ∈ l, 0 ≤ y ∧ y ≤ 255) : ∀ i, i < l.length → 0 ≤ l.getD i 0 ∧ l.getD i 0 ≤ 255 := by
  intro i hi
  have := h _ (List.getElem_mem hi)
  simpa [hi] using this

end Go.Proofs.Ytdhfbblameiloaa

/-
  What the last four bytes say, plainly.
-/
namespace Go.Proofs.Ytdhfbblameiloaa
open Go.RowKit
set_option maxRecDepth 4000

theorem lof_byteS {n : Nat} {f : Nat → Int} (h : ∀ i, i < n → 0 ≤ f i ∧ f i ≤ 255) : ∀ y ∈ lof n f, 0 ≤ y ∧ y ≤ 255 := by
  intro y hy
  simp only [lof, List.mem_map, List.mem_range] at hy
  obtain ⟨i, hi, rfl⟩ := hy
  exact h i hi

end Go.Proofs.Ytdhfbblameiloaa

/-
  Bytes that are bent, and a place in bytes, as far as a law leans on their draws.
-/
namespace Go.Proofs.Ytdhfbblameiloaa
open Go.RowKit
set_option maxRecDepth 4000

/-- Of what lies below B block g alone may have turned. -/
structure Kept (B g : Nat) (w w' : World) : Prop where
  os : w'.os = w.os
  tape : w'.tape = w.tape
  output : w'.output = w.output
  size : w.heap.size ≤ w'.heap.size
  block : ∀ k, k < B → k ≠ g → w'.heap[k]? = w.heap[k]?
theorem Kept.ofBut {B g : Nat} {w w' : World} (h : But g w w') (hB : B ≤ w.heap.size) : Kept B g w w' := ⟨h.os, h.tape, h.output, h.size, fun k hk hg => h.block k (by omega) hg⟩
theorem Kept.trans {B g : Nat} {a b c : World} (h : Kept B g a b) (k : Kept B g b c) : Kept B g a c :=
  ⟨k.os.trans h.os, k.tape.trans h.tape, k.output.trans h.output, Nat.le_trans h.size k.size, fun i hi hg => (k.block i hi hg).trans (h.block i hi hg)⟩
theorem Kept.below {B g A : Nat} {w w' : World} (h : Kept B g w w') (h1 : A ≤ g) (h2 : A ≤ B) : Below A w w' := ⟨h.os, h.tape, h.output, h.size, fun k hk => h.block k (by omega) (by omega)⟩
theorem Kept.setCell {B g b i : Nat} {w w' : World} (h : Kept B g w w') (hb : B ≤ b) (u : Value) : Kept B g w (w'.setCell ⟨b, i, none⟩ u) :=
  ⟨h.os, h.tape, h.output, by simpa using h.size, fun k hk hg => by rw [Below.heap_setCell _ _ _ _ (by show k ≠ b; omega)]; exact h.block k hk hg⟩

/-- The same, the row being known. -/
structure BentR (w' : World) (B N : Nat) (e : Ending) (b c m : Nat) (F : Nat → Int) : Prop where
  ret : e = .returned (.slice (some ⟨b, 0, none⟩) m c)
  few : m ≤ N + 1
  new : B ≤ b
  le : m ≤ c
  byte : ∀ i, i < m → 0 ≤ F i ∧ F i ≤ 255
  row : Row 5 w' b m F
theorem Cur.kept {B : Nat} {w w' : World} {g : Nat} {ao : Option Addr} {n cap : Nat} {f : Nat → Int} (h : Cur w g ao n cap f) (hk : ∀ k, k < B → w'.heap[k]? = w.heap[k]?) (hs : w.heap.size ≤ w'.heap.size) (hg : g < B) (hc : ∀ a, ao = some a → 0 < n → a.block < B) : Cur w' g ao n cap f := by
  obtain ⟨i, k, hr, h0, hi⟩ := h.cells
  refine ⟨⟨i, k, hr.of_block (hk g hg), h0, hi⟩, ⟨h.view.le, h.view.byte, fun hn => ?_⟩, h.apart⟩
  obtain ⟨b', off, e, hlt, hcc⟩ := h.view.cells hn
  refine ⟨b', off, e, Nat.lt_of_lt_of_le hlt hs, fun j hj => ?_⟩
  rw [World.cell?_of_block (w := w) (hk b' (hc _ e hn))]
  exact hcc j hj

end Go.Proofs.Ytdhfbblameiloaa

/-
  A draw of yes or no.
-/
namespace Go.Proofs.Ytdhfbblameiloaa
open Go.RowKit
set_option maxRecDepth 4000

set_option maxHeartbeats 1000000 in
theorem l1Once_any (g : Nat) (ao : Option Addr) (n cap : Nat) (f : Nat → Int) (m : Int) (w : World) (hn : n ≤ 1048576) (hm : 0 < m) (hm1 : m ≤ 16777216) (hC : Cur w g ao n cap f) :
    Calls Try.prog 79 #[.pointer (some ⟨g, 0, none⟩), .int .i64 m] w fun e w' => ∃ b : Bool, e = .returned (.bool b) ∧ Cur w' g ao n cap f ∧ Only g w w' := by
  go_enter Try.func79, Try.ntmps79
  go_wp2_with fail
  refine (l1Below_any g ao n cap f m w hn hm hm1 hC).mono ?_
  rintro e w1 ⟨x, rfl, hx0, hx1, hC1, hO1⟩
  go_wp2
  go_ret
  exact ⟨_, rfl, hC1, hO1⟩
end Go.Proofs.Ytdhfbblameiloaa

/-
  The draw of a sector's number.
-/
namespace Go.Proofs.Ytdhfbblameiloaa
open Go.RowKit
set_option maxRecDepth 4000

set_option maxHeartbeats 2000000 in
theorem l12N_any (g : Nat) (ao : Option Addr) (n cap : Nat) (f : Nat → Int) (w : World) (hn : n ≤ 1048576) (hC : Cur w g ao n cap f) :
    Calls Try.prog 82 #[.pointer (some ⟨g, 0, none⟩)] w fun e w' => ∃ z : Int, e = .returned (.int .i64 z) ∧ -1 ≤ z ∧ z ≤ 48 ∧ Cur w' g ao n cap f ∧ But g w w' := by
  have hI := l1Int_mem g ao n cap f [0, 1, 2, 3, 5, -1, 48] w.heap.size w rfl hn (by simp) (by simp) hC
  clear hC
  go_enter Try.func82, Try.ntmps82
  go_wp2_with fail
  refine hI.mono ?_
  rintro e w1 ⟨z, rfl, hz, hC1, hB1⟩
  have HE : Hid (-1 ≤ z ∧ z ≤ 48 ∧ Cur w1 g ao n cap f ∧ But g w w1) := ⟨by simp at hz; omega, by simp at hz; omega, hC1, hB1⟩
  clear hI hz hC1 hB1
  go_wp2
  go_ret
  exact ⟨z, rfl, HE.out⟩

/-- A disk in a variable, the cursor, and the result's variable. -/
structure PA (w : World) (g : Nat) (ao : Option Addr) (n cap : Nat) (f : Nat → Int) (B X gs sc : Nat) (fa : Option Addr) (fc : Nat) (D : PDisk) (ca : Option Addr) (cc : Nat) (ss cs : List Value) (W : World) : Prop where
  ms : MS W B X gs sc ca cc fa fc ss cs D D.secs
  ml : ML D sc ca cc fa fc
  ok : KFine D
  few : 4 ≤ D.secs.length ∧ D.secs.length ≤ 48
  r : VN W w.heap.size 32 [.slice none 0 0, .slice none 0 0, .int .i64 0, .slice none 0 0, .bool false]
  cur : Cur W g ao n cap f
  below : Below w.heap.size w W
  rg : w.heap.size < g
  gB : g < B
  code : ∀ a, ao = some a → 0 < n → a.block < w.heap.size
  b : B ≤ W.heap.size
  x : B ≤ X
theorem PA.but {w : World} {g : Nat} {ao : Option Addr} {n cap : Nat} {f : Nat → Int} {B X gs sc : Nat} {fa : Option Addr} {fc : Nat} {D : PDisk} {ca : Option Addr} {cc : Nat} {ss cs : List Value} {W W' : World} (h : PA w g ao n cap f B X gs sc fa fc D ca cc ss cs W) (hC : Cur W' g ao n cap f) (hb : But g W W') : PA w g ao n cap f B X gs sc fa fc D ca cc ss cs W' :=
  have h1 := h.rg
  have h2 := h.below.size
  ⟨h.ms.up (Up.ofBut hb h.gB) h.x, h.ml, h.ok, h.few, h.r.block (hb.block _ h.r.lt (by omega)), hC, h.below.trans ⟨hb.os, hb.tape, hb.output, hb.size, fun k hk => hb.block k (by omega) (by omega)⟩, h.rg, h.gB, h.code, Nat.le_trans h.b hb.size, h.x⟩
theorem PA.drew {w : World} {g : Nat} {ao : Option Addr} {n cap : Nat} {f : Nat → Int} {B X gs sc : Nat} {fa : Option Addr} {fc : Nat} {D : PDisk} {ca : Option Addr} {cc : Nat} {ss cs : List Value} {W : World} (h : PA w g ao n cap f B X gs sc fa fc D ca cc ss cs W) : PA w g ao n cap f B X gs sc fa fc D ca cc ss cs W.drew :=
  ⟨h.ms.on (Below.refl _ _).drew, h.ml, h.ok, h.few, h.r.below (Below.refl _ _).drew, h.cur.drew, h.below.drew, h.rg, h.gB, h.code, h.b, h.x⟩
/-- A bent page comes into a sector. -/
theorem BentR.ob {W : World} {B B' N : Nat} {e : Ending} {b c m : Nat} {F : Nat → Int} (h : BentR W B' N e b c m F) (hB : B ≤ B') : OB W B (.slice (some ⟨b, 0, none⟩) m c) (lof m F) := by
  have hl := lof_len m F
  refine ⟨some ⟨b, 0, none⟩, c, by rw [hl], by rw [hl]; exact h.le, (fun e => by cases e), lof_byteS h.byte, .inr ⟨b, rfl, Nat.le_trans hB h.new, ?_⟩⟩
  obtain ⟨cu, u1, u2, u3⟩ := h.row
  refine ⟨cu, u1, by rw [hl]; exact u2, fun i hi => ?_⟩
  rw [hl] at hi
  rw [u3 i hi]
  congr 2
  exact (lof_get m F i hi).symm
end Go.Proofs.Ytdhfbblameiloaa

/-
  Five cells that are laid below a bound.
-/
namespace Go.Proofs.Ytdhfbblameiloaa
open Go.RowKit
set_option maxRecDepth 4000

theorem Up.five {B R : Nat} {w : World} (v0 v1 v2 v3 v4 : Value) (h : R < B) : Up B w (((((w.setCell ⟨R, 0, none⟩ v0).setCell ⟨R, 1, none⟩ v1).setCell ⟨R, 2, none⟩ v2).setCell ⟨R, 3, none⟩ v3).setCell ⟨R, 4, none⟩ v4) :=
  ((((Up.set h).trans (Up.set h)).trans (Up.set h)).trans (Up.set h)).trans (Up.set h)
end Go.Proofs.Ytdhfbblameiloaa

/-
  A drawn disk, bent or not, in a variable of a function that draws by a cursor of its own.
-/
namespace Go.Proofs.Ytdhfbblameiloaa
open Go.RowKit
set_option maxRecDepth 4000

/-- The disk D in the variable X, beside the result's variable and the cursor g. -/
structure PB (w : World) (g : Nat) (ao : Option Addr) (n cap : Nat) (f : Nat → Int) (B X gs sc : Nat) (fa : Option Addr) (fc : Nat) (D : PDisk) (ca : Option Addr) (cc : Nat) (ss cs : List Value) (W : World) : Prop where
  ms : MS W B X gs sc ca cc fa fc ss cs D D.secs
  ml : ML D sc ca cc fa fc
  ok : KFine D
  few : 3 ≤ D.secs.length ∧ D.secs.length ≤ 48
  r : VN W w.heap.size 32 [.slice none 0 0, .slice none 0 0, .int .i64 0, .slice none 0 0, .bool false]
  cur : Cur W g ao n cap f
  below : Below w.heap.size w W
  rg : w.heap.size < g
  gB : g < B
  code : ∀ a, ao = some a → 0 < n → a.block < w.heap.size
  b : B ≤ W.heap.size
  x : B ≤ X
section
variable {w : World} {g : Nat} {ao : Option Addr} {n cap : Nat} {f : Nat → Int} {B X gs sc : Nat} {fa : Option Addr} {fc : Nat} {D : PDisk} {ca : Option Addr} {cc : Nat} {ss cs : List Value} {W W' : World}
theorem PB.but (h : PB w g ao n cap f B X gs sc fa fc D ca cc ss cs W) (hC : Cur W' g ao n cap f) (hb : But g W W') : PB w g ao n cap f B X gs sc fa fc D ca cc ss cs W' :=
  have h1 := h.rg
  have h2 := h.below.size
  ⟨h.ms.up (Up.ofBut hb h.gB) h.x, h.ml, h.ok, h.few, h.r.block (hb.block _ h.r.lt (by omega)), hC, h.below.trans ⟨hb.os, hb.tape, hb.output, hb.size, fun k hk => hb.block k (by omega) (by omega)⟩, h.rg, h.gB, h.code, Nat.le_trans h.b hb.size, h.x⟩
theorem PB.on (h : PB w g ao n cap f B X gs sc fa fc D ca cc ss cs W) (hb : Below W.heap.size W W') : PB w g ao n cap f B X gs sc fa fc D ca cc ss cs W' :=
  h.but (h.cur.below hb) ⟨hb.os, hb.tape, hb.output, hb.size, fun k hk _ => hb.block k hk⟩
theorem PB.curOn (h : PB w g ao n cap f B X gs sc fa fc D ca cc ss cs W) {C i : Nat} (hC : B ≤ C) (u : Value) : Cur (W.setCell ⟨C, i, none⟩ u) g ao n cap f := by
  have h1 := h.gB
  have h2 := h.rg
  obtain ⟨j, k, hr, h0, hi⟩ := h.cur.cells
  refine ⟨⟨j, k, hr.of_block (Below.heap_setCell _ _ _ _ (show g ≠ C by omega)), h0, hi⟩, ⟨h.cur.view.le, h.cur.view.byte, fun hn => ?_⟩, h.cur.apart⟩
  obtain ⟨b', off, e, hlt, hcc⟩ := h.cur.view.cells hn
  refine ⟨b', off, e, by simpa using hlt, fun j hj => ?_⟩
  have := h.code _ e hn
  rw [World.cell?_of_block (w := W) (Below.heap_setCell _ _ _ _ (show b' ≠ C by simp at this; omega))]
  exact hcc j hj
/-- The disk's variable turns, and what lies behind. -/
theorem PB.set (h : PB w g ao n cap f B X gs sc fa fc D ca cc ss cs W) {D' : PDisk} {ca' fa' : Option Addr} {cc' fc' : Nat} {ss' cs' : List Value} {C i : Nat} {u : Value} (hC : B ≤ C) (hm : MS (W.setCell ⟨C, i, none⟩ u) B X gs sc ca' cc' fa' fc' ss' cs' D' D'.secs) (hl : ML D' sc ca' cc' fa' fc') (hok : KFine D') (hf : 3 ≤ D'.secs.length ∧ D'.secs.length ≤ 48) : PB w g ao n cap f B X gs sc fa' fc' D' ca' cc' ss' cs' (W.setCell ⟨C, i, none⟩ u) :=
  have h1 := h.gB
  have h2 := h.rg
  ⟨hm, hl, hok, hf, h.r.other (by omega), h.curOn hC u, h.below.setCell (p := ⟨C, i, none⟩) (by show _ ≤ C; omega) _, h.rg, h.gB, h.code, by have := h.b; simpa using this, h.x⟩
theorem PB.gsB (h : PB w g ao n cap f B X gs sc fa fc D ca cc ss cs W) : B ≤ gs ∧ gs < W.heap.size := by
  have h4 := h.few
  obtain ⟨gs', e, hgB, hlt, -⟩ := h.ms.secs.cell (by rw [h.ms.ns]; omega)
  cases e
  exact ⟨hgB, hlt⟩
/-- A sector is written. -/
theorem PB.put (h : PB w g ao n cap f B X gs sc fa fc D ca cc ss cs W) {m : Nat} (hm : m < D.secs.length) {v : Value} {l : List Int} (hv : OB W B v l) (hl : l.length ≤ 1048576) :
    PB w g ao n cap f B X gs sc fa fc { D with secs := D.secs.set m l } ca cc (ss.set m v) cs (W.setCell ⟨gs, m, none⟩ v) := by
  have hlen : (D.secs.set m l).length = D.secs.length := by simp
  have h4 := h.few
  have h5 := h.ml.s
  have h6 := h.ok.ns
  refine h.set h.gsB.1 (h.ms.put hm hv).asSecs ⟨by show (D.secs.set m l).length ≤ _; omega, h.ml.c, h.ml.cn, h.ml.f, h.ml.fn⟩ ⟨by show (D.secs.set m l).length ≤ _; omega, fun x hx => ?_, h.ok.nc, h.ok.cache, h.ok.nf⟩ (by show 3 ≤ (D.secs.set m l).length ∧ (D.secs.set m l).length ≤ 48; omega)
  rcases List.mem_or_eq_of_mem_set hx with hx | hx
  · exact h.ok.sec x hx
  · rw [hx]; exact hl
end
end Go.Proofs.Ytdhfbblameiloaa

