/-
  DrawAnyC
-/
import Derived.Test.YtdhfbblameiloaaUP10
import Derived.Deep.RegionHeld3
import Derived.Deep.LoopGhost
/-
  The draw of a disk that is bent or not: a case of it.
-/
namespace Go.Proofs.Ytdhfbblameiloaa
open Go.RowKit
set_option maxRecDepth 4000

set_option maxHeartbeats 16000000 in
theorem l12Any_c {g : Nat} {ao : Option Addr} {n cap : Nat} {f : Nat → Int} {w : World} (hn : n ≤ 1048576) {jf : TypeInfo} (_hjf : Try.prog.info? 79 = some jf) (_fz0 : jf.zero = some (.agg #[.int .i64 0, .int .i64 0, .int .i64 0])) (_fz1 : jf.size = 3) (_fz2 : jf.bytes = 24) {jw : TypeInfo} (hjw : Try.prog.info? 51 = some jw) (wz0 : jw.zero = some (.agg #[.int .i64 0, .slice none 0 0])) (wz1 : jw.size = 2) (wz2 : jw.bytes = 32) {D : PDisk} {B gs sc : Nat} {ca : Option Addr} {cc : Nat} {fa : Option Addr} {fc : Nat} {ss cs : List Value} (_hc12 : D.cache.length ≤ 12) (_hf3 : D.faults.length ≤ 20) {X : Nat} {K1 : Act → World → Prop} {w4 : World} (_hXg : X ≠ g) (hfew : D.cache.length ≤ 1000) (HR2 : Hid (∀ (ca : Option Addr) (cc : Nat) (cs : List Value) (D2 : PDisk) (e5 : Value) (t30 t31 t32 t33 t34 t35 t36 t37 t38 t39 t40 : Value) (W : World), AL w g ao n cap f B X gs sc fa fc D2 ca cc ss cs W → K1 { tmps := #[.pointer (some ⟨g, 0, none⟩), undef, .pointer (some ⟨w.heap.size, 0, none⟩), .pointer (some ⟨X, 0, none⟩), .pointer (some ⟨g, 0, none⟩), e5, .pointer (some ⟨g, 0, none⟩), .int .i64 2, .bool false, .bool false, undef, undef, undef, undef, .bool false, .bool false, undef, undef, undef, undef, undef, undef, undef, undef, undef, undef, undef, undef, .bool true, .bool true, t30, t31, t32, t33, t34, t35, t36, t37, t38, t39, t40, undef, undef, undef, undef, undef, undef, undef, undef, undef, undef, undef, undef, undef, undef, undef, undef, undef, undef, undef, undef, undef, undef, undef, undef, undef, undef, undef, undef, undef, undef, undef, undef], defers := [] } W)) (hL : AL w g ao n cap f B X gs sc fa fc D ca cc ss cs w4.drew) (wd : World) (hwd : Hid (w4.drew = wd)) :
    Code.wp Try.prog
    (Code.region 8
      #[{ dst := some 30, op := Op.fieldAddr 32 (Operand.tmp 3) 1, type := 0, pos := "l12_disk.go:198", after := #[],
          guard := none },
        { dst := some 31, op := Op.load 29 (Operand.tmp 30), type := 29, pos := "l12_disk.go:198",
          after := #[{ on := 0, ground := Ground.data }], guard := none },
        { dst := some 32, op := Op.move (Operand.tmp 0), type := 89, pos := "l12_disk.go:198", after := #[],
          guard := none },
        { dst := some 33,
          op :=
            Op.buildSlice 108 3
              #[(0, Operand.const (Value.int IntKind.i64 (-1))), (1, Operand.const (Value.int IntKind.i64 0)),
                (2, Operand.const (Value.int IntKind.i64 48))],
          type := 108, pos := "l12_disk.go:198", after := #[], guard := none },
        { dst := some 34,
          op :=
            Op.call
              { callee := Callee.value (Operand.func 93), args := #[Operand.tmp 32, Operand.tmp 33],
                argTypes := #[89, 108] },
          type := 3, pos := "l12_disk.go:198",
          after := #[{ on := 2, ground := Ground.data }, { on := 3, ground := Ground.data }], guard := none },
        { dst := some 35, op := Op.move (Operand.tmp 0), type := 89, pos := "l12_disk.go:198", after := #[],
          guard := none },
        { dst := some 36,
          op := Op.call { callee := Callee.value (Operand.func 78), args := #[Operand.tmp 35], argTypes := #[89] },
          type := 27, pos := "l12_disk.go:198",
          after := #[{ on := 5, ground := Ground.data }, { on := 4, ground := Ground.chain }], guard := none },
        { dst := some 37, op := Op.build 51 #[(0, Operand.tmp 34), (1, Operand.tmp 36)], type := 51,
          pos := "l12_disk.go:198", after := #[{ on := 4, ground := Ground.data }, { on := 6, ground := Ground.data }],
          guard := none },
        { dst := some 38, op := Op.buildSlice 29 1 #[(0, Operand.tmp 37)], type := 29, pos := "l12_disk.go:198",
          after := #[{ on := 7, ground := Ground.data }], guard := none },
        { dst := some 39,
          op :=
            Op.call
              { callee := Callee.builtin Builtin.append, args := #[Operand.tmp 31, Operand.tmp 38],
                argTypes := #[29, 29] },
          type := 29, pos := "l12_disk.go:198",
          after :=
            #[{ on := 1, ground := Ground.data }, { on := 8, ground := Ground.data },
              { on := 6, ground := Ground.chain }],
          guard := none },
        { dst := some 40, op := Op.fieldAddr 32 (Operand.tmp 3) 1, type := 0, pos := "l12_disk.go:198",
          after :=
            #[{ on := 0, ground := Ground.phase }, { on := 1, ground := Ground.phase },
              { on := 2, ground := Ground.phase }, { on := 3, ground := Ground.phase },
              { on := 4, ground := Ground.phase }, { on := 5, ground := Ground.phase },
              { on := 6, ground := Ground.phase }, { on := 7, ground := Ground.phase },
              { on := 8, ground := Ground.phase }, { on := 9, ground := Ground.phase }],
          guard := none },
        { dst := none, op := Op.store 29 (Operand.tmp 40) (Operand.tmp 39), type := 0, pos := "l12_disk.go:198",
          after :=
            #[{ on := 10, ground := Ground.data }, { on := 9, ground := Ground.data },
              { on := 9, ground := Ground.chain }, { on := 0, ground := Ground.phase },
              { on := 1, ground := Ground.phase }, { on := 2, ground := Ground.phase },
              { on := 3, ground := Ground.phase }, { on := 4, ground := Ground.phase },
              { on := 5, ground := Ground.phase }, { on := 6, ground := Ground.phase },
              { on := 7, ground := Ground.phase }, { on := 8, ground := Ground.phase },
              { on := 9, ground := Ground.phase }],
          guard := none }]
      true)
    (Exit.inBlock 0 (Exit.then K1 (bodyPost Try.prog Try.f81 (AD w g ao n cap f))))
    {
      tmps :=
        #[Value.pointer (some { block := g, off := 0 }), undef, Value.pointer (some { block := w.heap.size, off := 0 }),
          Value.pointer (some { block := X, off := 0 }), Value.pointer (some { block := g, off := 0 }),
          Value.agg
            #[Value.slice (some { block := gs, off := 0 }) D.secs.length sc, Value.slice ca D.cache.length cc,
              Value.int IntKind.i64 D.ops, Value.slice fa D.faults.length fc, Value.bool D.down],
          Value.pointer (some { block := g, off := 0 }), Value.int IntKind.i64 2, Value.bool false, Value.bool false,
          undef, undef, undef, undef, Value.bool false, Value.bool false, undef, undef, undef, undef, undef, undef,
          undef, undef, undef, undef, undef, undef, Value.bool true, Value.bool true, undef, undef, undef, undef, undef,
          undef, undef, undef, undef, undef, undef, undef, undef, undef, undef, undef, undef, undef, undef, undef,
          undef, undef, undef, undef, undef, undef, undef, undef, undef, undef, undef, undef, undef, undef, undef,
          undef, undef, undef, undef, undef, undef, undef, undef],
      defers := [] }
    w4 := by
  dsimp only
  refine wp_region_held_drew (S := fun _ => True) (by kernel_rfl) trivial (fun hHeld => ?_)
  rw [hwd.out] at hL ⊢
  refine' wpAnyH_take (i := 0) (v := _) rfl (by kernel_rfl) (by kernel_rfl) (by kernel_rfl) (fun _ _ _ h => h) (Or.inl ⟨by kernel_rfl, ?hfb1⟩) (by assumption) ?rfb1
  case hfb1 => intro W hW; go_simp; all_goals with_reducible rfl
  change wpAnyH _ _ _ _ _ _ _ (Act.put _ (some 30) _) _
  simp only [Act.put, List.setIfInBounds_toArray, List.set_cons_zero, List.set_cons_succ]
  refine' wpAnyH_take (i := 2) (v := _) rfl (by kernel_rfl) (by kernel_rfl) (by kernel_rfl) (fun _ _ _ h => h) (Or.inl ⟨by kernel_rfl, ?hfb2⟩) (by assumption) ?rfb2
  case hfb2 => intro W hW; go_simp; all_goals with_reducible rfl
  change wpAnyH _ _ _ _ _ _ _ (Act.put _ (some 32) _) _
  simp only [Act.put, List.setIfInBounds_toArray, List.set_cons_zero, List.set_cons_succ]
  refine' wpAnyH_take (i := 5) (v := _) rfl (by kernel_rfl) (by kernel_rfl) (by kernel_rfl) (fun _ _ _ h => h) (Or.inl ⟨by kernel_rfl, ?hfb3⟩) (by assumption) ?rfb3
  case hfb3 => intro W hW; go_simp; all_goals with_reducible rfl
  change wpAnyH _ _ _ _ _ _ _ (Act.put _ (some 35) _) _
  simp only [Act.put, List.setIfInBounds_toArray, List.set_cons_zero, List.set_cons_succ]
  refine wpAnyH_ready (rs := [1, 3]) (by kernel_rfl) (by simp) ?_
  refine AllReadyH.cons rfl (fun KK hK => ?_) (AllReadyH.cons rfl (fun KK hK => ?_) AllReadyH.nil)
  ·
    have xl : wd.cell? ⟨X, 1, none⟩ = some (.slice ca D.cache.length cc) := hL.ms.x.cell 1
    go_simp
    clear xl
    refine hK.out _ _ trivial (fun hHeld => ?_)
    clear hK KK
    try simp only [Act.put, List.setIfInBounds_toArray, List.set_cons_zero, List.set_cons_succ]
    refine wpAnyH_ready (rs := [3]) (by kernel_rfl) (by simp) ?_
    refine AllReadyH.cons rfl (fun KK hK => ?_) AllReadyH.nil
    go_simp
    have hbA : Below wd.heap.size wd (wd.alloc (.cells #[.int .i64 (-1), .int .i64 0, .int .i64 48] 3)) := (Below.refl _ _).alloc (Nat.le_refl _) _
    have hI1 := IL.new wd [-1, 0, 48] #[.int .i64 (-1), .int .i64 0, .int .i64 48] rfl
    have hgI1 : wd.heap.size ≠ g := by have := hL.cn.lt; have := hL.cn.size; omega
    replace hL := hL.on hbA
    obtain ⟨AI1, hAI1⟩ := hidEx wd.heap.size
    rw [hAI1.out] at hI1 hgI1 ⊢
    clear hbA
    refine hK.out _ _ trivial (fun hHeld => ?_)
    clear hK KK
    try simp only [Act.put, List.setIfInBounds_toArray, List.set_cons_zero, List.set_cons_succ]
    obtain ⟨q1, hq1⟩ := hidEx (wd.alloc (.cells #[.int .i64 (-1), .int .i64 0, .int .i64 48] 3))
    rw [hq1.out] at hL hI1 ⊢
    refine wpAnyH_ready (rs := [4]) (by kernel_rfl) (by simp) ?_
    refine AllReadyH.cons rfl (fun KK hK => ?_) AllReadyH.nil
    go_simp
    refine (l1Int_il g ao n cap f [-1, 0, 48] AI1 q1 hn (by simp) (by simp) hI1 hgI1 hL.cn.cur).mono ?_
    rintro e v1 ⟨z1, rfl, -, hCc, hBc⟩
    replace hI1 := hI1.but hBc hgI1
    replace hL := hL.but hCc hBc
    clear hCc hBc
    go_wp2_with fail
    refine hK.out _ _ trivial (fun hHeld => ?_)
    clear hK KK
    try simp only [Act.put, List.setIfInBounds_toArray, List.set_cons_zero, List.set_cons_succ]
    refine wpAnyH_ready (rs := [6]) (by kernel_rfl) (by simp) ?_
    refine AllReadyH.cons rfl (fun KK hK => ?_) AllReadyH.nil
    go_simp
    refine (l1Some_any g ao n cap f _ hn hL.cn.cur).mono ?_
    rintro e v9 ⟨⟨b6, c6, m6, l6, hD6⟩, hCc, hBc⟩
    obtain rfl := hD6.ret
    obtain rfl := hD6.len
    have hob := ob_drawn (B := B) hD6.le hD6.byte hD6.row (by have := hL.b; have := hD6.new; omega)
    have hl6 : l6.length ≤ 1048576 := by have := hD6.few; omega
    replace hL := hL.but hCc hBc
    clear hCc hBc hD6
    go_wp2_with fail
    refine hK.out _ _ trivial (fun hHeld => ?_)
    clear hK KK
    try simp only [Act.put, List.setIfInBounds_toArray, List.set_cons_zero, List.set_cons_succ]
    refine' wpAnyH_take (i := 7) (v := _) rfl (by kernel_rfl) (by kernel_rfl) (by kernel_rfl) (fun _ _ _ h => h) (Or.inl ⟨by kernel_rfl, ?hfb4⟩) (by assumption) ?rfb4
    case hfb4 => intro W hW; go_simp; all_goals with_reducible rfl
    change wpAnyH _ _ _ _ _ _ _ (Act.put _ (some 37) _) _
    simp only [Act.put, List.setIfInBounds_toArray, List.set_cons_zero, List.set_cons_succ]
    refine wpAnyH_ready (rs := [8]) (by kernel_rfl) (by simp) ?_
    refine AllReadyH.cons rfl (fun KK hK => ?_) AllReadyH.nil
    go_simp
    have hbA : Below v9.heap.size v9 (v9.alloc (.cells #[.int .i64 z1, .slice (some ⟨b6, 0, none⟩) l6.length c6] 51)) := (Below.refl _ _).alloc (Nat.le_refl _) _
    have hcl := cells2New v9 (.int .i64 z1) (.slice (some ⟨b6, 0, none⟩) l6.length c6) 51
    replace hob := hob.up (Up.ofBelow hbA)
    replace hL := hL.on hbA
    obtain ⟨A9, hA9⟩ := hidEx v9.heap.size
    rw [hA9.out] at hcl ⊢
    clear hbA
    refine hK.out _ _ trivial (fun hHeld => ?_)
    clear hK KK
    try simp only [Act.put, List.setIfInBounds_toArray, List.set_cons_zero, List.set_cons_succ]
    obtain ⟨q2, hq2⟩ := hidEx (v9.alloc (.cells #[.int .i64 z1, .slice (some ⟨b6, 0, none⟩) l6.length c6] 51))
    rw [hq2.out] at hL hcl hob ⊢
    refine wpAnyH_ready (rs := [9]) (by kernel_rfl) (by simp) ?_
    refine AllReadyH.cons rfl (fun KK hK => ?_) AllReadyH.nil
    rw [if_pos (by kernel_rfl)]
    refine wp_append_own _ (.tmp 31) (.tmp 38) 29 rfl B 51 jw (.agg #[.int .i64 0, .slice none 0 0]) 2 32 Try.underlying29 hjw wz0 wz1 wz2 rfl (by decide) _ _ _ rfl hL.ms.own ⟨A9, 0, none⟩ 1 1 [.int .i64 z1, .slice (some ⟨b6, 0, none⟩) l6.length c6] rfl rfl hcl (by intro u hu; simp at hu; rcases hu with rfl | rfl <;> rfl) (by unfold maxLen; omega) (by omega) hL.b ?_
    intro v6 wa hOa hgra hnila
    have hKa := keep_grown hL.ms.own hgra
    obtain ⟨fb, fd, rfl⟩ := own_succK hOa
    obtain ⟨_, _, ee, hfd, -, -⟩ := own_rl hOa
    cases ee
    have hge : ∀ k, Value.ownBlock _ = some k → B ≤ k := fun k e => own_geK hL.ms.own k e
    have hXa := hL.ms.x.block (hKa _ _ _ _ hL.ms.x (by decide))
    clear hcl hnila
    refine hK.out _ _ trivial (fun hHeld => ?_)
    clear hK KK
    change wpAnyH _ _ _ _ _ _ _ (Act.put _ (some 39) _) _
    try simp only [Act.put, List.setIfInBounds_toArray, List.set_cons_zero, List.set_cons_succ]
    refine' wpAnyH_take (i := 10) (v := _) rfl (by kernel_rfl) (by kernel_rfl) (by kernel_rfl) (fun _ _ _ h => h) (Or.inl ⟨by kernel_rfl, ?hfb5⟩) (by assumption) ?rfb5
    case hfb5 => intro W hW; go_simp; all_goals with_reducible rfl
    change wpAnyH _ _ _ _ _ _ _ (Act.put _ (some 40) _) _
    simp only [Act.put, List.setIfInBounds_toArray, List.set_cons_zero, List.set_cons_succ]
    refine wpAnyH_ready (rs := [11]) (by kernel_rfl) (by simp) ?_
    refine AllReadyH.cons rfl (fun KK hK => ?_) AllReadyH.nil
    have xa := hXa.cell 1
    have za := hXa.fz 1
    simp only [List.getElem?_cons_zero, List.getElem?_cons_succ] at xa
    have hL9 := hL.push hgra hge hKa hob hl6 hfew hfd (fun e => by cases e) hOa
    clear hXa hL hge hKa hgra hOa
    go_simp
    clear xa za
    refine hK.out _ _ trivial (fun hHeld => ?_)
    clear hK KK
    try simp only [Act.put, List.setIfInBounds_toArray, List.set_cons_zero, List.set_cons_succ]
    refine wpAnyH_done (by kernel_rfl) ?_ _
    exact HR2.out _ _ _ _ _ _ _ _ _ _ _ _ _ _ _ _ _ hL9
  ·
    go_simp
    have hbA : Below wd.heap.size wd (wd.alloc (.cells #[.int .i64 (-1), .int .i64 0, .int .i64 48] 3)) := (Below.refl _ _).alloc (Nat.le_refl _) _
    have hI1 := IL.new wd [-1, 0, 48] #[.int .i64 (-1), .int .i64 0, .int .i64 48] rfl
    have hgI1 : wd.heap.size ≠ g := by have := hL.cn.lt; have := hL.cn.size; omega
    replace hL := hL.on hbA
    obtain ⟨AI1, hAI1⟩ := hidEx wd.heap.size
    rw [hAI1.out] at hI1 hgI1 ⊢
    clear hbA
    refine hK.out _ _ trivial (fun hHeld => ?_)
    clear hK KK
    try simp only [Act.put, List.setIfInBounds_toArray, List.set_cons_zero, List.set_cons_succ]
    obtain ⟨q1, hq1⟩ := hidEx (wd.alloc (.cells #[.int .i64 (-1), .int .i64 0, .int .i64 48] 3))
    rw [hq1.out] at hL hI1 ⊢
    refine wpAnyH_ready (rs := [1, 4]) (by kernel_rfl) (by simp) ?_
    refine AllReadyH.cons rfl (fun KK hK => ?_) (AllReadyH.cons rfl (fun KK hK => ?_) AllReadyH.nil)
    ·
      have xl : q1.cell? ⟨X, 1, none⟩ = some (.slice ca D.cache.length cc) := hL.ms.x.cell 1
      go_simp
      clear xl
      refine hK.out _ _ trivial (fun hHeld => ?_)
      clear hK KK
      try simp only [Act.put, List.setIfInBounds_toArray, List.set_cons_zero, List.set_cons_succ]
      refine wpAnyH_ready (rs := [4]) (by kernel_rfl) (by simp) ?_
      refine AllReadyH.cons rfl (fun KK hK => ?_) AllReadyH.nil
      go_simp
      refine (l1Int_il g ao n cap f [-1, 0, 48] AI1 q1 hn (by simp) (by simp) hI1 hgI1 hL.cn.cur).mono ?_
      rintro e v1 ⟨z1, rfl, -, hCc, hBc⟩
      replace hI1 := hI1.but hBc hgI1
      replace hL := hL.but hCc hBc
      clear hCc hBc
      go_wp2_with fail
      refine hK.out _ _ trivial (fun hHeld => ?_)
      clear hK KK
      try simp only [Act.put, List.setIfInBounds_toArray, List.set_cons_zero, List.set_cons_succ]
      refine wpAnyH_ready (rs := [6]) (by kernel_rfl) (by simp) ?_
      refine AllReadyH.cons rfl (fun KK hK => ?_) AllReadyH.nil
      go_simp
      refine (l1Some_any g ao n cap f _ hn hL.cn.cur).mono ?_
      rintro e v9 ⟨⟨b6, c6, m6, l6, hD6⟩, hCc, hBc⟩
      obtain rfl := hD6.ret
      obtain rfl := hD6.len
      have hob := ob_drawn (B := B) hD6.le hD6.byte hD6.row (by have := hL.b; have := hD6.new; omega)
      have hl6 : l6.length ≤ 1048576 := by have := hD6.few; omega
      replace hL := hL.but hCc hBc
      clear hCc hBc hD6
      go_wp2_with fail
      refine hK.out _ _ trivial (fun hHeld => ?_)
      clear hK KK
      try simp only [Act.put, List.setIfInBounds_toArray, List.set_cons_zero, List.set_cons_succ]
      refine' wpAnyH_take (i := 7) (v := _) rfl (by kernel_rfl) (by kernel_rfl) (by kernel_rfl) (fun _ _ _ h => h) (Or.inl ⟨by kernel_rfl, ?hfb6⟩) (by assumption) ?rfb6
      case hfb6 => intro W hW; go_simp; all_goals with_reducible rfl
      change wpAnyH _ _ _ _ _ _ _ (Act.put _ (some 37) _) _
      simp only [Act.put, List.setIfInBounds_toArray, List.set_cons_zero, List.set_cons_succ]
      refine wpAnyH_ready (rs := [8]) (by kernel_rfl) (by simp) ?_
      refine AllReadyH.cons rfl (fun KK hK => ?_) AllReadyH.nil
      go_simp
      have hbA : Below v9.heap.size v9 (v9.alloc (.cells #[.int .i64 z1, .slice (some ⟨b6, 0, none⟩) l6.length c6] 51)) := (Below.refl _ _).alloc (Nat.le_refl _) _
      have hcl := cells2New v9 (.int .i64 z1) (.slice (some ⟨b6, 0, none⟩) l6.length c6) 51
      replace hob := hob.up (Up.ofBelow hbA)
      replace hL := hL.on hbA
      obtain ⟨A9, hA9⟩ := hidEx v9.heap.size
      rw [hA9.out] at hcl ⊢
      clear hbA
      refine hK.out _ _ trivial (fun hHeld => ?_)
      clear hK KK
      try simp only [Act.put, List.setIfInBounds_toArray, List.set_cons_zero, List.set_cons_succ]
      obtain ⟨q2, hq2⟩ := hidEx (v9.alloc (.cells #[.int .i64 z1, .slice (some ⟨b6, 0, none⟩) l6.length c6] 51))
      rw [hq2.out] at hL hcl hob ⊢
      refine wpAnyH_ready (rs := [9]) (by kernel_rfl) (by simp) ?_
      refine AllReadyH.cons rfl (fun KK hK => ?_) AllReadyH.nil
      rw [if_pos (by kernel_rfl)]
      refine wp_append_own _ (.tmp 31) (.tmp 38) 29 rfl B 51 jw (.agg #[.int .i64 0, .slice none 0 0]) 2 32 Try.underlying29 hjw wz0 wz1 wz2 rfl (by decide) _ _ _ rfl hL.ms.own ⟨A9, 0, none⟩ 1 1 [.int .i64 z1, .slice (some ⟨b6, 0, none⟩) l6.length c6] rfl rfl hcl (by intro u hu; simp at hu; rcases hu with rfl | rfl <;> rfl) (by unfold maxLen; omega) (by omega) hL.b ?_
      intro v6 wa hOa hgra hnila
      have hKa := keep_grown hL.ms.own hgra
      obtain ⟨fb, fd, rfl⟩ := own_succK hOa
      obtain ⟨_, _, ee, hfd, -, -⟩ := own_rl hOa
      cases ee
      have hge : ∀ k, Value.ownBlock _ = some k → B ≤ k := fun k e => own_geK hL.ms.own k e
      have hXa := hL.ms.x.block (hKa _ _ _ _ hL.ms.x (by decide))
      clear hcl hnila
      refine hK.out _ _ trivial (fun hHeld => ?_)
      clear hK KK
      change wpAnyH _ _ _ _ _ _ _ (Act.put _ (some 39) _) _
      try simp only [Act.put, List.setIfInBounds_toArray, List.set_cons_zero, List.set_cons_succ]
      refine' wpAnyH_take (i := 10) (v := _) rfl (by kernel_rfl) (by kernel_rfl) (by kernel_rfl) (fun _ _ _ h => h) (Or.inl ⟨by kernel_rfl, ?hfb7⟩) (by assumption) ?rfb7
      case hfb7 => intro W hW; go_simp; all_goals with_reducible rfl
      change wpAnyH _ _ _ _ _ _ _ (Act.put _ (some 40) _) _
      simp only [Act.put, List.setIfInBounds_toArray, List.set_cons_zero, List.set_cons_succ]
      refine wpAnyH_ready (rs := [11]) (by kernel_rfl) (by simp) ?_
      refine AllReadyH.cons rfl (fun KK hK => ?_) AllReadyH.nil
      have xa := hXa.cell 1
      have za := hXa.fz 1
      simp only [List.getElem?_cons_zero, List.getElem?_cons_succ] at xa
      have hL9 := hL.push hgra hge hKa hob hl6 hfew hfd (fun e => by cases e) hOa
      clear hXa hL hge hKa hgra hOa
      go_simp
      clear xa za
      refine hK.out _ _ trivial (fun hHeld => ?_)
      clear hK KK
      try simp only [Act.put, List.setIfInBounds_toArray, List.set_cons_zero, List.set_cons_succ]
      refine wpAnyH_done (by kernel_rfl) ?_ _
      exact HR2.out _ _ _ _ _ _ _ _ _ _ _ _ _ _ _ _ _ hL9
    ·
      go_simp
      refine (l1Int_il g ao n cap f [-1, 0, 48] AI1 q1 hn (by simp) (by simp) hI1 hgI1 hL.cn.cur).mono ?_
      rintro e v1 ⟨z1, rfl, -, hCc, hBc⟩
      replace hI1 := hI1.but hBc hgI1
      replace hL := hL.but hCc hBc
      clear hCc hBc
      go_wp2_with fail
      refine hK.out _ _ trivial (fun hHeld => ?_)
      clear hK KK
      try simp only [Act.put, List.setIfInBounds_toArray, List.set_cons_zero, List.set_cons_succ]
      refine wpAnyH_ready (rs := [1, 6]) (by kernel_rfl) (by simp) ?_
      refine AllReadyH.cons rfl (fun KK hK => ?_) (AllReadyH.cons rfl (fun KK hK => ?_) AllReadyH.nil)
      ·
        have xl : v1.cell? ⟨X, 1, none⟩ = some (.slice ca D.cache.length cc) := hL.ms.x.cell 1
        go_simp
        clear xl
        refine hK.out _ _ trivial (fun hHeld => ?_)
        clear hK KK
        try simp only [Act.put, List.setIfInBounds_toArray, List.set_cons_zero, List.set_cons_succ]
        refine wpAnyH_ready (rs := [6]) (by kernel_rfl) (by simp) ?_
        refine AllReadyH.cons rfl (fun KK hK => ?_) AllReadyH.nil
        go_simp
        refine (l1Some_any g ao n cap f _ hn hL.cn.cur).mono ?_
        rintro e v9 ⟨⟨b6, c6, m6, l6, hD6⟩, hCc, hBc⟩
        obtain rfl := hD6.ret
        obtain rfl := hD6.len
        have hob := ob_drawn (B := B) hD6.le hD6.byte hD6.row (by have := hL.b; have := hD6.new; omega)
        have hl6 : l6.length ≤ 1048576 := by have := hD6.few; omega
        replace hL := hL.but hCc hBc
        clear hCc hBc hD6
        go_wp2_with fail
        refine hK.out _ _ trivial (fun hHeld => ?_)
        clear hK KK
        try simp only [Act.put, List.setIfInBounds_toArray, List.set_cons_zero, List.set_cons_succ]
        refine' wpAnyH_take (i := 7) (v := _) rfl (by kernel_rfl) (by kernel_rfl) (by kernel_rfl) (fun _ _ _ h => h) (Or.inl ⟨by kernel_rfl, ?hfb8⟩) (by assumption) ?rfb8
        case hfb8 => intro W hW; go_simp; all_goals with_reducible rfl
        change wpAnyH _ _ _ _ _ _ _ (Act.put _ (some 37) _) _
        simp only [Act.put, List.setIfInBounds_toArray, List.set_cons_zero, List.set_cons_succ]
        refine wpAnyH_ready (rs := [8]) (by kernel_rfl) (by simp) ?_
        refine AllReadyH.cons rfl (fun KK hK => ?_) AllReadyH.nil
        go_simp
        have hbA : Below v9.heap.size v9 (v9.alloc (.cells #[.int .i64 z1, .slice (some ⟨b6, 0, none⟩) l6.length c6] 51)) := (Below.refl _ _).alloc (Nat.le_refl _) _
        have hcl := cells2New v9 (.int .i64 z1) (.slice (some ⟨b6, 0, none⟩) l6.length c6) 51
        replace hob := hob.up (Up.ofBelow hbA)
        replace hL := hL.on hbA
        obtain ⟨A9, hA9⟩ := hidEx v9.heap.size
        rw [hA9.out] at hcl ⊢
        clear hbA
        refine hK.out _ _ trivial (fun hHeld => ?_)
        clear hK KK
        try simp only [Act.put, List.setIfInBounds_toArray, List.set_cons_zero, List.set_cons_succ]
        obtain ⟨q2, hq2⟩ := hidEx (v9.alloc (.cells #[.int .i64 z1, .slice (some ⟨b6, 0, none⟩) l6.length c6] 51))
        rw [hq2.out] at hL hcl hob ⊢
        refine wpAnyH_ready (rs := [9]) (by kernel_rfl) (by simp) ?_
        refine AllReadyH.cons rfl (fun KK hK => ?_) AllReadyH.nil
        rw [if_pos (by kernel_rfl)]
        refine wp_append_own _ (.tmp 31) (.tmp 38) 29 rfl B 51 jw (.agg #[.int .i64 0, .slice none 0 0]) 2 32 Try.underlying29 hjw wz0 wz1 wz2 rfl (by decide) _ _ _ rfl hL.ms.own ⟨A9, 0, none⟩ 1 1 [.int .i64 z1, .slice (some ⟨b6, 0, none⟩) l6.length c6] rfl rfl hcl (by intro u hu; simp at hu; rcases hu with rfl | rfl <;> rfl) (by unfold maxLen; omega) (by omega) hL.b ?_
        intro v6 wa hOa hgra hnila
        have hKa := keep_grown hL.ms.own hgra
        obtain ⟨fb, fd, rfl⟩ := own_succK hOa
        obtain ⟨_, _, ee, hfd, -, -⟩ := own_rl hOa
        cases ee
        have hge : ∀ k, Value.ownBlock _ = some k → B ≤ k := fun k e => own_geK hL.ms.own k e
        have hXa := hL.ms.x.block (hKa _ _ _ _ hL.ms.x (by decide))
        clear hcl hnila
        refine hK.out _ _ trivial (fun hHeld => ?_)
        clear hK KK
        change wpAnyH _ _ _ _ _ _ _ (Act.put _ (some 39) _) _
        try simp only [Act.put, List.setIfInBounds_toArray, List.set_cons_zero, List.set_cons_succ]
        refine' wpAnyH_take (i := 10) (v := _) rfl (by kernel_rfl) (by kernel_rfl) (by kernel_rfl) (fun _ _ _ h => h) (Or.inl ⟨by kernel_rfl, ?hfb9⟩) (by assumption) ?rfb9
        case hfb9 => intro W hW; go_simp; all_goals with_reducible rfl
        change wpAnyH _ _ _ _ _ _ _ (Act.put _ (some 40) _) _
        simp only [Act.put, List.setIfInBounds_toArray, List.set_cons_zero, List.set_cons_succ]
        refine wpAnyH_ready (rs := [11]) (by kernel_rfl) (by simp) ?_
        refine AllReadyH.cons rfl (fun KK hK => ?_) AllReadyH.nil
        have xa := hXa.cell 1
        have za := hXa.fz 1
        simp only [List.getElem?_cons_zero, List.getElem?_cons_succ] at xa
        have hL9 := hL.push hgra hge hKa hob hl6 hfew hfd (fun e => by cases e) hOa
        clear hXa hL hge hKa hgra hOa
        go_simp
        clear xa za
        refine hK.out _ _ trivial (fun hHeld => ?_)
        clear hK KK
        try simp only [Act.put, List.setIfInBounds_toArray, List.set_cons_zero, List.set_cons_succ]
        refine wpAnyH_done (by kernel_rfl) ?_ _
        exact HR2.out _ _ _ _ _ _ _ _ _ _ _ _ _ _ _ _ _ hL9
      ·
        go_simp
        refine (l1Some_any g ao n cap f _ hn hL.cn.cur).mono ?_
        rintro e v9 ⟨⟨b6, c6, m6, l6, hD6⟩, hCc, hBc⟩
        obtain rfl := hD6.ret
        obtain rfl := hD6.len
        have hob := ob_drawn (B := B) hD6.le hD6.byte hD6.row (by have := hL.b; have := hD6.new; omega)
        have hl6 : l6.length ≤ 1048576 := by have := hD6.few; omega
        replace hL := hL.but hCc hBc
        clear hCc hBc hD6
        go_wp2_with fail
        refine hK.out _ _ trivial (fun hHeld => ?_)
        clear hK KK
        try simp only [Act.put, List.setIfInBounds_toArray, List.set_cons_zero, List.set_cons_succ]
        refine' wpAnyH_take (i := 7) (v := _) rfl (by kernel_rfl) (by kernel_rfl) (by kernel_rfl) (fun _ _ _ h => h) (Or.inl ⟨by kernel_rfl, ?hfb10⟩) (by assumption) ?rfb10
        case hfb10 => intro W hW; go_simp; all_goals with_reducible rfl
        change wpAnyH _ _ _ _ _ _ _ (Act.put _ (some 37) _) _
        simp only [Act.put, List.setIfInBounds_toArray, List.set_cons_zero, List.set_cons_succ]
        refine wpAnyH_ready (rs := [1, 8]) (by kernel_rfl) (by simp) ?_
        refine AllReadyH.cons rfl (fun KK hK => ?_) (AllReadyH.cons rfl (fun KK hK => ?_) AllReadyH.nil)
        ·
          have xl : v9.cell? ⟨X, 1, none⟩ = some (.slice ca D.cache.length cc) := hL.ms.x.cell 1
          go_simp
          clear xl
          refine hK.out _ _ trivial (fun hHeld => ?_)
          clear hK KK
          try simp only [Act.put, List.setIfInBounds_toArray, List.set_cons_zero, List.set_cons_succ]
          refine wpAnyH_ready (rs := [8]) (by kernel_rfl) (by simp) ?_
          refine AllReadyH.cons rfl (fun KK hK => ?_) AllReadyH.nil
          go_simp
          have hbA : Below v9.heap.size v9 (v9.alloc (.cells #[.int .i64 z1, .slice (some ⟨b6, 0, none⟩) l6.length c6] 51)) := (Below.refl _ _).alloc (Nat.le_refl _) _
          have hcl := cells2New v9 (.int .i64 z1) (.slice (some ⟨b6, 0, none⟩) l6.length c6) 51
          replace hob := hob.up (Up.ofBelow hbA)
          replace hL := hL.on hbA
          obtain ⟨A9, hA9⟩ := hidEx v9.heap.size
          rw [hA9.out] at hcl ⊢
          clear hbA
          refine hK.out _ _ trivial (fun hHeld => ?_)
          clear hK KK
          try simp only [Act.put, List.setIfInBounds_toArray, List.set_cons_zero, List.set_cons_succ]
          obtain ⟨q2, hq2⟩ := hidEx (v9.alloc (.cells #[.int .i64 z1, .slice (some ⟨b6, 0, none⟩) l6.length c6] 51))
          rw [hq2.out] at hL hcl hob ⊢
          refine wpAnyH_ready (rs := [9]) (by kernel_rfl) (by simp) ?_
          refine AllReadyH.cons rfl (fun KK hK => ?_) AllReadyH.nil
          rw [if_pos (by kernel_rfl)]
          refine wp_append_own _ (.tmp 31) (.tmp 38) 29 rfl B 51 jw (.agg #[.int .i64 0, .slice none 0 0]) 2 32 Try.underlying29 hjw wz0 wz1 wz2 rfl (by decide) _ _ _ rfl hL.ms.own ⟨A9, 0, none⟩ 1 1 [.int .i64 z1, .slice (some ⟨b6, 0, none⟩) l6.length c6] rfl rfl hcl (by intro u hu; simp at hu; rcases hu with rfl | rfl <;> rfl) (by unfold maxLen; omega) (by omega) hL.b ?_
          intro v6 wa hOa hgra hnila
          have hKa := keep_grown hL.ms.own hgra
          obtain ⟨fb, fd, rfl⟩ := own_succK hOa
          obtain ⟨_, _, ee, hfd, -, -⟩ := own_rl hOa
          cases ee
          have hge : ∀ k, Value.ownBlock _ = some k → B ≤ k := fun k e => own_geK hL.ms.own k e
          have hXa := hL.ms.x.block (hKa _ _ _ _ hL.ms.x (by decide))
          clear hcl hnila
          refine hK.out _ _ trivial (fun hHeld => ?_)
          clear hK KK
          change wpAnyH _ _ _ _ _ _ _ (Act.put _ (some 39) _) _
          try simp only [Act.put, List.setIfInBounds_toArray, List.set_cons_zero, List.set_cons_succ]
          refine' wpAnyH_take (i := 10) (v := _) rfl (by kernel_rfl) (by kernel_rfl) (by kernel_rfl) (fun _ _ _ h => h) (Or.inl ⟨by kernel_rfl, ?hfb11⟩) (by assumption) ?rfb11
          case hfb11 => intro W hW; go_simp; all_goals with_reducible rfl
          change wpAnyH _ _ _ _ _ _ _ (Act.put _ (some 40) _) _
          simp only [Act.put, List.setIfInBounds_toArray, List.set_cons_zero, List.set_cons_succ]
          refine wpAnyH_ready (rs := [11]) (by kernel_rfl) (by simp) ?_
          refine AllReadyH.cons rfl (fun KK hK => ?_) AllReadyH.nil
          have xa := hXa.cell 1
          have za := hXa.fz 1
          simp only [List.getElem?_cons_zero, List.getElem?_cons_succ] at xa
          have hL9 := hL.push hgra hge hKa hob hl6 hfew hfd (fun e => by cases e) hOa
          clear hXa hL hge hKa hgra hOa
          go_simp
          clear xa za
          refine hK.out _ _ trivial (fun hHeld => ?_)
          clear hK KK
          try simp only [Act.put, List.setIfInBounds_toArray, List.set_cons_zero, List.set_cons_succ]
          refine wpAnyH_done (by kernel_rfl) ?_ _
          exact HR2.out _ _ _ _ _ _ _ _ _ _ _ _ _ _ _ _ _ hL9
        ·
          go_simp
          have hbA : Below v9.heap.size v9 (v9.alloc (.cells #[.int .i64 z1, .slice (some ⟨b6, 0, none⟩) l6.length c6] 51)) := (Below.refl _ _).alloc (Nat.le_refl _) _
          have hcl := cells2New v9 (.int .i64 z1) (.slice (some ⟨b6, 0, none⟩) l6.length c6) 51
          replace hob := hob.up (Up.ofBelow hbA)
          replace hL := hL.on hbA
          obtain ⟨A9, hA9⟩ := hidEx v9.heap.size
          rw [hA9.out] at hcl ⊢
          clear hbA
          refine hK.out _ _ trivial (fun hHeld => ?_)
          clear hK KK
          try simp only [Act.put, List.setIfInBounds_toArray, List.set_cons_zero, List.set_cons_succ]
          obtain ⟨q2, hq2⟩ := hidEx (v9.alloc (.cells #[.int .i64 z1, .slice (some ⟨b6, 0, none⟩) l6.length c6] 51))
          rw [hq2.out] at hL hcl hob ⊢
          refine wpAnyH_ready (rs := [1]) (by kernel_rfl) (by simp) ?_
          refine AllReadyH.cons rfl (fun KK hK => ?_) AllReadyH.nil
          have xl : q2.cell? ⟨X, 1, none⟩ = some (.slice ca D.cache.length cc) := hL.ms.x.cell 1
          go_simp
          clear xl
          refine hK.out _ _ trivial (fun hHeld => ?_)
          clear hK KK
          try simp only [Act.put, List.setIfInBounds_toArray, List.set_cons_zero, List.set_cons_succ]
          refine wpAnyH_ready (rs := [9]) (by kernel_rfl) (by simp) ?_
          refine AllReadyH.cons rfl (fun KK hK => ?_) AllReadyH.nil
          rw [if_pos (by kernel_rfl)]
          refine wp_append_own _ (.tmp 31) (.tmp 38) 29 rfl B 51 jw (.agg #[.int .i64 0, .slice none 0 0]) 2 32 Try.underlying29 hjw wz0 wz1 wz2 rfl (by decide) _ _ _ rfl hL.ms.own ⟨A9, 0, none⟩ 1 1 [.int .i64 z1, .slice (some ⟨b6, 0, none⟩) l6.length c6] rfl rfl hcl (by intro u hu; simp at hu; rcases hu with rfl | rfl <;> rfl) (by unfold maxLen; omega) (by omega) hL.b ?_
          intro v6 wa hOa hgra hnila
          have hKa := keep_grown hL.ms.own hgra
          obtain ⟨fb, fd, rfl⟩ := own_succK hOa
          obtain ⟨_, _, ee, hfd, -, -⟩ := own_rl hOa
          cases ee
          have hge : ∀ k, Value.ownBlock _ = some k → B ≤ k := fun k e => own_geK hL.ms.own k e
          have hXa := hL.ms.x.block (hKa _ _ _ _ hL.ms.x (by decide))
          clear hcl hnila
          refine hK.out _ _ trivial (fun hHeld => ?_)
          clear hK KK
          change wpAnyH _ _ _ _ _ _ _ (Act.put _ (some 39) _) _
          try simp only [Act.put, List.setIfInBounds_toArray, List.set_cons_zero, List.set_cons_succ]
          refine' wpAnyH_take (i := 10) (v := _) rfl (by kernel_rfl) (by kernel_rfl) (by kernel_rfl) (fun _ _ _ h => h) (Or.inl ⟨by kernel_rfl, ?hfb12⟩) (by assumption) ?rfb12
          case hfb12 => intro W hW; go_simp; all_goals with_reducible rfl
          change wpAnyH _ _ _ _ _ _ _ (Act.put _ (some 40) _) _
          simp only [Act.put, List.setIfInBounds_toArray, List.set_cons_zero, List.set_cons_succ]
          refine wpAnyH_ready (rs := [11]) (by kernel_rfl) (by simp) ?_
          refine AllReadyH.cons rfl (fun KK hK => ?_) AllReadyH.nil
          have xa := hXa.cell 1
          have za := hXa.fz 1
          simp only [List.getElem?_cons_zero, List.getElem?_cons_succ] at xa
          have hL9 := hL.push hgra hge hKa hob hl6 hfew hfd (fun e => by cases e) hOa
          clear hXa hL hge hKa hgra hOa
          go_simp
          clear xa za
          refine hK.out _ _ trivial (fun hHeld => ?_)
          clear hK KK
          try simp only [Act.put, List.setIfInBounds_toArray, List.set_cons_zero, List.set_cons_succ]
          refine wpAnyH_done (by kernel_rfl) ?_ _
          exact HR2.out _ _ _ _ _ _ _ _ _ _ _ _ _ _ _ _ _ hL9
end Go.Proofs.Ytdhfbblameiloaa

