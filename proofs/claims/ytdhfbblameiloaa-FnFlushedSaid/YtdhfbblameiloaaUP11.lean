/-
  DrawAnyB
-/
import Derived.Test.YtdhfbblameiloaaUP10
import Derived.Deep.RegionHeld3
import Derived.Deep.LoopGhost
/-
  The draw of a disk that is bent or not: a case of it.
-/
namespace Go.Proofs.Ytdhfbblameiloaa
open Go.RowKit
set_option maxRecDepth 4000

set_option maxHeartbeats 16000000 in
theorem l12Any_b {g : Nat} {ao : Option Addr} {n cap : Nat} {f : Nat → Int} {w : World} (hn : n ≤ 1048576) {jf : TypeInfo} (hjf : Try.prog.info? 79 = some jf) (fz0 : jf.zero = some (.agg #[.int .i64 0, .int .i64 0, .int .i64 0])) (fz1 : jf.size = 3) (fz2 : jf.bytes = 24) {jw : TypeInfo} (_hjw : Try.prog.info? 51 = some jw) (_wz0 : jw.zero = some (.agg #[.int .i64 0, .slice none 0 0])) (_wz1 : jw.size = 2) (_wz2 : jw.bytes = 32) {D : PDisk} {B gs sc : Nat} {ca : Option Addr} {cc : Nat} {fa : Option Addr} {fc : Nat} {ss cs : List Value} (_hc12 : D.cache.length ≤ 12) (_hf3 : D.faults.length ≤ 20) {X : Nat} {K1 : Act → World → Prop} {w4 : World} (_hXg : X ≠ g) (hfew : D.faults.length ≤ 1000) (HR2 : Hid (∀ (fa : Option Addr) (fc : Nat) (D2 : PDisk) (e5 : Value) (t16 t17 t18 t19 t20 t21 t22 t23 t24 t25 t26 t27 : Value) (W : World), AL w g ao n cap f B X gs sc fa fc D2 ca cc ss cs W → K1 { tmps := #[.pointer (some ⟨g, 0, none⟩), undef, .pointer (some ⟨w.heap.size, 0, none⟩), .pointer (some ⟨X, 0, none⟩), .pointer (some ⟨g, 0, none⟩), e5, .pointer (some ⟨g, 0, none⟩), .int .i64 1, .bool false, .bool false, undef, undef, undef, undef, .bool true, .bool true, t16, t17, t18, t19, t20, t21, t22, t23, t24, t25, t26, t27, undef, undef, undef, undef, undef, undef, undef, undef, undef, undef, undef, undef, undef, undef, undef, undef, undef, undef, undef, undef, undef, undef, undef, undef, undef, undef, undef, undef, undef, undef, undef, undef, undef, undef, undef, undef, undef, undef, undef, undef, undef, undef, undef, undef, undef], defers := [] } W)) (hL : AL w g ao n cap f B X gs sc fa fc D ca cc ss cs w4.drew) (wd : World) (hwd : Hid (w4.drew = wd)) :
    Code.wp Try.prog
    (Code.region 6
      #[{ dst := some 16, op := Op.fieldAddr 32 (Operand.tmp 3) 3, type := 0, pos := "l12_disk.go:196", after := #[],
          guard := none },
        { dst := some 17, op := Op.load 30 (Operand.tmp 16), type := 30, pos := "l12_disk.go:196",
          after := #[{ on := 0, ground := Ground.data }], guard := none },
        { dst := some 18, op := Op.move (Operand.tmp 0), type := 89, pos := "l12_disk.go:196", after := #[],
          guard := none },
        { dst := some 19,
          op :=
            Op.buildSlice 108 3
              #[(0, Operand.const (Value.int IntKind.i64 0)), (1, Operand.const (Value.int IntKind.i64 100001)),
                (2, Operand.const (Value.int IntKind.i64 50))],
          type := 108, pos := "l12_disk.go:196", after := #[], guard := none },
        { dst := some 20,
          op :=
            Op.call
              { callee := Callee.value (Operand.func 93), args := #[Operand.tmp 18, Operand.tmp 19],
                argTypes := #[89, 108] },
          type := 3, pos := "l12_disk.go:196",
          after := #[{ on := 2, ground := Ground.data }, { on := 3, ground := Ground.data }], guard := none },
        { dst := some 21, op := Op.move (Operand.tmp 0), type := 89, pos := "l12_disk.go:196", after := #[],
          guard := none },
        { dst := some 22,
          op :=
            Op.buildSlice 108 3
              #[(0, Operand.const (Value.int IntKind.i64 (-1))), (1, Operand.const (Value.int IntKind.i64 1048576)),
                (2, Operand.const (Value.int IntKind.i64 0))],
          type := 108, pos := "l12_disk.go:196", after := #[], guard := none },
        { dst := some 23,
          op :=
            Op.call
              { callee := Callee.value (Operand.func 93), args := #[Operand.tmp 21, Operand.tmp 22],
                argTypes := #[89, 108] },
          type := 3, pos := "l12_disk.go:196",
          after :=
            #[{ on := 5, ground := Ground.data }, { on := 6, ground := Ground.data },
              { on := 4, ground := Ground.chain }],
          guard := none },
        { dst := some 24, op := Op.build 79 #[(0, Operand.tmp 20), (1, Operand.tmp 23)], type := 79,
          pos := "l12_disk.go:196", after := #[{ on := 4, ground := Ground.data }, { on := 7, ground := Ground.data }],
          guard := none },
        { dst := some 25, op := Op.buildSlice 30 1 #[(0, Operand.tmp 24)], type := 30, pos := "l12_disk.go:196",
          after := #[{ on := 8, ground := Ground.data }], guard := none },
        { dst := some 26,
          op :=
            Op.call
              { callee := Callee.builtin Builtin.append, args := #[Operand.tmp 17, Operand.tmp 25],
                argTypes := #[30, 30] },
          type := 30, pos := "l12_disk.go:196",
          after :=
            #[{ on := 1, ground := Ground.data }, { on := 9, ground := Ground.data },
              { on := 7, ground := Ground.chain }],
          guard := none },
        { dst := some 27, op := Op.fieldAddr 32 (Operand.tmp 3) 3, type := 0, pos := "l12_disk.go:196",
          after :=
            #[{ on := 0, ground := Ground.phase }, { on := 1, ground := Ground.phase },
              { on := 2, ground := Ground.phase }, { on := 3, ground := Ground.phase },
              { on := 4, ground := Ground.phase }, { on := 5, ground := Ground.phase },
              { on := 6, ground := Ground.phase }, { on := 7, ground := Ground.phase },
              { on := 8, ground := Ground.phase }, { on := 9, ground := Ground.phase },
              { on := 10, ground := Ground.phase }],
          guard := none },
        { dst := none, op := Op.store 30 (Operand.tmp 27) (Operand.tmp 26), type := 0, pos := "l12_disk.go:196",
          after :=
            #[{ on := 11, ground := Ground.data }, { on := 10, ground := Ground.data },
              { on := 10, ground := Ground.chain }, { on := 0, ground := Ground.phase },
              { on := 1, ground := Ground.phase }, { on := 2, ground := Ground.phase },
              { on := 3, ground := Ground.phase }, { on := 4, ground := Ground.phase },
              { on := 5, ground := Ground.phase }, { on := 6, ground := Ground.phase },
              { on := 7, ground := Ground.phase }, { on := 8, ground := Ground.phase },
              { on := 9, ground := Ground.phase }, { on := 10, ground := Ground.phase }],
          guard := none }]
      true)
    (Exit.inBlock 0 (Exit.then K1 (bodyPost Try.prog Try.f81 (AD w g ao n cap f))))
    {
      tmps :=
        #[Value.pointer (some { block := g, off := 0 }), undef, Value.pointer (some { block := w.heap.size, off := 0 }),
          Value.pointer (some { block := X, off := 0 }), Value.pointer (some { block := g, off := 0 }),
          Value.agg
            #[Value.slice (some { block := gs, off := 0 }) D.secs.length sc, Value.slice ca D.cache.length cc,
              Value.int IntKind.i64 D.ops, Value.slice fa D.faults.length fc, Value.bool D.down],
          Value.pointer (some { block := g, off := 0 }), Value.int IntKind.i64 1, Value.bool false, Value.bool false,
          undef, undef, undef, undef, Value.bool true, Value.bool true, undef, undef, undef, undef, undef, undef, undef,
          undef, undef, undef, undef, undef, undef, undef, undef, undef, undef, undef, undef, undef, undef, undef,
          undef, undef, undef, undef, undef, undef, undef, undef, undef, undef, undef, undef, undef, undef, undef,
          undef, undef, undef, undef, undef, undef, undef, undef, undef, undef, undef, undef, undef, undef, undef,
          undef, undef, undef, undef, undef],
      defers := [] }
    w4 := by
  dsimp only
  refine wp_region_held_drew (S := fun _ => True) (by kernel_rfl) trivial (fun hHeld => ?_)
  rw [hwd.out] at hL ⊢
  refine' wpAnyH_take (i := 0) (v := _) rfl (by kernel_rfl) (by kernel_rfl) (by kernel_rfl) (fun _ _ _ h => h) (Or.inl ⟨by kernel_rfl, ?hfa1⟩) (by assumption) ?rfa1
  case hfa1 => intro W hW; go_simp; all_goals with_reducible rfl
  change wpAnyH _ _ _ _ _ _ _ (Act.put _ (some 16) _) _
  simp only [Act.put, List.setIfInBounds_toArray, List.set_cons_zero, List.set_cons_succ]
  refine' wpAnyH_take (i := 2) (v := _) rfl (by kernel_rfl) (by kernel_rfl) (by kernel_rfl) (fun _ _ _ h => h) (Or.inl ⟨by kernel_rfl, ?hfa2⟩) (by assumption) ?rfa2
  case hfa2 => intro W hW; go_simp; all_goals with_reducible rfl
  change wpAnyH _ _ _ _ _ _ _ (Act.put _ (some 18) _) _
  simp only [Act.put, List.setIfInBounds_toArray, List.set_cons_zero, List.set_cons_succ]
  refine' wpAnyH_take (i := 5) (v := _) rfl (by kernel_rfl) (by kernel_rfl) (by kernel_rfl) (fun _ _ _ h => h) (Or.inl ⟨by kernel_rfl, ?hfa3⟩) (by assumption) ?rfa3
  case hfa3 => intro W hW; go_simp; all_goals with_reducible rfl
  change wpAnyH _ _ _ _ _ _ _ (Act.put _ (some 21) _) _
  simp only [Act.put, List.setIfInBounds_toArray, List.set_cons_zero, List.set_cons_succ]
  refine wpAnyH_ready (rs := [1, 3, 6]) (by kernel_rfl) (by simp) ?_
  refine AllReadyH.cons rfl (fun KK hK => ?_) (AllReadyH.cons rfl (fun KK hK => ?_) (AllReadyH.cons rfl (fun KK hK => ?_) AllReadyH.nil))
  ·
    have xl : wd.cell? ⟨X, 3, none⟩ = some (.slice fa D.faults.length fc) := hL.ms.x.cell 3
    go_simp
    clear xl
    refine hK.out _ _ trivial (fun hHeld => ?_)
    clear hK KK
    try simp only [Act.put, List.setIfInBounds_toArray, List.set_cons_zero, List.set_cons_succ]
    refine wpAnyH_ready (rs := [3, 6]) (by kernel_rfl) (by simp) ?_
    refine AllReadyH.cons rfl (fun KK hK => ?_) (AllReadyH.cons rfl (fun KK hK => ?_) AllReadyH.nil)
    ·
      go_simp
      have hbA : Below wd.heap.size wd (wd.alloc (.cells #[.int .i64 0, .int .i64 100001, .int .i64 50] 3)) := (Below.refl _ _).alloc (Nat.le_refl _) _
      have hI1 := IL.new wd [0, 100001, 50] #[.int .i64 0, .int .i64 100001, .int .i64 50] rfl
      have hgI1 : wd.heap.size ≠ g := by have := hL.cn.lt; have := hL.cn.size; omega
      replace hL := hL.on hbA
      obtain ⟨AI1, hAI1⟩ := hidEx wd.heap.size
      rw [hAI1.out] at hI1 hgI1 ⊢
      clear hbA
      refine hK.out _ _ trivial (fun hHeld => ?_)
      clear hK KK
      try simp only [Act.put, List.setIfInBounds_toArray, List.set_cons_zero, List.set_cons_succ]
      obtain ⟨q1, hq1⟩ := hidEx (wd.alloc (.cells #[.int .i64 0, .int .i64 100001, .int .i64 50] 3))
      rw [hq1.out] at hL hI1 ⊢
      refine wpAnyH_ready (rs := [4, 6]) (by kernel_rfl) (by simp) ?_
      refine AllReadyH.cons rfl (fun KK hK => ?_) (AllReadyH.cons rfl (fun KK hK => ?_) AllReadyH.nil)
      ·
        go_simp
        refine (l1Int_il g ao n cap f [0, 100001, 50] AI1 q1 hn (by simp) (by simp) hI1 hgI1 hL.cn.cur).mono ?_
        rintro e v1 ⟨z1, rfl, -, hCc, hBc⟩
        replace hI1 := hI1.but hBc hgI1
        replace hL := hL.but hCc hBc
        clear hCc hBc
        go_wp2_with fail
        refine hK.out _ _ trivial (fun hHeld => ?_)
        clear hK KK
        try simp only [Act.put, List.setIfInBounds_toArray, List.set_cons_zero, List.set_cons_succ]
        refine wpAnyH_ready (rs := [6]) (by kernel_rfl) (by simp) ?_
        refine AllReadyH.cons rfl (fun KK hK => ?_) AllReadyH.nil
        go_simp
        have hbA : Below v1.heap.size v1 (v1.alloc (.cells #[.int .i64 (-1), .int .i64 1048576, .int .i64 0] 3)) := (Below.refl _ _).alloc (Nat.le_refl _) _
        have hI2 := IL.new v1 [-1, 1048576, 0] #[.int .i64 (-1), .int .i64 1048576, .int .i64 0] rfl
        have hgI2 : v1.heap.size ≠ g := by have := hL.cn.lt; have := hL.cn.size; omega
        replace hI1 := hI1.below hbA
        replace hL := hL.on hbA
        obtain ⟨AI2, hAI2⟩ := hidEx v1.heap.size
        rw [hAI2.out] at hI2 hgI2 ⊢
        clear hbA
        refine hK.out _ _ trivial (fun hHeld => ?_)
        clear hK KK
        try simp only [Act.put, List.setIfInBounds_toArray, List.set_cons_zero, List.set_cons_succ]
        obtain ⟨q2, hq2⟩ := hidEx (v1.alloc (.cells #[.int .i64 (-1), .int .i64 1048576, .int .i64 0] 3))
        rw [hq2.out] at hL hI1 hI2 ⊢
        refine wpAnyH_ready (rs := [7]) (by kernel_rfl) (by simp) ?_
        refine AllReadyH.cons rfl (fun KK hK => ?_) AllReadyH.nil
        go_simp
        refine (l1Int_il g ao n cap f [-1, 1048576, 0] AI2 q2 hn (by simp) (by simp) hI2 hgI2 hL.cn.cur).mono ?_
        rintro e v2 ⟨z2, rfl, -, hCc, hBc⟩
        replace hI1 := hI1.but hBc hgI1
        replace hI2 := hI2.but hBc hgI2
        replace hL := hL.but hCc hBc
        clear hCc hBc
        go_wp2_with fail
        refine hK.out _ _ trivial (fun hHeld => ?_)
        clear hK KK
        try simp only [Act.put, List.setIfInBounds_toArray, List.set_cons_zero, List.set_cons_succ]
        refine' wpAnyH_take (i := 8) (v := _) rfl (by kernel_rfl) (by kernel_rfl) (by kernel_rfl) (fun _ _ _ h => h) (Or.inl ⟨by kernel_rfl, ?hfa4⟩) (by assumption) ?rfa4
        case hfa4 => intro W hW; go_simp; all_goals with_reducible rfl
        change wpAnyH _ _ _ _ _ _ _ (Act.put _ (some 24) _) _
        simp only [Act.put, List.setIfInBounds_toArray, List.set_cons_zero, List.set_cons_succ]
        refine wpAnyH_ready (rs := [9]) (by kernel_rfl) (by simp) ?_
        refine AllReadyH.cons rfl (fun KK hK => ?_) AllReadyH.nil
        go_simp
        have hbA : Below v2.heap.size v2 (v2.alloc (.cells #[.int .i64 z1, .int .i64 z2, .int .i64 0] 79)) := (Below.refl _ _).alloc (Nat.le_refl _) _
        have hcl := cells3New v2 z1 z2 0 79
        replace hL := hL.on hbA
        obtain ⟨A9, hA9⟩ := hidEx v2.heap.size
        rw [hA9.out] at hcl ⊢
        clear hbA
        refine hK.out _ _ trivial (fun hHeld => ?_)
        clear hK KK
        try simp only [Act.put, List.setIfInBounds_toArray, List.set_cons_zero, List.set_cons_succ]
        obtain ⟨q3, hq3⟩ := hidEx (v2.alloc (.cells #[.int .i64 z1, .int .i64 z2, .int .i64 0] 79))
        rw [hq3.out] at hL hcl ⊢
        refine wpAnyH_ready (rs := [10]) (by kernel_rfl) (by simp) ?_
        refine AllReadyH.cons rfl (fun KK hK => ?_) AllReadyH.nil
        rw [if_pos (by kernel_rfl)]
        refine wp_append_own _ (.tmp 17) (.tmp 25) 30 rfl B 79 jf (.agg #[.int .i64 0, .int .i64 0, .int .i64 0]) 3 24 Try.underlying30 hjf fz0 fz1 fz2 rfl (by decide) _ _ _ rfl hL.ms.fown ⟨A9, 0, none⟩ 1 1 [.int .i64 z1, .int .i64 z2, .int .i64 0] rfl rfl hcl (by intro u hu; simp at hu; rcases hu with rfl | rfl | rfl <;> rfl) (by unfold maxLen; omega) (by omega) hL.b ?_
        intro v6 wa hOa hgra hnila
        have hKa := keep_grown hL.ms.fown hgra
        obtain ⟨fb, fd, rfl⟩ := own_succK hOa
        obtain ⟨_, _, ee, hfd, -, -⟩ := own_rl hOa
        cases ee
        have hge : ∀ k, Value.ownBlock _ = some k → B ≤ k := fun k e => own_geK hL.ms.fown k e
        have hXa := hL.ms.x.block (hKa _ _ _ _ hL.ms.x (by decide))
        clear hcl hnila
        refine hK.out _ _ trivial (fun hHeld => ?_)
        clear hK KK
        change wpAnyH _ _ _ _ _ _ _ (Act.put _ (some 26) _) _
        try simp only [Act.put, List.setIfInBounds_toArray, List.set_cons_zero, List.set_cons_succ]
        refine' wpAnyH_take (i := 11) (v := _) rfl (by kernel_rfl) (by kernel_rfl) (by kernel_rfl) (fun _ _ _ h => h) (Or.inl ⟨by kernel_rfl, ?hfa5⟩) (by assumption) ?rfa5
        case hfa5 => intro W hW; go_simp; all_goals with_reducible rfl
        change wpAnyH _ _ _ _ _ _ _ (Act.put _ (some 27) _) _
        simp only [Act.put, List.setIfInBounds_toArray, List.set_cons_zero, List.set_cons_succ]
        refine wpAnyH_ready (rs := [12]) (by kernel_rfl) (by simp) ?_
        refine AllReadyH.cons rfl (fun KK hK => ?_) AllReadyH.nil
        have xa := hXa.cell 3
        have za := hXa.fz 3
        simp only [List.getElem?_cons_zero, List.getElem?_cons_succ] at xa
        have hL9 := hL.pushF hgra hge hKa ⟨z1, z2, 0⟩ hfew hfd (fun e => by cases e) hOa
        clear hXa hL hge hKa hgra hOa
        go_simp
        clear xa za
        refine hK.out _ _ trivial (fun hHeld => ?_)
        clear hK KK
        try simp only [Act.put, List.setIfInBounds_toArray, List.set_cons_zero, List.set_cons_succ]
        refine wpAnyH_done (by kernel_rfl) ?_ _
        exact HR2.out _ _ _ _ _ _ _ _ _ _ _ _ _ _ _ _ _ hL9
      ·
        go_simp
        have hbA : Below q1.heap.size q1 (q1.alloc (.cells #[.int .i64 (-1), .int .i64 1048576, .int .i64 0] 3)) := (Below.refl _ _).alloc (Nat.le_refl _) _
        have hI2 := IL.new q1 [-1, 1048576, 0] #[.int .i64 (-1), .int .i64 1048576, .int .i64 0] rfl
        have hgI2 : q1.heap.size ≠ g := by have := hL.cn.lt; have := hL.cn.size; omega
        replace hI1 := hI1.below hbA
        replace hL := hL.on hbA
        obtain ⟨AI2, hAI2⟩ := hidEx q1.heap.size
        rw [hAI2.out] at hI2 hgI2 ⊢
        clear hbA
        refine hK.out _ _ trivial (fun hHeld => ?_)
        clear hK KK
        try simp only [Act.put, List.setIfInBounds_toArray, List.set_cons_zero, List.set_cons_succ]
        obtain ⟨q2, hq2⟩ := hidEx (q1.alloc (.cells #[.int .i64 (-1), .int .i64 1048576, .int .i64 0] 3))
        rw [hq2.out] at hL hI1 hI2 ⊢
        refine wpAnyH_ready (rs := [4]) (by kernel_rfl) (by simp) ?_
        refine AllReadyH.cons rfl (fun KK hK => ?_) AllReadyH.nil
        go_simp
        refine (l1Int_il g ao n cap f [0, 100001, 50] AI1 q2 hn (by simp) (by simp) hI1 hgI1 hL.cn.cur).mono ?_
        rintro e v1 ⟨z1, rfl, -, hCc, hBc⟩
        replace hI1 := hI1.but hBc hgI1
        replace hI2 := hI2.but hBc hgI2
        replace hL := hL.but hCc hBc
        clear hCc hBc
        go_wp2_with fail
        refine hK.out _ _ trivial (fun hHeld => ?_)
        clear hK KK
        try simp only [Act.put, List.setIfInBounds_toArray, List.set_cons_zero, List.set_cons_succ]
        refine wpAnyH_ready (rs := [7]) (by kernel_rfl) (by simp) ?_
        refine AllReadyH.cons rfl (fun KK hK => ?_) AllReadyH.nil
        go_simp
        refine (l1Int_il g ao n cap f [-1, 1048576, 0] AI2 v1 hn (by simp) (by simp) hI2 hgI2 hL.cn.cur).mono ?_
        rintro e v2 ⟨z2, rfl, -, hCc, hBc⟩
        replace hI1 := hI1.but hBc hgI1
        replace hI2 := hI2.but hBc hgI2
        replace hL := hL.but hCc hBc
        clear hCc hBc
        go_wp2_with fail
        refine hK.out _ _ trivial (fun hHeld => ?_)
        clear hK KK
        try simp only [Act.put, List.setIfInBounds_toArray, List.set_cons_zero, List.set_cons_succ]
        refine' wpAnyH_take (i := 8) (v := _) rfl (by kernel_rfl) (by kernel_rfl) (by kernel_rfl) (fun _ _ _ h => h) (Or.inl ⟨by kernel_rfl, ?hfa6⟩) (by assumption) ?rfa6
        case hfa6 => intro W hW; go_simp; all_goals with_reducible rfl
        change wpAnyH _ _ _ _ _ _ _ (Act.put _ (some 24) _) _
        simp only [Act.put, List.setIfInBounds_toArray, List.set_cons_zero, List.set_cons_succ]
        refine wpAnyH_ready (rs := [9]) (by kernel_rfl) (by simp) ?_
        refine AllReadyH.cons rfl (fun KK hK => ?_) AllReadyH.nil
        go_simp
        have hbA : Below v2.heap.size v2 (v2.alloc (.cells #[.int .i64 z1, .int .i64 z2, .int .i64 0] 79)) := (Below.refl _ _).alloc (Nat.le_refl _) _
        have hcl := cells3New v2 z1 z2 0 79
        replace hL := hL.on hbA
        obtain ⟨A9, hA9⟩ := hidEx v2.heap.size
        rw [hA9.out] at hcl ⊢
        clear hbA
        refine hK.out _ _ trivial (fun hHeld => ?_)
        clear hK KK
        try simp only [Act.put, List.setIfInBounds_toArray, List.set_cons_zero, List.set_cons_succ]
        obtain ⟨q3, hq3⟩ := hidEx (v2.alloc (.cells #[.int .i64 z1, .int .i64 z2, .int .i64 0] 79))
        rw [hq3.out] at hL hcl ⊢
        refine wpAnyH_ready (rs := [10]) (by kernel_rfl) (by simp) ?_
        refine AllReadyH.cons rfl (fun KK hK => ?_) AllReadyH.nil
        rw [if_pos (by kernel_rfl)]
        refine wp_append_own _ (.tmp 17) (.tmp 25) 30 rfl B 79 jf (.agg #[.int .i64 0, .int .i64 0, .int .i64 0]) 3 24 Try.underlying30 hjf fz0 fz1 fz2 rfl (by decide) _ _ _ rfl hL.ms.fown ⟨A9, 0, none⟩ 1 1 [.int .i64 z1, .int .i64 z2, .int .i64 0] rfl rfl hcl (by intro u hu; simp at hu; rcases hu with rfl | rfl | rfl <;> rfl) (by unfold maxLen; omega) (by omega) hL.b ?_
        intro v6 wa hOa hgra hnila
        have hKa := keep_grown hL.ms.fown hgra
        obtain ⟨fb, fd, rfl⟩ := own_succK hOa
        obtain ⟨_, _, ee, hfd, -, -⟩ := own_rl hOa
        cases ee
        have hge : ∀ k, Value.ownBlock _ = some k → B ≤ k := fun k e => own_geK hL.ms.fown k e
        have hXa := hL.ms.x.block (hKa _ _ _ _ hL.ms.x (by decide))
        clear hcl hnila
        refine hK.out _ _ trivial (fun hHeld => ?_)
        clear hK KK
        change wpAnyH _ _ _ _ _ _ _ (Act.put _ (some 26) _) _
        try simp only [Act.put, List.setIfInBounds_toArray, List.set_cons_zero, List.set_cons_succ]
        refine' wpAnyH_take (i := 11) (v := _) rfl (by kernel_rfl) (by kernel_rfl) (by kernel_rfl) (fun _ _ _ h => h) (Or.inl ⟨by kernel_rfl, ?hfa7⟩) (by assumption) ?rfa7
        case hfa7 => intro W hW; go_simp; all_goals with_reducible rfl
        change wpAnyH _ _ _ _ _ _ _ (Act.put _ (some 27) _) _
        simp only [Act.put, List.setIfInBounds_toArray, List.set_cons_zero, List.set_cons_succ]
        refine wpAnyH_ready (rs := [12]) (by kernel_rfl) (by simp) ?_
        refine AllReadyH.cons rfl (fun KK hK => ?_) AllReadyH.nil
        have xa := hXa.cell 3
        have za := hXa.fz 3
        simp only [List.getElem?_cons_zero, List.getElem?_cons_succ] at xa
        have hL9 := hL.pushF hgra hge hKa ⟨z1, z2, 0⟩ hfew hfd (fun e => by cases e) hOa
        clear hXa hL hge hKa hgra hOa
        go_simp
        clear xa za
        refine hK.out _ _ trivial (fun hHeld => ?_)
        clear hK KK
        try simp only [Act.put, List.setIfInBounds_toArray, List.set_cons_zero, List.set_cons_succ]
        refine wpAnyH_done (by kernel_rfl) ?_ _
        exact HR2.out _ _ _ _ _ _ _ _ _ _ _ _ _ _ _ _ _ hL9
    ·
      go_simp
      have hbA : Below wd.heap.size wd (wd.alloc (.cells #[.int .i64 (-1), .int .i64 1048576, .int .i64 0] 3)) := (Below.refl _ _).alloc (Nat.le_refl _) _
      have hI2 := IL.new wd [-1, 1048576, 0] #[.int .i64 (-1), .int .i64 1048576, .int .i64 0] rfl
      have hgI2 : wd.heap.size ≠ g := by have := hL.cn.lt; have := hL.cn.size; omega
      replace hL := hL.on hbA
      obtain ⟨AI2, hAI2⟩ := hidEx wd.heap.size
      rw [hAI2.out] at hI2 hgI2 ⊢
      clear hbA
      refine hK.out _ _ trivial (fun hHeld => ?_)
      clear hK KK
      try simp only [Act.put, List.setIfInBounds_toArray, List.set_cons_zero, List.set_cons_succ]
      obtain ⟨q1, hq1⟩ := hidEx (wd.alloc (.cells #[.int .i64 (-1), .int .i64 1048576, .int .i64 0] 3))
      rw [hq1.out] at hL hI2 ⊢
      refine wpAnyH_ready (rs := [3]) (by kernel_rfl) (by simp) ?_
      refine AllReadyH.cons rfl (fun KK hK => ?_) AllReadyH.nil
      go_simp
      have hbA : Below q1.heap.size q1 (q1.alloc (.cells #[.int .i64 0, .int .i64 100001, .int .i64 50] 3)) := (Below.refl _ _).alloc (Nat.le_refl _) _
      have hI1 := IL.new q1 [0, 100001, 50] #[.int .i64 0, .int .i64 100001, .int .i64 50] rfl
      have hgI1 : q1.heap.size ≠ g := by have := hL.cn.lt; have := hL.cn.size; omega
      replace hI2 := hI2.below hbA
      replace hL := hL.on hbA
      obtain ⟨AI1, hAI1⟩ := hidEx q1.heap.size
      rw [hAI1.out] at hI1 hgI1 ⊢
      clear hbA
      refine hK.out _ _ trivial (fun hHeld => ?_)
      clear hK KK
      try simp only [Act.put, List.setIfInBounds_toArray, List.set_cons_zero, List.set_cons_succ]
      obtain ⟨q2, hq2⟩ := hidEx (q1.alloc (.cells #[.int .i64 0, .int .i64 100001, .int .i64 50] 3))
      rw [hq2.out] at hL hI1 hI2 ⊢
      refine wpAnyH_ready (rs := [4]) (by kernel_rfl) (by simp) ?_
      refine AllReadyH.cons rfl (fun KK hK => ?_) AllReadyH.nil
      go_simp
      refine (l1Int_il g ao n cap f [0, 100001, 50] AI1 q2 hn (by simp) (by simp) hI1 hgI1 hL.cn.cur).mono ?_
      rintro e v1 ⟨z1, rfl, -, hCc, hBc⟩
      replace hI1 := hI1.but hBc hgI1
      replace hI2 := hI2.but hBc hgI2
      replace hL := hL.but hCc hBc
      clear hCc hBc
      go_wp2_with fail
      refine hK.out _ _ trivial (fun hHeld => ?_)
      clear hK KK
      try simp only [Act.put, List.setIfInBounds_toArray, List.set_cons_zero, List.set_cons_succ]
      refine wpAnyH_ready (rs := [7]) (by kernel_rfl) (by simp) ?_
      refine AllReadyH.cons rfl (fun KK hK => ?_) AllReadyH.nil
      go_simp
      refine (l1Int_il g ao n cap f [-1, 1048576, 0] AI2 v1 hn (by simp) (by simp) hI2 hgI2 hL.cn.cur).mono ?_
      rintro e v2 ⟨z2, rfl, -, hCc, hBc⟩
      replace hI1 := hI1.but hBc hgI1
      replace hI2 := hI2.but hBc hgI2
      replace hL := hL.but hCc hBc
      clear hCc hBc
      go_wp2_with fail
      refine hK.out _ _ trivial (fun hHeld => ?_)
      clear hK KK
      try simp only [Act.put, List.setIfInBounds_toArray, List.set_cons_zero, List.set_cons_succ]
      refine' wpAnyH_take (i := 8) (v := _) rfl (by kernel_rfl) (by kernel_rfl) (by kernel_rfl) (fun _ _ _ h => h) (Or.inl ⟨by kernel_rfl, ?hfa8⟩) (by assumption) ?rfa8
      case hfa8 => intro W hW; go_simp; all_goals with_reducible rfl
      change wpAnyH _ _ _ _ _ _ _ (Act.put _ (some 24) _) _
      simp only [Act.put, List.setIfInBounds_toArray, List.set_cons_zero, List.set_cons_succ]
      refine wpAnyH_ready (rs := [9]) (by kernel_rfl) (by simp) ?_
      refine AllReadyH.cons rfl (fun KK hK => ?_) AllReadyH.nil
      go_simp
      have hbA : Below v2.heap.size v2 (v2.alloc (.cells #[.int .i64 z1, .int .i64 z2, .int .i64 0] 79)) := (Below.refl _ _).alloc (Nat.le_refl _) _
      have hcl := cells3New v2 z1 z2 0 79
      replace hL := hL.on hbA
      obtain ⟨A9, hA9⟩ := hidEx v2.heap.size
      rw [hA9.out] at hcl ⊢
      clear hbA
      refine hK.out _ _ trivial (fun hHeld => ?_)
      clear hK KK
      try simp only [Act.put, List.setIfInBounds_toArray, List.set_cons_zero, List.set_cons_succ]
      obtain ⟨q3, hq3⟩ := hidEx (v2.alloc (.cells #[.int .i64 z1, .int .i64 z2, .int .i64 0] 79))
      rw [hq3.out] at hL hcl ⊢
      refine wpAnyH_ready (rs := [10]) (by kernel_rfl) (by simp) ?_
      refine AllReadyH.cons rfl (fun KK hK => ?_) AllReadyH.nil
      rw [if_pos (by kernel_rfl)]
      refine wp_append_own _ (.tmp 17) (.tmp 25) 30 rfl B 79 jf (.agg #[.int .i64 0, .int .i64 0, .int .i64 0]) 3 24 Try.underlying30 hjf fz0 fz1 fz2 rfl (by decide) _ _ _ rfl hL.ms.fown ⟨A9, 0, none⟩ 1 1 [.int .i64 z1, .int .i64 z2, .int .i64 0] rfl rfl hcl (by intro u hu; simp at hu; rcases hu with rfl | rfl | rfl <;> rfl) (by unfold maxLen; omega) (by omega) hL.b ?_
      intro v6 wa hOa hgra hnila
      have hKa := keep_grown hL.ms.fown hgra
      obtain ⟨fb, fd, rfl⟩ := own_succK hOa
      obtain ⟨_, _, ee, hfd, -, -⟩ := own_rl hOa
      cases ee
      have hge : ∀ k, Value.ownBlock _ = some k → B ≤ k := fun k e => own_geK hL.ms.fown k e
      have hXa := hL.ms.x.block (hKa _ _ _ _ hL.ms.x (by decide))
      clear hcl hnila
      refine hK.out _ _ trivial (fun hHeld => ?_)
      clear hK KK
      change wpAnyH _ _ _ _ _ _ _ (Act.put _ (some 26) _) _
      try simp only [Act.put, List.setIfInBounds_toArray, List.set_cons_zero, List.set_cons_succ]
      refine' wpAnyH_take (i := 11) (v := _) rfl (by kernel_rfl) (by kernel_rfl) (by kernel_rfl) (fun _ _ _ h => h) (Or.inl ⟨by kernel_rfl, ?hfa9⟩) (by assumption) ?rfa9
      case hfa9 => intro W hW; go_simp; all_goals with_reducible rfl
      change wpAnyH _ _ _ _ _ _ _ (Act.put _ (some 27) _) _
      simp only [Act.put, List.setIfInBounds_toArray, List.set_cons_zero, List.set_cons_succ]
      refine wpAnyH_ready (rs := [12]) (by kernel_rfl) (by simp) ?_
      refine AllReadyH.cons rfl (fun KK hK => ?_) AllReadyH.nil
      have xa := hXa.cell 3
      have za := hXa.fz 3
      simp only [List.getElem?_cons_zero, List.getElem?_cons_succ] at xa
      have hL9 := hL.pushF hgra hge hKa ⟨z1, z2, 0⟩ hfew hfd (fun e => by cases e) hOa
      clear hXa hL hge hKa hgra hOa
      go_simp
      clear xa za
      refine hK.out _ _ trivial (fun hHeld => ?_)
      clear hK KK
      try simp only [Act.put, List.setIfInBounds_toArray, List.set_cons_zero, List.set_cons_succ]
      refine wpAnyH_done (by kernel_rfl) ?_ _
      exact HR2.out _ _ _ _ _ _ _ _ _ _ _ _ _ _ _ _ _ hL9
  ·
    go_simp
    have hbA : Below wd.heap.size wd (wd.alloc (.cells #[.int .i64 0, .int .i64 100001, .int .i64 50] 3)) := (Below.refl _ _).alloc (Nat.le_refl _) _
    have hI1 := IL.new wd [0, 100001, 50] #[.int .i64 0, .int .i64 100001, .int .i64 50] rfl
    have hgI1 : wd.heap.size ≠ g := by have := hL.cn.lt; have := hL.cn.size; omega
    replace hL := hL.on hbA
    obtain ⟨AI1, hAI1⟩ := hidEx wd.heap.size
    rw [hAI1.out] at hI1 hgI1 ⊢
    clear hbA
    refine hK.out _ _ trivial (fun hHeld => ?_)
    clear hK KK
    try simp only [Act.put, List.setIfInBounds_toArray, List.set_cons_zero, List.set_cons_succ]
    obtain ⟨q1, hq1⟩ := hidEx (wd.alloc (.cells #[.int .i64 0, .int .i64 100001, .int .i64 50] 3))
    rw [hq1.out] at hL hI1 ⊢
    refine wpAnyH_ready (rs := [1, 4, 6]) (by kernel_rfl) (by simp) ?_
    refine AllReadyH.cons rfl (fun KK hK => ?_) (AllReadyH.cons rfl (fun KK hK => ?_) (AllReadyH.cons rfl (fun KK hK => ?_) AllReadyH.nil))
    ·
      have xl : q1.cell? ⟨X, 3, none⟩ = some (.slice fa D.faults.length fc) := hL.ms.x.cell 3
      go_simp
      clear xl
      refine hK.out _ _ trivial (fun hHeld => ?_)
      clear hK KK
      try simp only [Act.put, List.setIfInBounds_toArray, List.set_cons_zero, List.set_cons_succ]
      refine wpAnyH_ready (rs := [4, 6]) (by kernel_rfl) (by simp) ?_
      refine AllReadyH.cons rfl (fun KK hK => ?_) (AllReadyH.cons rfl (fun KK hK => ?_) AllReadyH.nil)
      ·
        go_simp
        refine (l1Int_il g ao n cap f [0, 100001, 50] AI1 q1 hn (by simp) (by simp) hI1 hgI1 hL.cn.cur).mono ?_
        rintro e v1 ⟨z1, rfl, -, hCc, hBc⟩
        replace hI1 := hI1.but hBc hgI1
        replace hL := hL.but hCc hBc
        clear hCc hBc
        go_wp2_with fail
        refine hK.out _ _ trivial (fun hHeld => ?_)
        clear hK KK
        try simp only [Act.put, List.setIfInBounds_toArray, List.set_cons_zero, List.set_cons_succ]
        refine wpAnyH_ready (rs := [6]) (by kernel_rfl) (by simp) ?_
        refine AllReadyH.cons rfl (fun KK hK => ?_) AllReadyH.nil
        go_simp
        have hbA : Below v1.heap.size v1 (v1.alloc (.cells #[.int .i64 (-1), .int .i64 1048576, .int .i64 0] 3)) := (Below.refl _ _).alloc (Nat.le_refl _) _
        have hI2 := IL.new v1 [-1, 1048576, 0] #[.int .i64 (-1), .int .i64 1048576, .int .i64 0] rfl
        have hgI2 : v1.heap.size ≠ g := by have := hL.cn.lt; have := hL.cn.size; omega
        replace hI1 := hI1.below hbA
        replace hL := hL.on hbA
        obtain ⟨AI2, hAI2⟩ := hidEx v1.heap.size
        rw [hAI2.out] at hI2 hgI2 ⊢
        clear hbA
        refine hK.out _ _ trivial (fun hHeld => ?_)
        clear hK KK
        try simp only [Act.put, List.setIfInBounds_toArray, List.set_cons_zero, List.set_cons_succ]
        obtain ⟨q2, hq2⟩ := hidEx (v1.alloc (.cells #[.int .i64 (-1), .int .i64 1048576, .int .i64 0] 3))
        rw [hq2.out] at hL hI1 hI2 ⊢
        refine wpAnyH_ready (rs := [7]) (by kernel_rfl) (by simp) ?_
        refine AllReadyH.cons rfl (fun KK hK => ?_) AllReadyH.nil
        go_simp
        refine (l1Int_il g ao n cap f [-1, 1048576, 0] AI2 q2 hn (by simp) (by simp) hI2 hgI2 hL.cn.cur).mono ?_
        rintro e v2 ⟨z2, rfl, -, hCc, hBc⟩
        replace hI1 := hI1.but hBc hgI1
        replace hI2 := hI2.but hBc hgI2
        replace hL := hL.but hCc hBc
        clear hCc hBc
        go_wp2_with fail
        refine hK.out _ _ trivial (fun hHeld => ?_)
        clear hK KK
        try simp only [Act.put, List.setIfInBounds_toArray, List.set_cons_zero, List.set_cons_succ]
        refine' wpAnyH_take (i := 8) (v := _) rfl (by kernel_rfl) (by kernel_rfl) (by kernel_rfl) (fun _ _ _ h => h) (Or.inl ⟨by kernel_rfl, ?hfa10⟩) (by assumption) ?rfa10
        case hfa10 => intro W hW; go_simp; all_goals with_reducible rfl
        change wpAnyH _ _ _ _ _ _ _ (Act.put _ (some 24) _) _
        simp only [Act.put, List.setIfInBounds_toArray, List.set_cons_zero, List.set_cons_succ]
        refine wpAnyH_ready (rs := [9]) (by kernel_rfl) (by simp) ?_
        refine AllReadyH.cons rfl (fun KK hK => ?_) AllReadyH.nil
        go_simp
        have hbA : Below v2.heap.size v2 (v2.alloc (.cells #[.int .i64 z1, .int .i64 z2, .int .i64 0] 79)) := (Below.refl _ _).alloc (Nat.le_refl _) _
        have hcl := cells3New v2 z1 z2 0 79
        replace hL := hL.on hbA
        obtain ⟨A9, hA9⟩ := hidEx v2.heap.size
        rw [hA9.out] at hcl ⊢
        clear hbA
        refine hK.out _ _ trivial (fun hHeld => ?_)
        clear hK KK
        try simp only [Act.put, List.setIfInBounds_toArray, List.set_cons_zero, List.set_cons_succ]
        obtain ⟨q3, hq3⟩ := hidEx (v2.alloc (.cells #[.int .i64 z1, .int .i64 z2, .int .i64 0] 79))
        rw [hq3.out] at hL hcl ⊢
        refine wpAnyH_ready (rs := [10]) (by kernel_rfl) (by simp) ?_
        refine AllReadyH.cons rfl (fun KK hK => ?_) AllReadyH.nil
        rw [if_pos (by kernel_rfl)]
        refine wp_append_own _ (.tmp 17) (.tmp 25) 30 rfl B 79 jf (.agg #[.int .i64 0, .int .i64 0, .int .i64 0]) 3 24 Try.underlying30 hjf fz0 fz1 fz2 rfl (by decide) _ _ _ rfl hL.ms.fown ⟨A9, 0, none⟩ 1 1 [.int .i64 z1, .int .i64 z2, .int .i64 0] rfl rfl hcl (by intro u hu; simp at hu; rcases hu with rfl | rfl | rfl <;> rfl) (by unfold maxLen; omega) (by omega) hL.b ?_
        intro v6 wa hOa hgra hnila
        have hKa := keep_grown hL.ms.fown hgra
        obtain ⟨fb, fd, rfl⟩ := own_succK hOa
        obtain ⟨_, _, ee, hfd, -, -⟩ := own_rl hOa
        cases ee
        have hge : ∀ k, Value.ownBlock _ = some k → B ≤ k := fun k e => own_geK hL.ms.fown k e
        have hXa := hL.ms.x.block (hKa _ _ _ _ hL.ms.x (by decide))
        clear hcl hnila
        refine hK.out _ _ trivial (fun hHeld => ?_)
        clear hK KK
        change wpAnyH _ _ _ _ _ _ _ (Act.put _ (some 26) _) _
        try simp only [Act.put, List.setIfInBounds_toArray, List.set_cons_zero, List.set_cons_succ]
        refine' wpAnyH_take (i := 11) (v := _) rfl (by kernel_rfl) (by kernel_rfl) (by kernel_rfl) (fun _ _ _ h => h) (Or.inl ⟨by kernel_rfl, ?hfa11⟩) (by assumption) ?rfa11
        case hfa11 => intro W hW; go_simp; all_goals with_reducible rfl
        change wpAnyH _ _ _ _ _ _ _ (Act.put _ (some 27) _) _
        simp only [Act.put, List.setIfInBounds_toArray, List.set_cons_zero, List.set_cons_succ]
        refine wpAnyH_ready (rs := [12]) (by kernel_rfl) (by simp) ?_
        refine AllReadyH.cons rfl (fun KK hK => ?_) AllReadyH.nil
        have xa := hXa.cell 3
        have za := hXa.fz 3
        simp only [List.getElem?_cons_zero, List.getElem?_cons_succ] at xa
        have hL9 := hL.pushF hgra hge hKa ⟨z1, z2, 0⟩ hfew hfd (fun e => by cases e) hOa
        clear hXa hL hge hKa hgra hOa
        go_simp
        clear xa za
        refine hK.out _ _ trivial (fun hHeld => ?_)
        clear hK KK
        try simp only [Act.put, List.setIfInBounds_toArray, List.set_cons_zero, List.set_cons_succ]
        refine wpAnyH_done (by kernel_rfl) ?_ _
        exact HR2.out _ _ _ _ _ _ _ _ _ _ _ _ _ _ _ _ _ hL9
      ·
        go_simp
        have hbA : Below q1.heap.size q1 (q1.alloc (.cells #[.int .i64 (-1), .int .i64 1048576, .int .i64 0] 3)) := (Below.refl _ _).alloc (Nat.le_refl _) _
        have hI2 := IL.new q1 [-1, 1048576, 0] #[.int .i64 (-1), .int .i64 1048576, .int .i64 0] rfl
        have hgI2 : q1.heap.size ≠ g := by have := hL.cn.lt; have := hL.cn.size; omega
        replace hI1 := hI1.below hbA
        replace hL := hL.on hbA
        obtain ⟨AI2, hAI2⟩ := hidEx q1.heap.size
        rw [hAI2.out] at hI2 hgI2 ⊢
        clear hbA
        refine hK.out _ _ trivial (fun hHeld => ?_)
        clear hK KK
        try simp only [Act.put, List.setIfInBounds_toArray, List.set_cons_zero, List.set_cons_succ]
        obtain ⟨q2, hq2⟩ := hidEx (q1.alloc (.cells #[.int .i64 (-1), .int .i64 1048576, .int .i64 0] 3))
        rw [hq2.out] at hL hI1 hI2 ⊢
        refine wpAnyH_ready (rs := [4]) (by kernel_rfl) (by simp) ?_
        refine AllReadyH.cons rfl (fun KK hK => ?_) AllReadyH.nil
        go_simp
        refine (l1Int_il g ao n cap f [0, 100001, 50] AI1 q2 hn (by simp) (by simp) hI1 hgI1 hL.cn.cur).mono ?_
        rintro e v1 ⟨z1, rfl, -, hCc, hBc⟩
        replace hI1 := hI1.but hBc hgI1
        replace hI2 := hI2.but hBc hgI2
        replace hL := hL.but hCc hBc
        clear hCc hBc
        go_wp2_with fail
        refine hK.out _ _ trivial (fun hHeld => ?_)
        clear hK KK
        try simp only [Act.put, List.setIfInBounds_toArray, List.set_cons_zero, List.set_cons_succ]
        refine wpAnyH_ready (rs := [7]) (by kernel_rfl) (by simp) ?_
        refine AllReadyH.cons rfl (fun KK hK => ?_) AllReadyH.nil
        go_simp
        refine (l1Int_il g ao n cap f [-1, 1048576, 0] AI2 v1 hn (by simp) (by simp) hI2 hgI2 hL.cn.cur).mono ?_
        rintro e v2 ⟨z2, rfl, -, hCc, hBc⟩
        replace hI1 := hI1.but hBc hgI1
        replace hI2 := hI2.but hBc hgI2
        replace hL := hL.but hCc hBc
        clear hCc hBc
        go_wp2_with fail
        refine hK.out _ _ trivial (fun hHeld => ?_)
        clear hK KK
        try simp only [Act.put, List.setIfInBounds_toArray, List.set_cons_zero, List.set_cons_succ]
        refine' wpAnyH_take (i := 8) (v := _) rfl (by kernel_rfl) (by kernel_rfl) (by kernel_rfl) (fun _ _ _ h => h) (Or.inl ⟨by kernel_rfl, ?hfa12⟩) (by assumption) ?rfa12
        case hfa12 => intro W hW; go_simp; all_goals with_reducible rfl
        change wpAnyH _ _ _ _ _ _ _ (Act.put _ (some 24) _) _
        simp only [Act.put, List.setIfInBounds_toArray, List.set_cons_zero, List.set_cons_succ]
        refine wpAnyH_ready (rs := [9]) (by kernel_rfl) (by simp) ?_
        refine AllReadyH.cons rfl (fun KK hK => ?_) AllReadyH.nil
        go_simp
        have hbA : Below v2.heap.size v2 (v2.alloc (.cells #[.int .i64 z1, .int .i64 z2, .int .i64 0] 79)) := (Below.refl _ _).alloc (Nat.le_refl _) _
        have hcl := cells3New v2 z1 z2 0 79
        replace hL := hL.on hbA
        obtain ⟨A9, hA9⟩ := hidEx v2.heap.size
        rw [hA9.out] at hcl ⊢
        clear hbA
        refine hK.out _ _ trivial (fun hHeld => ?_)
        clear hK KK
        try simp only [Act.put, List.setIfInBounds_toArray, List.set_cons_zero, List.set_cons_succ]
        obtain ⟨q3, hq3⟩ := hidEx (v2.alloc (.cells #[.int .i64 z1, .int .i64 z2, .int .i64 0] 79))
        rw [hq3.out] at hL hcl ⊢
        refine wpAnyH_ready (rs := [10]) (by kernel_rfl) (by simp) ?_
        refine AllReadyH.cons rfl (fun KK hK => ?_) AllReadyH.nil
        rw [if_pos (by kernel_rfl)]
        refine wp_append_own _ (.tmp 17) (.tmp 25) 30 rfl B 79 jf (.agg #[.int .i64 0, .int .i64 0, .int .i64 0]) 3 24 Try.underlying30 hjf fz0 fz1 fz2 rfl (by decide) _ _ _ rfl hL.ms.fown ⟨A9, 0, none⟩ 1 1 [.int .i64 z1, .int .i64 z2, .int .i64 0] rfl rfl hcl (by intro u hu; simp at hu; rcases hu with rfl | rfl | rfl <;> rfl) (by unfold maxLen; omega) (by omega) hL.b ?_
        intro v6 wa hOa hgra hnila
        have hKa := keep_grown hL.ms.fown hgra
        obtain ⟨fb, fd, rfl⟩ := own_succK hOa
        obtain ⟨_, _, ee, hfd, -, -⟩ := own_rl hOa
        cases ee
        have hge : ∀ k, Value.ownBlock _ = some k → B ≤ k := fun k e => own_geK hL.ms.fown k e
        have hXa := hL.ms.x.block (hKa _ _ _ _ hL.ms.x (by decide))
        clear hcl hnila
        refine hK.out _ _ trivial (fun hHeld => ?_)
        clear hK KK
        change wpAnyH _ _ _ _ _ _ _ (Act.put _ (some 26) _) _
        try simp only [Act.put, List.setIfInBounds_toArray, List.set_cons_zero, List.set_cons_succ]
        refine' wpAnyH_take (i := 11) (v := _) rfl (by kernel_rfl) (by kernel_rfl) (by kernel_rfl) (fun _ _ _ h => h) (Or.inl ⟨by kernel_rfl, ?hfa13⟩) (by assumption) ?rfa13
        case hfa13 => intro W hW; go_simp; all_goals with_reducible rfl
        change wpAnyH _ _ _ _ _ _ _ (Act.put _ (some 27) _) _
        simp only [Act.put, List.setIfInBounds_toArray, List.set_cons_zero, List.set_cons_succ]
        refine wpAnyH_ready (rs := [12]) (by kernel_rfl) (by simp) ?_
        refine AllReadyH.cons rfl (fun KK hK => ?_) AllReadyH.nil
        have xa := hXa.cell 3
        have za := hXa.fz 3
        simp only [List.getElem?_cons_zero, List.getElem?_cons_succ] at xa
        have hL9 := hL.pushF hgra hge hKa ⟨z1, z2, 0⟩ hfew hfd (fun e => by cases e) hOa
        clear hXa hL hge hKa hgra hOa
        go_simp
        clear xa za
        refine hK.out _ _ trivial (fun hHeld => ?_)
        clear hK KK
        try simp only [Act.put, List.setIfInBounds_toArray, List.set_cons_zero, List.set_cons_succ]
        refine wpAnyH_done (by kernel_rfl) ?_ _
        exact HR2.out _ _ _ _ _ _ _ _ _ _ _ _ _ _ _ _ _ hL9
    ·
      go_simp
      refine (l1Int_il g ao n cap f [0, 100001, 50] AI1 q1 hn (by simp) (by simp) hI1 hgI1 hL.cn.cur).mono ?_
      rintro e v1 ⟨z1, rfl, -, hCc, hBc⟩
      replace hI1 := hI1.but hBc hgI1
      replace hL := hL.but hCc hBc
      clear hCc hBc
      go_wp2_with fail
      refine hK.out _ _ trivial (fun hHeld => ?_)
      clear hK KK
      try simp only [Act.put, List.setIfInBounds_toArray, List.set_cons_zero, List.set_cons_succ]
      refine wpAnyH_ready (rs := [1, 6]) (by kernel_rfl) (by simp) ?_
      refine AllReadyH.cons rfl (fun KK hK => ?_) (AllReadyH.cons rfl (fun KK hK => ?_) AllReadyH.nil)
      ·
        have xl : v1.cell? ⟨X, 3, none⟩ = some (.slice fa D.faults.length fc) := hL.ms.x.cell 3
        go_simp
        clear xl
        refine hK.out _ _ trivial (fun hHeld => ?_)
        clear hK KK
        try simp only [Act.put, List.setIfInBounds_toArray, List.set_cons_zero, List.set_cons_succ]
        refine wpAnyH_ready (rs := [6]) (by kernel_rfl) (by simp) ?_
        refine AllReadyH.cons rfl (fun KK hK => ?_) AllReadyH.nil
        go_simp
        have hbA : Below v1.heap.size v1 (v1.alloc (.cells #[.int .i64 (-1), .int .i64 1048576, .int .i64 0] 3)) := (Below.refl _ _).alloc (Nat.le_refl _) _
        have hI2 := IL.new v1 [-1, 1048576, 0] #[.int .i64 (-1), .int .i64 1048576, .int .i64 0] rfl
        have hgI2 : v1.heap.size ≠ g := by have := hL.cn.lt; have := hL.cn.size; omega
        replace hI1 := hI1.below hbA
        replace hL := hL.on hbA
        obtain ⟨AI2, hAI2⟩ := hidEx v1.heap.size
        rw [hAI2.out] at hI2 hgI2 ⊢
        clear hbA
        refine hK.out _ _ trivial (fun hHeld => ?_)
        clear hK KK
        try simp only [Act.put, List.setIfInBounds_toArray, List.set_cons_zero, List.set_cons_succ]
        obtain ⟨q2, hq2⟩ := hidEx (v1.alloc (.cells #[.int .i64 (-1), .int .i64 1048576, .int .i64 0] 3))
        rw [hq2.out] at hL hI1 hI2 ⊢
        refine wpAnyH_ready (rs := [7]) (by kernel_rfl) (by simp) ?_
        refine AllReadyH.cons rfl (fun KK hK => ?_) AllReadyH.nil
        go_simp
        refine (l1Int_il g ao n cap f [-1, 1048576, 0] AI2 q2 hn (by simp) (by simp) hI2 hgI2 hL.cn.cur).mono ?_
        rintro e v2 ⟨z2, rfl, -, hCc, hBc⟩
        replace hI1 := hI1.but hBc hgI1
        replace hI2 := hI2.but hBc hgI2
        replace hL := hL.but hCc hBc
        clear hCc hBc
        go_wp2_with fail
        refine hK.out _ _ trivial (fun hHeld => ?_)
        clear hK KK
        try simp only [Act.put, List.setIfInBounds_toArray, List.set_cons_zero, List.set_cons_succ]
        refine' wpAnyH_take (i := 8) (v := _) rfl (by kernel_rfl) (by kernel_rfl) (by kernel_rfl) (fun _ _ _ h => h) (Or.inl ⟨by kernel_rfl, ?hfa14⟩) (by assumption) ?rfa14
        case hfa14 => intro W hW; go_simp; all_goals with_reducible rfl
        change wpAnyH _ _ _ _ _ _ _ (Act.put _ (some 24) _) _
        simp only [Act.put, List.setIfInBounds_toArray, List.set_cons_zero, List.set_cons_succ]
        refine wpAnyH_ready (rs := [9]) (by kernel_rfl) (by simp) ?_
        refine AllReadyH.cons rfl (fun KK hK => ?_) AllReadyH.nil
        go_simp
        have hbA : Below v2.heap.size v2 (v2.alloc (.cells #[.int .i64 z1, .int .i64 z2, .int .i64 0] 79)) := (Below.refl _ _).alloc (Nat.le_refl _) _
        have hcl := cells3New v2 z1 z2 0 79
        replace hL := hL.on hbA
        obtain ⟨A9, hA9⟩ := hidEx v2.heap.size
        rw [hA9.out] at hcl ⊢
        clear hbA
        refine hK.out _ _ trivial (fun hHeld => ?_)
        clear hK KK
        try simp only [Act.put, List.setIfInBounds_toArray, List.set_cons_zero, List.set_cons_succ]
        obtain ⟨q3, hq3⟩ := hidEx (v2.alloc (.cells #[.int .i64 z1, .int .i64 z2, .int .i64 0] 79))
        rw [hq3.out] at hL hcl ⊢
        refine wpAnyH_ready (rs := [10]) (by kernel_rfl) (by simp) ?_
        refine AllReadyH.cons rfl (fun KK hK => ?_) AllReadyH.nil
        rw [if_pos (by kernel_rfl)]
        refine wp_append_own _ (.tmp 17) (.tmp 25) 30 rfl B 79 jf (.agg #[.int .i64 0, .int .i64 0, .int .i64 0]) 3 24 Try.underlying30 hjf fz0 fz1 fz2 rfl (by decide) _ _ _ rfl hL.ms.fown ⟨A9, 0, none⟩ 1 1 [.int .i64 z1, .int .i64 z2, .int .i64 0] rfl rfl hcl (by intro u hu; simp at hu; rcases hu with rfl | rfl | rfl <;> rfl) (by unfold maxLen; omega) (by omega) hL.b ?_
        intro v6 wa hOa hgra hnila
        have hKa := keep_grown hL.ms.fown hgra
        obtain ⟨fb, fd, rfl⟩ := own_succK hOa
        obtain ⟨_, _, ee, hfd, -, -⟩ := own_rl hOa
        cases ee
        have hge : ∀ k, Value.ownBlock _ = some k → B ≤ k := fun k e => own_geK hL.ms.fown k e
        have hXa := hL.ms.x.block (hKa _ _ _ _ hL.ms.x (by decide))
        clear hcl hnila
        refine hK.out _ _ trivial (fun hHeld => ?_)
        clear hK KK
        change wpAnyH _ _ _ _ _ _ _ (Act.put _ (some 26) _) _
        try simp only [Act.put, List.setIfInBounds_toArray, List.set_cons_zero, List.set_cons_succ]
        refine' wpAnyH_take (i := 11) (v := _) rfl (by kernel_rfl) (by kernel_rfl) (by kernel_rfl) (fun _ _ _ h => h) (Or.inl ⟨by kernel_rfl, ?hfa15⟩) (by assumption) ?rfa15
        case hfa15 => intro W hW; go_simp; all_goals with_reducible rfl
        change wpAnyH _ _ _ _ _ _ _ (Act.put _ (some 27) _) _
        simp only [Act.put, List.setIfInBounds_toArray, List.set_cons_zero, List.set_cons_succ]
        refine wpAnyH_ready (rs := [12]) (by kernel_rfl) (by simp) ?_
        refine AllReadyH.cons rfl (fun KK hK => ?_) AllReadyH.nil
        have xa := hXa.cell 3
        have za := hXa.fz 3
        simp only [List.getElem?_cons_zero, List.getElem?_cons_succ] at xa
        have hL9 := hL.pushF hgra hge hKa ⟨z1, z2, 0⟩ hfew hfd (fun e => by cases e) hOa
        clear hXa hL hge hKa hgra hOa
        go_simp
        clear xa za
        refine hK.out _ _ trivial (fun hHeld => ?_)
        clear hK KK
        try simp only [Act.put, List.setIfInBounds_toArray, List.set_cons_zero, List.set_cons_succ]
        refine wpAnyH_done (by kernel_rfl) ?_ _
        exact HR2.out _ _ _ _ _ _ _ _ _ _ _ _ _ _ _ _ _ hL9
      ·
        go_simp
        have hbA : Below v1.heap.size v1 (v1.alloc (.cells #[.int .i64 (-1), .int .i64 1048576, .int .i64 0] 3)) := (Below.refl _ _).alloc (Nat.le_refl _) _
        have hI2 := IL.new v1 [-1, 1048576, 0] #[.int .i64 (-1), .int .i64 1048576, .int .i64 0] rfl
        have hgI2 : v1.heap.size ≠ g := by have := hL.cn.lt; have := hL.cn.size; omega
        replace hI1 := hI1.below hbA
        replace hL := hL.on hbA
        obtain ⟨AI2, hAI2⟩ := hidEx v1.heap.size
        rw [hAI2.out] at hI2 hgI2 ⊢
        clear hbA
        refine hK.out _ _ trivial (fun hHeld => ?_)
        clear hK KK
        try simp only [Act.put, List.setIfInBounds_toArray, List.set_cons_zero, List.set_cons_succ]
        obtain ⟨q2, hq2⟩ := hidEx (v1.alloc (.cells #[.int .i64 (-1), .int .i64 1048576, .int .i64 0] 3))
        rw [hq2.out] at hL hI1 hI2 ⊢
        refine wpAnyH_ready (rs := [1, 7]) (by kernel_rfl) (by simp) ?_
        refine AllReadyH.cons rfl (fun KK hK => ?_) (AllReadyH.cons rfl (fun KK hK => ?_) AllReadyH.nil)
        ·
          have xl : q2.cell? ⟨X, 3, none⟩ = some (.slice fa D.faults.length fc) := hL.ms.x.cell 3
          go_simp
          clear xl
          refine hK.out _ _ trivial (fun hHeld => ?_)
          clear hK KK
          try simp only [Act.put, List.setIfInBounds_toArray, List.set_cons_zero, List.set_cons_succ]
          refine wpAnyH_ready (rs := [7]) (by kernel_rfl) (by simp) ?_
          refine AllReadyH.cons rfl (fun KK hK => ?_) AllReadyH.nil
          go_simp
          refine (l1Int_il g ao n cap f [-1, 1048576, 0] AI2 q2 hn (by simp) (by simp) hI2 hgI2 hL.cn.cur).mono ?_
          rintro e v2 ⟨z2, rfl, -, hCc, hBc⟩
          replace hI1 := hI1.but hBc hgI1
          replace hI2 := hI2.but hBc hgI2
          replace hL := hL.but hCc hBc
          clear hCc hBc
          go_wp2_with fail
          refine hK.out _ _ trivial (fun hHeld => ?_)
          clear hK KK
          try simp only [Act.put, List.setIfInBounds_toArray, List.set_cons_zero, List.set_cons_succ]
          refine' wpAnyH_take (i := 8) (v := _) rfl (by kernel_rfl) (by kernel_rfl) (by kernel_rfl) (fun _ _ _ h => h) (Or.inl ⟨by kernel_rfl, ?hfa16⟩) (by assumption) ?rfa16
          case hfa16 => intro W hW; go_simp; all_goals with_reducible rfl
          change wpAnyH _ _ _ _ _ _ _ (Act.put _ (some 24) _) _
          simp only [Act.put, List.setIfInBounds_toArray, List.set_cons_zero, List.set_cons_succ]
          refine wpAnyH_ready (rs := [9]) (by kernel_rfl) (by simp) ?_
          refine AllReadyH.cons rfl (fun KK hK => ?_) AllReadyH.nil
          go_simp
          have hbA : Below v2.heap.size v2 (v2.alloc (.cells #[.int .i64 z1, .int .i64 z2, .int .i64 0] 79)) := (Below.refl _ _).alloc (Nat.le_refl _) _
          have hcl := cells3New v2 z1 z2 0 79
          replace hL := hL.on hbA
          obtain ⟨A9, hA9⟩ := hidEx v2.heap.size
          rw [hA9.out] at hcl ⊢
          clear hbA
          refine hK.out _ _ trivial (fun hHeld => ?_)
          clear hK KK
          try simp only [Act.put, List.setIfInBounds_toArray, List.set_cons_zero, List.set_cons_succ]
          obtain ⟨q3, hq3⟩ := hidEx (v2.alloc (.cells #[.int .i64 z1, .int .i64 z2, .int .i64 0] 79))
          rw [hq3.out] at hL hcl ⊢
          refine wpAnyH_ready (rs := [10]) (by kernel_rfl) (by simp) ?_
          refine AllReadyH.cons rfl (fun KK hK => ?_) AllReadyH.nil
          rw [if_pos (by kernel_rfl)]
          refine wp_append_own _ (.tmp 17) (.tmp 25) 30 rfl B 79 jf (.agg #[.int .i64 0, .int .i64 0, .int .i64 0]) 3 24 Try.underlying30 hjf fz0 fz1 fz2 rfl (by decide) _ _ _ rfl hL.ms.fown ⟨A9, 0, none⟩ 1 1 [.int .i64 z1, .int .i64 z2, .int .i64 0] rfl rfl hcl (by intro u hu; simp at hu; rcases hu with rfl | rfl | rfl <;> rfl) (by unfold maxLen; omega) (by omega) hL.b ?_
          intro v6 wa hOa hgra hnila
          have hKa := keep_grown hL.ms.fown hgra
          obtain ⟨fb, fd, rfl⟩ := own_succK hOa
          obtain ⟨_, _, ee, hfd, -, -⟩ := own_rl hOa
          cases ee
          have hge : ∀ k, Value.ownBlock _ = some k → B ≤ k := fun k e => own_geK hL.ms.fown k e
          have hXa := hL.ms.x.block (hKa _ _ _ _ hL.ms.x (by decide))
          clear hcl hnila
          refine hK.out _ _ trivial (fun hHeld => ?_)
          clear hK KK
          change wpAnyH _ _ _ _ _ _ _ (Act.put _ (some 26) _) _
          try simp only [Act.put, List.setIfInBounds_toArray, List.set_cons_zero, List.set_cons_succ]
          refine' wpAnyH_take (i := 11) (v := _) rfl (by kernel_rfl) (by kernel_rfl) (by kernel_rfl) (fun _ _ _ h => h) (Or.inl ⟨by kernel_rfl, ?hfa17⟩) (by assumption) ?rfa17
          case hfa17 => intro W hW; go_simp; all_goals with_reducible rfl
          change wpAnyH _ _ _ _ _ _ _ (Act.put _ (some 27) _) _
          simp only [Act.put, List.setIfInBounds_toArray, List.set_cons_zero, List.set_cons_succ]
          refine wpAnyH_ready (rs := [12]) (by kernel_rfl) (by simp) ?_
          refine AllReadyH.cons rfl (fun KK hK => ?_) AllReadyH.nil
          have xa := hXa.cell 3
          have za := hXa.fz 3
          simp only [List.getElem?_cons_zero, List.getElem?_cons_succ] at xa
          have hL9 := hL.pushF hgra hge hKa ⟨z1, z2, 0⟩ hfew hfd (fun e => by cases e) hOa
          clear hXa hL hge hKa hgra hOa
          go_simp
          clear xa za
          refine hK.out _ _ trivial (fun hHeld => ?_)
          clear hK KK
          try simp only [Act.put, List.setIfInBounds_toArray, List.set_cons_zero, List.set_cons_succ]
          refine wpAnyH_done (by kernel_rfl) ?_ _
          exact HR2.out _ _ _ _ _ _ _ _ _ _ _ _ _ _ _ _ _ hL9
        ·
          go_simp
          refine (l1Int_il g ao n cap f [-1, 1048576, 0] AI2 q2 hn (by simp) (by simp) hI2 hgI2 hL.cn.cur).mono ?_
          rintro e v2 ⟨z2, rfl, -, hCc, hBc⟩
          replace hI1 := hI1.but hBc hgI1
          replace hI2 := hI2.but hBc hgI2
          replace hL := hL.but hCc hBc
          clear hCc hBc
          go_wp2_with fail
          refine hK.out _ _ trivial (fun hHeld => ?_)
          clear hK KK
          try simp only [Act.put, List.setIfInBounds_toArray, List.set_cons_zero, List.set_cons_succ]
          refine' wpAnyH_take (i := 8) (v := _) rfl (by kernel_rfl) (by kernel_rfl) (by kernel_rfl) (fun _ _ _ h => h) (Or.inl ⟨by kernel_rfl, ?hfa18⟩) (by assumption) ?rfa18
          case hfa18 => intro W hW; go_simp; all_goals with_reducible rfl
          change wpAnyH _ _ _ _ _ _ _ (Act.put _ (some 24) _) _
          simp only [Act.put, List.setIfInBounds_toArray, List.set_cons_zero, List.set_cons_succ]
          refine wpAnyH_ready (rs := [1, 9]) (by kernel_rfl) (by simp) ?_
          refine AllReadyH.cons rfl (fun KK hK => ?_) (AllReadyH.cons rfl (fun KK hK => ?_) AllReadyH.nil)
          ·
            have xl : v2.cell? ⟨X, 3, none⟩ = some (.slice fa D.faults.length fc) := hL.ms.x.cell 3
            go_simp
            clear xl
            refine hK.out _ _ trivial (fun hHeld => ?_)
            clear hK KK
            try simp only [Act.put, List.setIfInBounds_toArray, List.set_cons_zero, List.set_cons_succ]
            refine wpAnyH_ready (rs := [9]) (by kernel_rfl) (by simp) ?_
            refine AllReadyH.cons rfl (fun KK hK => ?_) AllReadyH.nil
            go_simp
            have hbA : Below v2.heap.size v2 (v2.alloc (.cells #[.int .i64 z1, .int .i64 z2, .int .i64 0] 79)) := (Below.refl _ _).alloc (Nat.le_refl _) _
            have hcl := cells3New v2 z1 z2 0 79
            replace hL := hL.on hbA
            obtain ⟨A9, hA9⟩ := hidEx v2.heap.size
            rw [hA9.out] at hcl ⊢
            clear hbA
            refine hK.out _ _ trivial (fun hHeld => ?_)
            clear hK KK
            try simp only [Act.put, List.setIfInBounds_toArray, List.set_cons_zero, List.set_cons_succ]
            obtain ⟨q3, hq3⟩ := hidEx (v2.alloc (.cells #[.int .i64 z1, .int .i64 z2, .int .i64 0] 79))
            rw [hq3.out] at hL hcl ⊢
            refine wpAnyH_ready (rs := [10]) (by kernel_rfl) (by simp) ?_
            refine AllReadyH.cons rfl (fun KK hK => ?_) AllReadyH.nil
            rw [if_pos (by kernel_rfl)]
            refine wp_append_own _ (.tmp 17) (.tmp 25) 30 rfl B 79 jf (.agg #[.int .i64 0, .int .i64 0, .int .i64 0]) 3 24 Try.underlying30 hjf fz0 fz1 fz2 rfl (by decide) _ _ _ rfl hL.ms.fown ⟨A9, 0, none⟩ 1 1 [.int .i64 z1, .int .i64 z2, .int .i64 0] rfl rfl hcl (by intro u hu; simp at hu; rcases hu with rfl | rfl | rfl <;> rfl) (by unfold maxLen; omega) (by omega) hL.b ?_
            intro v6 wa hOa hgra hnila
            have hKa := keep_grown hL.ms.fown hgra
            obtain ⟨fb, fd, rfl⟩ := own_succK hOa
            obtain ⟨_, _, ee, hfd, -, -⟩ := own_rl hOa
            cases ee
            have hge : ∀ k, Value.ownBlock _ = some k → B ≤ k := fun k e => own_geK hL.ms.fown k e
            have hXa := hL.ms.x.block (hKa _ _ _ _ hL.ms.x (by decide))
            clear hcl hnila
            refine hK.out _ _ trivial (fun hHeld => ?_)
            clear hK KK
            change wpAnyH _ _ _ _ _ _ _ (Act.put _ (some 26) _) _
            try simp only [Act.put, List.setIfInBounds_toArray, List.set_cons_zero, List.set_cons_succ]
            refine' wpAnyH_take (i := 11) (v := _) rfl (by kernel_rfl) (by kernel_rfl) (by kernel_rfl) (fun _ _ _ h => h) (Or.inl ⟨by kernel_rfl, ?hfa19⟩) (by assumption) ?rfa19
            case hfa19 => intro W hW; go_simp; all_goals with_reducible rfl
            change wpAnyH _ _ _ _ _ _ _ (Act.put _ (some 27) _) _
            simp only [Act.put, List.setIfInBounds_toArray, List.set_cons_zero, List.set_cons_succ]
            refine wpAnyH_ready (rs := [12]) (by kernel_rfl) (by simp) ?_
            refine AllReadyH.cons rfl (fun KK hK => ?_) AllReadyH.nil
            have xa := hXa.cell 3
            have za := hXa.fz 3
            simp only [List.getElem?_cons_zero, List.getElem?_cons_succ] at xa
            have hL9 := hL.pushF hgra hge hKa ⟨z1, z2, 0⟩ hfew hfd (fun e => by cases e) hOa
            clear hXa hL hge hKa hgra hOa
            go_simp
            clear xa za
            refine hK.out _ _ trivial (fun hHeld => ?_)
            clear hK KK
            try simp only [Act.put, List.setIfInBounds_toArray, List.set_cons_zero, List.set_cons_succ]
            refine wpAnyH_done (by kernel_rfl) ?_ _
            exact HR2.out _ _ _ _ _ _ _ _ _ _ _ _ _ _ _ _ _ hL9
          ·
            go_simp
            have hbA : Below v2.heap.size v2 (v2.alloc (.cells #[.int .i64 z1, .int .i64 z2, .int .i64 0] 79)) := (Below.refl _ _).alloc (Nat.le_refl _) _
            have hcl := cells3New v2 z1 z2 0 79
            replace hL := hL.on hbA
            obtain ⟨A9, hA9⟩ := hidEx v2.heap.size
            rw [hA9.out] at hcl ⊢
            clear hbA
            refine hK.out _ _ trivial (fun hHeld => ?_)
            clear hK KK
            try simp only [Act.put, List.setIfInBounds_toArray, List.set_cons_zero, List.set_cons_succ]
            obtain ⟨q3, hq3⟩ := hidEx (v2.alloc (.cells #[.int .i64 z1, .int .i64 z2, .int .i64 0] 79))
            rw [hq3.out] at hL hcl ⊢
            refine wpAnyH_ready (rs := [1]) (by kernel_rfl) (by simp) ?_
            refine AllReadyH.cons rfl (fun KK hK => ?_) AllReadyH.nil
            have xl : q3.cell? ⟨X, 3, none⟩ = some (.slice fa D.faults.length fc) := hL.ms.x.cell 3
            go_simp
            clear xl
            refine hK.out _ _ trivial (fun hHeld => ?_)
            clear hK KK
            try simp only [Act.put, List.setIfInBounds_toArray, List.set_cons_zero, List.set_cons_succ]
            refine wpAnyH_ready (rs := [10]) (by kernel_rfl) (by simp) ?_
            refine AllReadyH.cons rfl (fun KK hK => ?_) AllReadyH.nil
            rw [if_pos (by kernel_rfl)]
            refine wp_append_own _ (.tmp 17) (.tmp 25) 30 rfl B 79 jf (.agg #[.int .i64 0, .int .i64 0, .int .i64 0]) 3 24 Try.underlying30 hjf fz0 fz1 fz2 rfl (by decide) _ _ _ rfl hL.ms.fown ⟨A9, 0, none⟩ 1 1 [.int .i64 z1, .int .i64 z2, .int .i64 0] rfl rfl hcl (by intro u hu; simp at hu; rcases hu with rfl | rfl | rfl <;> rfl) (by unfold maxLen; omega) (by omega) hL.b ?_
            intro v6 wa hOa hgra hnila
            have hKa := keep_grown hL.ms.fown hgra
            obtain ⟨fb, fd, rfl⟩ := own_succK hOa
            obtain ⟨_, _, ee, hfd, -, -⟩ := own_rl hOa
            cases ee
            have hge : ∀ k, Value.ownBlock _ = some k → B ≤ k := fun k e => own_geK hL.ms.fown k e
            have hXa := hL.ms.x.block (hKa _ _ _ _ hL.ms.x (by decide))
            clear hcl hnila
            refine hK.out _ _ trivial (fun hHeld => ?_)
            clear hK KK
            change wpAnyH _ _ _ _ _ _ _ (Act.put _ (some 26) _) _
            try simp only [Act.put, List.setIfInBounds_toArray, List.set_cons_zero, List.set_cons_succ]
            refine' wpAnyH_take (i := 11) (v := _) rfl (by kernel_rfl) (by kernel_rfl) (by kernel_rfl) (fun _ _ _ h => h) (Or.inl ⟨by kernel_rfl, ?hfa20⟩) (by assumption) ?rfa20
            case hfa20 => intro W hW; go_simp; all_goals with_reducible rfl
            change wpAnyH _ _ _ _ _ _ _ (Act.put _ (some 27) _) _
            simp only [Act.put, List.setIfInBounds_toArray, List.set_cons_zero, List.set_cons_succ]
            refine wpAnyH_ready (rs := [12]) (by kernel_rfl) (by simp) ?_
            refine AllReadyH.cons rfl (fun KK hK => ?_) AllReadyH.nil
            have xa := hXa.cell 3
            have za := hXa.fz 3
            simp only [List.getElem?_cons_zero, List.getElem?_cons_succ] at xa
            have hL9 := hL.pushF hgra hge hKa ⟨z1, z2, 0⟩ hfew hfd (fun e => by cases e) hOa
            clear hXa hL hge hKa hgra hOa
            go_simp
            clear xa za
            refine hK.out _ _ trivial (fun hHeld => ?_)
            clear hK KK
            try simp only [Act.put, List.setIfInBounds_toArray, List.set_cons_zero, List.set_cons_succ]
            refine wpAnyH_done (by kernel_rfl) ?_ _
            exact HR2.out _ _ _ _ _ _ _ _ _ _ _ _ _ _ _ _ _ hL9
    ·
      go_simp
      have hbA : Below q1.heap.size q1 (q1.alloc (.cells #[.int .i64 (-1), .int .i64 1048576, .int .i64 0] 3)) := (Below.refl _ _).alloc (Nat.le_refl _) _
      have hI2 := IL.new q1 [-1, 1048576, 0] #[.int .i64 (-1), .int .i64 1048576, .int .i64 0] rfl
      have hgI2 : q1.heap.size ≠ g := by have := hL.cn.lt; have := hL.cn.size; omega
      replace hI1 := hI1.below hbA
      replace hL := hL.on hbA
      obtain ⟨AI2, hAI2⟩ := hidEx q1.heap.size
      rw [hAI2.out] at hI2 hgI2 ⊢
      clear hbA
      refine hK.out _ _ trivial (fun hHeld => ?_)
      clear hK KK
      try simp only [Act.put, List.setIfInBounds_toArray, List.set_cons_zero, List.set_cons_succ]
      obtain ⟨q2, hq2⟩ := hidEx (q1.alloc (.cells #[.int .i64 (-1), .int .i64 1048576, .int .i64 0] 3))
      rw [hq2.out] at hL hI1 hI2 ⊢
      refine wpAnyH_ready (rs := [1, 4]) (by kernel_rfl) (by simp) ?_
      refine AllReadyH.cons rfl (fun KK hK => ?_) (AllReadyH.cons rfl (fun KK hK => ?_) AllReadyH.nil)
      ·
        have xl : q2.cell? ⟨X, 3, none⟩ = some (.slice fa D.faults.length fc) := hL.ms.x.cell 3
        go_simp
        clear xl
        refine hK.out _ _ trivial (fun hHeld => ?_)
        clear hK KK
        try simp only [Act.put, List.setIfInBounds_toArray, List.set_cons_zero, List.set_cons_succ]
        refine wpAnyH_ready (rs := [4]) (by kernel_rfl) (by simp) ?_
        refine AllReadyH.cons rfl (fun KK hK => ?_) AllReadyH.nil
        go_simp
        refine (l1Int_il g ao n cap f [0, 100001, 50] AI1 q2 hn (by simp) (by simp) hI1 hgI1 hL.cn.cur).mono ?_
        rintro e v1 ⟨z1, rfl, -, hCc, hBc⟩
        replace hI1 := hI1.but hBc hgI1
        replace hI2 := hI2.but hBc hgI2
        replace hL := hL.but hCc hBc
        clear hCc hBc
        go_wp2_with fail
        refine hK.out _ _ trivial (fun hHeld => ?_)
        clear hK KK
        try simp only [Act.put, List.setIfInBounds_toArray, List.set_cons_zero, List.set_cons_succ]
        refine wpAnyH_ready (rs := [7]) (by kernel_rfl) (by simp) ?_
        refine AllReadyH.cons rfl (fun KK hK => ?_) AllReadyH.nil
        go_simp
        refine (l1Int_il g ao n cap f [-1, 1048576, 0] AI2 v1 hn (by simp) (by simp) hI2 hgI2 hL.cn.cur).mono ?_
        rintro e v2 ⟨z2, rfl, -, hCc, hBc⟩
        replace hI1 := hI1.but hBc hgI1
        replace hI2 := hI2.but hBc hgI2
        replace hL := hL.but hCc hBc
        clear hCc hBc
        go_wp2_with fail
        refine hK.out _ _ trivial (fun hHeld => ?_)
        clear hK KK
        try simp only [Act.put, List.setIfInBounds_toArray, List.set_cons_zero, List.set_cons_succ]
        refine' wpAnyH_take (i := 8) (v := _) rfl (by kernel_rfl) (by kernel_rfl) (by kernel_rfl) (fun _ _ _ h => h) (Or.inl ⟨by kernel_rfl, ?hfa21⟩) (by assumption) ?rfa21
        case hfa21 => intro W hW; go_simp; all_goals with_reducible rfl
        change wpAnyH _ _ _ _ _ _ _ (Act.put _ (some 24) _) _
        simp only [Act.put, List.setIfInBounds_toArray, List.set_cons_zero, List.set_cons_succ]
        refine wpAnyH_ready (rs := [9]) (by kernel_rfl) (by simp) ?_
        refine AllReadyH.cons rfl (fun KK hK => ?_) AllReadyH.nil
        go_simp
        have hbA : Below v2.heap.size v2 (v2.alloc (.cells #[.int .i64 z1, .int .i64 z2, .int .i64 0] 79)) := (Below.refl _ _).alloc (Nat.le_refl _) _
        have hcl := cells3New v2 z1 z2 0 79
        replace hL := hL.on hbA
        obtain ⟨A9, hA9⟩ := hidEx v2.heap.size
        rw [hA9.out] at hcl ⊢
        clear hbA
        refine hK.out _ _ trivial (fun hHeld => ?_)
        clear hK KK
        try simp only [Act.put, List.setIfInBounds_toArray, List.set_cons_zero, List.set_cons_succ]
        obtain ⟨q3, hq3⟩ := hidEx (v2.alloc (.cells #[.int .i64 z1, .int .i64 z2, .int .i64 0] 79))
        rw [hq3.out] at hL hcl ⊢
        refine wpAnyH_ready (rs := [10]) (by kernel_rfl) (by simp) ?_
        refine AllReadyH.cons rfl (fun KK hK => ?_) AllReadyH.nil
        rw [if_pos (by kernel_rfl)]
        refine wp_append_own _ (.tmp 17) (.tmp 25) 30 rfl B 79 jf (.agg #[.int .i64 0, .int .i64 0, .int .i64 0]) 3 24 Try.underlying30 hjf fz0 fz1 fz2 rfl (by decide) _ _ _ rfl hL.ms.fown ⟨A9, 0, none⟩ 1 1 [.int .i64 z1, .int .i64 z2, .int .i64 0] rfl rfl hcl (by intro u hu; simp at hu; rcases hu with rfl | rfl | rfl <;> rfl) (by unfold maxLen; omega) (by omega) hL.b ?_
        intro v6 wa hOa hgra hnila
        have hKa := keep_grown hL.ms.fown hgra
        obtain ⟨fb, fd, rfl⟩ := own_succK hOa
        obtain ⟨_, _, ee, hfd, -, -⟩ := own_rl hOa
        cases ee
        have hge : ∀ k, Value.ownBlock _ = some k → B ≤ k := fun k e => own_geK hL.ms.fown k e
        have hXa := hL.ms.x.block (hKa _ _ _ _ hL.ms.x (by decide))
        clear hcl hnila
        refine hK.out _ _ trivial (fun hHeld => ?_)
        clear hK KK
        change wpAnyH _ _ _ _ _ _ _ (Act.put _ (some 26) _) _
        try simp only [Act.put, List.setIfInBounds_toArray, List.set_cons_zero, List.set_cons_succ]
        refine' wpAnyH_take (i := 11) (v := _) rfl (by kernel_rfl) (by kernel_rfl) (by kernel_rfl) (fun _ _ _ h => h) (Or.inl ⟨by kernel_rfl, ?hfa22⟩) (by assumption) ?rfa22
        case hfa22 => intro W hW; go_simp; all_goals with_reducible rfl
        change wpAnyH _ _ _ _ _ _ _ (Act.put _ (some 27) _) _
        simp only [Act.put, List.setIfInBounds_toArray, List.set_cons_zero, List.set_cons_succ]
        refine wpAnyH_ready (rs := [12]) (by kernel_rfl) (by simp) ?_
        refine AllReadyH.cons rfl (fun KK hK => ?_) AllReadyH.nil
        have xa := hXa.cell 3
        have za := hXa.fz 3
        simp only [List.getElem?_cons_zero, List.getElem?_cons_succ] at xa
        have hL9 := hL.pushF hgra hge hKa ⟨z1, z2, 0⟩ hfew hfd (fun e => by cases e) hOa
        clear hXa hL hge hKa hgra hOa
        go_simp
        clear xa za
        refine hK.out _ _ trivial (fun hHeld => ?_)
        clear hK KK
        try simp only [Act.put, List.setIfInBounds_toArray, List.set_cons_zero, List.set_cons_succ]
        refine wpAnyH_done (by kernel_rfl) ?_ _
        exact HR2.out _ _ _ _ _ _ _ _ _ _ _ _ _ _ _ _ _ hL9
      ·
        go_simp
        refine (l1Int_il g ao n cap f [0, 100001, 50] AI1 q2 hn (by simp) (by simp) hI1 hgI1 hL.cn.cur).mono ?_
        rintro e v1 ⟨z1, rfl, -, hCc, hBc⟩
        replace hI1 := hI1.but hBc hgI1
        replace hI2 := hI2.but hBc hgI2
        replace hL := hL.but hCc hBc
        clear hCc hBc
        go_wp2_with fail
        refine hK.out _ _ trivial (fun hHeld => ?_)
        clear hK KK
        try simp only [Act.put, List.setIfInBounds_toArray, List.set_cons_zero, List.set_cons_succ]
        refine wpAnyH_ready (rs := [1, 7]) (by kernel_rfl) (by simp) ?_
        refine AllReadyH.cons rfl (fun KK hK => ?_) (AllReadyH.cons rfl (fun KK hK => ?_) AllReadyH.nil)
        ·
          have xl : v1.cell? ⟨X, 3, none⟩ = some (.slice fa D.faults.length fc) := hL.ms.x.cell 3
          go_simp
          clear xl
          refine hK.out _ _ trivial (fun hHeld => ?_)
          clear hK KK
          try simp only [Act.put, List.setIfInBounds_toArray, List.set_cons_zero, List.set_cons_succ]
          refine wpAnyH_ready (rs := [7]) (by kernel_rfl) (by simp) ?_
          refine AllReadyH.cons rfl (fun KK hK => ?_) AllReadyH.nil
          go_simp
          refine (l1Int_il g ao n cap f [-1, 1048576, 0] AI2 v1 hn (by simp) (by simp) hI2 hgI2 hL.cn.cur).mono ?_
          rintro e v2 ⟨z2, rfl, -, hCc, hBc⟩
          replace hI1 := hI1.but hBc hgI1
          replace hI2 := hI2.but hBc hgI2
          replace hL := hL.but hCc hBc
          clear hCc hBc
          go_wp2_with fail
          refine hK.out _ _ trivial (fun hHeld => ?_)
          clear hK KK
          try simp only [Act.put, List.setIfInBounds_toArray, List.set_cons_zero, List.set_cons_succ]
          refine' wpAnyH_take (i := 8) (v := _) rfl (by kernel_rfl) (by kernel_rfl) (by kernel_rfl) (fun _ _ _ h => h) (Or.inl ⟨by kernel_rfl, ?hfa23⟩) (by assumption) ?rfa23
          case hfa23 => intro W hW; go_simp; all_goals with_reducible rfl
          change wpAnyH _ _ _ _ _ _ _ (Act.put _ (some 24) _) _
          simp only [Act.put, List.setIfInBounds_toArray, List.set_cons_zero, List.set_cons_succ]
          refine wpAnyH_ready (rs := [9]) (by kernel_rfl) (by simp) ?_
          refine AllReadyH.cons rfl (fun KK hK => ?_) AllReadyH.nil
          go_simp
          have hbA : Below v2.heap.size v2 (v2.alloc (.cells #[.int .i64 z1, .int .i64 z2, .int .i64 0] 79)) := (Below.refl _ _).alloc (Nat.le_refl _) _
          have hcl := cells3New v2 z1 z2 0 79
          replace hL := hL.on hbA
          obtain ⟨A9, hA9⟩ := hidEx v2.heap.size
          rw [hA9.out] at hcl ⊢
          clear hbA
          refine hK.out _ _ trivial (fun hHeld => ?_)
          clear hK KK
          try simp only [Act.put, List.setIfInBounds_toArray, List.set_cons_zero, List.set_cons_succ]
          obtain ⟨q3, hq3⟩ := hidEx (v2.alloc (.cells #[.int .i64 z1, .int .i64 z2, .int .i64 0] 79))
          rw [hq3.out] at hL hcl ⊢
          refine wpAnyH_ready (rs := [10]) (by kernel_rfl) (by simp) ?_
          refine AllReadyH.cons rfl (fun KK hK => ?_) AllReadyH.nil
          rw [if_pos (by kernel_rfl)]
          refine wp_append_own _ (.tmp 17) (.tmp 25) 30 rfl B 79 jf (.agg #[.int .i64 0, .int .i64 0, .int .i64 0]) 3 24 Try.underlying30 hjf fz0 fz1 fz2 rfl (by decide) _ _ _ rfl hL.ms.fown ⟨A9, 0, none⟩ 1 1 [.int .i64 z1, .int .i64 z2, .int .i64 0] rfl rfl hcl (by intro u hu; simp at hu; rcases hu with rfl | rfl | rfl <;> rfl) (by unfold maxLen; omega) (by omega) hL.b ?_
          intro v6 wa hOa hgra hnila
          have hKa := keep_grown hL.ms.fown hgra
          obtain ⟨fb, fd, rfl⟩ := own_succK hOa
          obtain ⟨_, _, ee, hfd, -, -⟩ := own_rl hOa
          cases ee
          have hge : ∀ k, Value.ownBlock _ = some k → B ≤ k := fun k e => own_geK hL.ms.fown k e
          have hXa := hL.ms.x.block (hKa _ _ _ _ hL.ms.x (by decide))
          clear hcl hnila
          refine hK.out _ _ trivial (fun hHeld => ?_)
          clear hK KK
          change wpAnyH _ _ _ _ _ _ _ (Act.put _ (some 26) _) _
          try simp only [Act.put, List.setIfInBounds_toArray, List.set_cons_zero, List.set_cons_succ]
          refine' wpAnyH_take (i := 11) (v := _) rfl (by kernel_rfl) (by kernel_rfl) (by kernel_rfl) (fun _ _ _ h => h) (Or.inl ⟨by kernel_rfl, ?hfa24⟩) (by assumption) ?rfa24
          case hfa24 => intro W hW; go_simp; all_goals with_reducible rfl
          change wpAnyH _ _ _ _ _ _ _ (Act.put _ (some 27) _) _
          simp only [Act.put, List.setIfInBounds_toArray, List.set_cons_zero, List.set_cons_succ]
          refine wpAnyH_ready (rs := [12]) (by kernel_rfl) (by simp) ?_
          refine AllReadyH.cons rfl (fun KK hK => ?_) AllReadyH.nil
          have xa := hXa.cell 3
          have za := hXa.fz 3
          simp only [List.getElem?_cons_zero, List.getElem?_cons_succ] at xa
          have hL9 := hL.pushF hgra hge hKa ⟨z1, z2, 0⟩ hfew hfd (fun e => by cases e) hOa
          clear hXa hL hge hKa hgra hOa
          go_simp
          clear xa za
          refine hK.out _ _ trivial (fun hHeld => ?_)
          clear hK KK
          try simp only [Act.put, List.setIfInBounds_toArray, List.set_cons_zero, List.set_cons_succ]
          refine wpAnyH_done (by kernel_rfl) ?_ _
          exact HR2.out _ _ _ _ _ _ _ _ _ _ _ _ _ _ _ _ _ hL9
        ·
          go_simp
          refine (l1Int_il g ao n cap f [-1, 1048576, 0] AI2 v1 hn (by simp) (by simp) hI2 hgI2 hL.cn.cur).mono ?_
          rintro e v2 ⟨z2, rfl, -, hCc, hBc⟩
          replace hI1 := hI1.but hBc hgI1
          replace hI2 := hI2.but hBc hgI2
          replace hL := hL.but hCc hBc
          clear hCc hBc
          go_wp2_with fail
          refine hK.out _ _ trivial (fun hHeld => ?_)
          clear hK KK
          try simp only [Act.put, List.setIfInBounds_toArray, List.set_cons_zero, List.set_cons_succ]
          refine' wpAnyH_take (i := 8) (v := _) rfl (by kernel_rfl) (by kernel_rfl) (by kernel_rfl) (fun _ _ _ h => h) (Or.inl ⟨by kernel_rfl, ?hfa25⟩) (by assumption) ?rfa25
          case hfa25 => intro W hW; go_simp; all_goals with_reducible rfl
          change wpAnyH _ _ _ _ _ _ _ (Act.put _ (some 24) _) _
          simp only [Act.put, List.setIfInBounds_toArray, List.set_cons_zero, List.set_cons_succ]
          refine wpAnyH_ready (rs := [1, 9]) (by kernel_rfl) (by simp) ?_
          refine AllReadyH.cons rfl (fun KK hK => ?_) (AllReadyH.cons rfl (fun KK hK => ?_) AllReadyH.nil)
          ·
            have xl : v2.cell? ⟨X, 3, none⟩ = some (.slice fa D.faults.length fc) := hL.ms.x.cell 3
            go_simp
            clear xl
            refine hK.out _ _ trivial (fun hHeld => ?_)
            clear hK KK
            try simp only [Act.put, List.setIfInBounds_toArray, List.set_cons_zero, List.set_cons_succ]
            refine wpAnyH_ready (rs := [9]) (by kernel_rfl) (by simp) ?_
            refine AllReadyH.cons rfl (fun KK hK => ?_) AllReadyH.nil
            go_simp
            have hbA : Below v2.heap.size v2 (v2.alloc (.cells #[.int .i64 z1, .int .i64 z2, .int .i64 0] 79)) := (Below.refl _ _).alloc (Nat.le_refl _) _
            have hcl := cells3New v2 z1 z2 0 79
            replace hL := hL.on hbA
            obtain ⟨A9, hA9⟩ := hidEx v2.heap.size
            rw [hA9.out] at hcl ⊢
            clear hbA
            refine hK.out _ _ trivial (fun hHeld => ?_)
            clear hK KK
            try simp only [Act.put, List.setIfInBounds_toArray, List.set_cons_zero, List.set_cons_succ]
            obtain ⟨q3, hq3⟩ := hidEx (v2.alloc (.cells #[.int .i64 z1, .int .i64 z2, .int .i64 0] 79))
            rw [hq3.out] at hL hcl ⊢
            refine wpAnyH_ready (rs := [10]) (by kernel_rfl) (by simp) ?_
            refine AllReadyH.cons rfl (fun KK hK => ?_) AllReadyH.nil
            rw [if_pos (by kernel_rfl)]
            refine wp_append_own _ (.tmp 17) (.tmp 25) 30 rfl B 79 jf (.agg #[.int .i64 0, .int .i64 0, .int .i64 0]) 3 24 Try.underlying30 hjf fz0 fz1 fz2 rfl (by decide) _ _ _ rfl hL.ms.fown ⟨A9, 0, none⟩ 1 1 [.int .i64 z1, .int .i64 z2, .int .i64 0] rfl rfl hcl (by intro u hu; simp at hu; rcases hu with rfl | rfl | rfl <;> rfl) (by unfold maxLen; omega) (by omega) hL.b ?_
            intro v6 wa hOa hgra hnila
            have hKa := keep_grown hL.ms.fown hgra
            obtain ⟨fb, fd, rfl⟩ := own_succK hOa
            obtain ⟨_, _, ee, hfd, -, -⟩ := own_rl hOa
            cases ee
            have hge : ∀ k, Value.ownBlock _ = some k → B ≤ k := fun k e => own_geK hL.ms.fown k e
            have hXa := hL.ms.x.block (hKa _ _ _ _ hL.ms.x (by decide))
            clear hcl hnila
            refine hK.out _ _ trivial (fun hHeld => ?_)
            clear hK KK
            change wpAnyH _ _ _ _ _ _ _ (Act.put _ (some 26) _) _
            try simp only [Act.put, List.setIfInBounds_toArray, List.set_cons_zero, List.set_cons_succ]
            refine' wpAnyH_take (i := 11) (v := _) rfl (by kernel_rfl) (by kernel_rfl) (by kernel_rfl) (fun _ _ _ h => h) (Or.inl ⟨by kernel_rfl, ?hfa26⟩) (by assumption) ?rfa26
            case hfa26 => intro W hW; go_simp; all_goals with_reducible rfl
            change wpAnyH _ _ _ _ _ _ _ (Act.put _ (some 27) _) _
            simp only [Act.put, List.setIfInBounds_toArray, List.set_cons_zero, List.set_cons_succ]
            refine wpAnyH_ready (rs := [12]) (by kernel_rfl) (by simp) ?_
            refine AllReadyH.cons rfl (fun KK hK => ?_) AllReadyH.nil
            have xa := hXa.cell 3
            have za := hXa.fz 3
            simp only [List.getElem?_cons_zero, List.getElem?_cons_succ] at xa
            have hL9 := hL.pushF hgra hge hKa ⟨z1, z2, 0⟩ hfew hfd (fun e => by cases e) hOa
            clear hXa hL hge hKa hgra hOa
            go_simp
            clear xa za
            refine hK.out _ _ trivial (fun hHeld => ?_)
            clear hK KK
            try simp only [Act.put, List.setIfInBounds_toArray, List.set_cons_zero, List.set_cons_succ]
            refine wpAnyH_done (by kernel_rfl) ?_ _
            exact HR2.out _ _ _ _ _ _ _ _ _ _ _ _ _ _ _ _ _ hL9
          ·
            go_simp
            have hbA : Below v2.heap.size v2 (v2.alloc (.cells #[.int .i64 z1, .int .i64 z2, .int .i64 0] 79)) := (Below.refl _ _).alloc (Nat.le_refl _) _
            have hcl := cells3New v2 z1 z2 0 79
            replace hL := hL.on hbA
            obtain ⟨A9, hA9⟩ := hidEx v2.heap.size
            rw [hA9.out] at hcl ⊢
            clear hbA
            refine hK.out _ _ trivial (fun hHeld => ?_)
            clear hK KK
            try simp only [Act.put, List.setIfInBounds_toArray, List.set_cons_zero, List.set_cons_succ]
            obtain ⟨q3, hq3⟩ := hidEx (v2.alloc (.cells #[.int .i64 z1, .int .i64 z2, .int .i64 0] 79))
            rw [hq3.out] at hL hcl ⊢
            refine wpAnyH_ready (rs := [1]) (by kernel_rfl) (by simp) ?_
            refine AllReadyH.cons rfl (fun KK hK => ?_) AllReadyH.nil
            have xl : q3.cell? ⟨X, 3, none⟩ = some (.slice fa D.faults.length fc) := hL.ms.x.cell 3
            go_simp
            clear xl
            refine hK.out _ _ trivial (fun hHeld => ?_)
            clear hK KK
            try simp only [Act.put, List.setIfInBounds_toArray, List.set_cons_zero, List.set_cons_succ]
            refine wpAnyH_ready (rs := [10]) (by kernel_rfl) (by simp) ?_
            refine AllReadyH.cons rfl (fun KK hK => ?_) AllReadyH.nil
            rw [if_pos (by kernel_rfl)]
            refine wp_append_own _ (.tmp 17) (.tmp 25) 30 rfl B 79 jf (.agg #[.int .i64 0, .int .i64 0, .int .i64 0]) 3 24 Try.underlying30 hjf fz0 fz1 fz2 rfl (by decide) _ _ _ rfl hL.ms.fown ⟨A9, 0, none⟩ 1 1 [.int .i64 z1, .int .i64 z2, .int .i64 0] rfl rfl hcl (by intro u hu; simp at hu; rcases hu with rfl | rfl | rfl <;> rfl) (by unfold maxLen; omega) (by omega) hL.b ?_
            intro v6 wa hOa hgra hnila
            have hKa := keep_grown hL.ms.fown hgra
            obtain ⟨fb, fd, rfl⟩ := own_succK hOa
            obtain ⟨_, _, ee, hfd, -, -⟩ := own_rl hOa
            cases ee
            have hge : ∀ k, Value.ownBlock _ = some k → B ≤ k := fun k e => own_geK hL.ms.fown k e
            have hXa := hL.ms.x.block (hKa _ _ _ _ hL.ms.x (by decide))
            clear hcl hnila
            refine hK.out _ _ trivial (fun hHeld => ?_)
            clear hK KK
            change wpAnyH _ _ _ _ _ _ _ (Act.put _ (some 26) _) _
            try simp only [Act.put, List.setIfInBounds_toArray, List.set_cons_zero, List.set_cons_succ]
            refine' wpAnyH_take (i := 11) (v := _) rfl (by kernel_rfl) (by kernel_rfl) (by kernel_rfl) (fun _ _ _ h => h) (Or.inl ⟨by kernel_rfl, ?hfa27⟩) (by assumption) ?rfa27
            case hfa27 => intro W hW; go_simp; all_goals with_reducible rfl
            change wpAnyH _ _ _ _ _ _ _ (Act.put _ (some 27) _) _
            simp only [Act.put, List.setIfInBounds_toArray, List.set_cons_zero, List.set_cons_succ]
            refine wpAnyH_ready (rs := [12]) (by kernel_rfl) (by simp) ?_
            refine AllReadyH.cons rfl (fun KK hK => ?_) AllReadyH.nil
            have xa := hXa.cell 3
            have za := hXa.fz 3
            simp only [List.getElem?_cons_zero, List.getElem?_cons_succ] at xa
            have hL9 := hL.pushF hgra hge hKa ⟨z1, z2, 0⟩ hfew hfd (fun e => by cases e) hOa
            clear hXa hL hge hKa hgra hOa
            go_simp
            clear xa za
            refine hK.out _ _ trivial (fun hHeld => ?_)
            clear hK KK
            try simp only [Act.put, List.setIfInBounds_toArray, List.set_cons_zero, List.set_cons_succ]
            refine wpAnyH_done (by kernel_rfl) ?_ _
            exact HR2.out _ _ _ _ _ _ _ _ _ _ _ _ _ _ _ _ _ hL9
  ·
    go_simp
    have hbA : Below wd.heap.size wd (wd.alloc (.cells #[.int .i64 (-1), .int .i64 1048576, .int .i64 0] 3)) := (Below.refl _ _).alloc (Nat.le_refl _) _
    have hI2 := IL.new wd [-1, 1048576, 0] #[.int .i64 (-1), .int .i64 1048576, .int .i64 0] rfl
    have hgI2 : wd.heap.size ≠ g := by have := hL.cn.lt; have := hL.cn.size; omega
    replace hL := hL.on hbA
    obtain ⟨AI2, hAI2⟩ := hidEx wd.heap.size
    rw [hAI2.out] at hI2 hgI2 ⊢
    clear hbA
    refine hK.out _ _ trivial (fun hHeld => ?_)
    clear hK KK
    try simp only [Act.put, List.setIfInBounds_toArray, List.set_cons_zero, List.set_cons_succ]
    obtain ⟨q1, hq1⟩ := hidEx (wd.alloc (.cells #[.int .i64 (-1), .int .i64 1048576, .int .i64 0] 3))
    rw [hq1.out] at hL hI2 ⊢
    refine wpAnyH_ready (rs := [1, 3]) (by kernel_rfl) (by simp) ?_
    refine AllReadyH.cons rfl (fun KK hK => ?_) (AllReadyH.cons rfl (fun KK hK => ?_) AllReadyH.nil)
    ·
      have xl : q1.cell? ⟨X, 3, none⟩ = some (.slice fa D.faults.length fc) := hL.ms.x.cell 3
      go_simp
      clear xl
      refine hK.out _ _ trivial (fun hHeld => ?_)
      clear hK KK
      try simp only [Act.put, List.setIfInBounds_toArray, List.set_cons_zero, List.set_cons_succ]
      refine wpAnyH_ready (rs := [3]) (by kernel_rfl) (by simp) ?_
      refine AllReadyH.cons rfl (fun KK hK => ?_) AllReadyH.nil
      go_simp
      have hbA : Below q1.heap.size q1 (q1.alloc (.cells #[.int .i64 0, .int .i64 100001, .int .i64 50] 3)) := (Below.refl _ _).alloc (Nat.le_refl _) _
      have hI1 := IL.new q1 [0, 100001, 50] #[.int .i64 0, .int .i64 100001, .int .i64 50] rfl
      have hgI1 : q1.heap.size ≠ g := by have := hL.cn.lt; have := hL.cn.size; omega
      replace hI2 := hI2.below hbA
      replace hL := hL.on hbA
      obtain ⟨AI1, hAI1⟩ := hidEx q1.heap.size
      rw [hAI1.out] at hI1 hgI1 ⊢
      clear hbA
      refine hK.out _ _ trivial (fun hHeld => ?_)
      clear hK KK
      try simp only [Act.put, List.setIfInBounds_toArray, List.set_cons_zero, List.set_cons_succ]
      obtain ⟨q2, hq2⟩ := hidEx (q1.alloc (.cells #[.int .i64 0, .int .i64 100001, .int .i64 50] 3))
      rw [hq2.out] at hL hI1 hI2 ⊢
      refine wpAnyH_ready (rs := [4]) (by kernel_rfl) (by simp) ?_
      refine AllReadyH.cons rfl (fun KK hK => ?_) AllReadyH.nil
      go_simp
      refine (l1Int_il g ao n cap f [0, 100001, 50] AI1 q2 hn (by simp) (by simp) hI1 hgI1 hL.cn.cur).mono ?_
      rintro e v1 ⟨z1, rfl, -, hCc, hBc⟩
      replace hI1 := hI1.but hBc hgI1
      replace hI2 := hI2.but hBc hgI2
      replace hL := hL.but hCc hBc
      clear hCc hBc
      go_wp2_with fail
      refine hK.out _ _ trivial (fun hHeld => ?_)
      clear hK KK
      try simp only [Act.put, List.setIfInBounds_toArray, List.set_cons_zero, List.set_cons_succ]
      refine wpAnyH_ready (rs := [7]) (by kernel_rfl) (by simp) ?_
      refine AllReadyH.cons rfl (fun KK hK => ?_) AllReadyH.nil
      go_simp
      refine (l1Int_il g ao n cap f [-1, 1048576, 0] AI2 v1 hn (by simp) (by simp) hI2 hgI2 hL.cn.cur).mono ?_
      rintro e v2 ⟨z2, rfl, -, hCc, hBc⟩
      replace hI1 := hI1.but hBc hgI1
      replace hI2 := hI2.but hBc hgI2
      replace hL := hL.but hCc hBc
      clear hCc hBc
      go_wp2_with fail
      refine hK.out _ _ trivial (fun hHeld => ?_)
      clear hK KK
      try simp only [Act.put, List.setIfInBounds_toArray, List.set_cons_zero, List.set_cons_succ]
      refine' wpAnyH_take (i := 8) (v := _) rfl (by kernel_rfl) (by kernel_rfl) (by kernel_rfl) (fun _ _ _ h => h) (Or.inl ⟨by kernel_rfl, ?hfa28⟩) (by assumption) ?rfa28
      case hfa28 => intro W hW; go_simp; all_goals with_reducible rfl
      change wpAnyH _ _ _ _ _ _ _ (Act.put _ (some 24) _) _
      simp only [Act.put, List.setIfInBounds_toArray, List.set_cons_zero, List.set_cons_succ]
      refine wpAnyH_ready (rs := [9]) (by kernel_rfl) (by simp) ?_
      refine AllReadyH.cons rfl (fun KK hK => ?_) AllReadyH.nil
      go_simp
      have hbA : Below v2.heap.size v2 (v2.alloc (.cells #[.int .i64 z1, .int .i64 z2, .int .i64 0] 79)) := (Below.refl _ _).alloc (Nat.le_refl _) _
      have hcl := cells3New v2 z1 z2 0 79
      replace hL := hL.on hbA
      obtain ⟨A9, hA9⟩ := hidEx v2.heap.size
      rw [hA9.out] at hcl ⊢
      clear hbA
      refine hK.out _ _ trivial (fun hHeld => ?_)
      clear hK KK
      try simp only [Act.put, List.setIfInBounds_toArray, List.set_cons_zero, List.set_cons_succ]
      obtain ⟨q3, hq3⟩ := hidEx (v2.alloc (.cells #[.int .i64 z1, .int .i64 z2, .int .i64 0] 79))
      rw [hq3.out] at hL hcl ⊢
      refine wpAnyH_ready (rs := [10]) (by kernel_rfl) (by simp) ?_
      refine AllReadyH.cons rfl (fun KK hK => ?_) AllReadyH.nil
      rw [if_pos (by kernel_rfl)]
      refine wp_append_own _ (.tmp 17) (.tmp 25) 30 rfl B 79 jf (.agg #[.int .i64 0, .int .i64 0, .int .i64 0]) 3 24 Try.underlying30 hjf fz0 fz1 fz2 rfl (by decide) _ _ _ rfl hL.ms.fown ⟨A9, 0, none⟩ 1 1 [.int .i64 z1, .int .i64 z2, .int .i64 0] rfl rfl hcl (by intro u hu; simp at hu; rcases hu with rfl | rfl | rfl <;> rfl) (by unfold maxLen; omega) (by omega) hL.b ?_
      intro v6 wa hOa hgra hnila
      have hKa := keep_grown hL.ms.fown hgra
      obtain ⟨fb, fd, rfl⟩ := own_succK hOa
      obtain ⟨_, _, ee, hfd, -, -⟩ := own_rl hOa
      cases ee
      have hge : ∀ k, Value.ownBlock _ = some k → B ≤ k := fun k e => own_geK hL.ms.fown k e
      have hXa := hL.ms.x.block (hKa _ _ _ _ hL.ms.x (by decide))
      clear hcl hnila
      refine hK.out _ _ trivial (fun hHeld => ?_)
      clear hK KK
      change wpAnyH _ _ _ _ _ _ _ (Act.put _ (some 26) _) _
      try simp only [Act.put, List.setIfInBounds_toArray, List.set_cons_zero, List.set_cons_succ]
      refine' wpAnyH_take (i := 11) (v := _) rfl (by kernel_rfl) (by kernel_rfl) (by kernel_rfl) (fun _ _ _ h => h) (Or.inl ⟨by kernel_rfl, ?hfa29⟩) (by assumption) ?rfa29
      case hfa29 => intro W hW; go_simp; all_goals with_reducible rfl
      change wpAnyH _ _ _ _ _ _ _ (Act.put _ (some 27) _) _
      simp only [Act.put, List.setIfInBounds_toArray, List.set_cons_zero, List.set_cons_succ]
      refine wpAnyH_ready (rs := [12]) (by kernel_rfl) (by simp) ?_
      refine AllReadyH.cons rfl (fun KK hK => ?_) AllReadyH.nil
      have xa := hXa.cell 3
      have za := hXa.fz 3
      simp only [List.getElem?_cons_zero, List.getElem?_cons_succ] at xa
      have hL9 := hL.pushF hgra hge hKa ⟨z1, z2, 0⟩ hfew hfd (fun e => by cases e) hOa
      clear hXa hL hge hKa hgra hOa
      go_simp
      clear xa za
      refine hK.out _ _ trivial (fun hHeld => ?_)
      clear hK KK
      try simp only [Act.put, List.setIfInBounds_toArray, List.set_cons_zero, List.set_cons_succ]
      refine wpAnyH_done (by kernel_rfl) ?_ _
      exact HR2.out _ _ _ _ _ _ _ _ _ _ _ _ _ _ _ _ _ hL9
    ·
      go_simp
      have hbA : Below q1.heap.size q1 (q1.alloc (.cells #[.int .i64 0, .int .i64 100001, .int .i64 50] 3)) := (Below.refl _ _).alloc (Nat.le_refl _) _
      have hI1 := IL.new q1 [0, 100001, 50] #[.int .i64 0, .int .i64 100001, .int .i64 50] rfl
      have hgI1 : q1.heap.size ≠ g := by have := hL.cn.lt; have := hL.cn.size; omega
      replace hI2 := hI2.below hbA
      replace hL := hL.on hbA
      obtain ⟨AI1, hAI1⟩ := hidEx q1.heap.size
      rw [hAI1.out] at hI1 hgI1 ⊢
      clear hbA
      refine hK.out _ _ trivial (fun hHeld => ?_)
      clear hK KK
      try simp only [Act.put, List.setIfInBounds_toArray, List.set_cons_zero, List.set_cons_succ]
      obtain ⟨q2, hq2⟩ := hidEx (q1.alloc (.cells #[.int .i64 0, .int .i64 100001, .int .i64 50] 3))
      rw [hq2.out] at hL hI1 hI2 ⊢
      refine wpAnyH_ready (rs := [1, 4]) (by kernel_rfl) (by simp) ?_
      refine AllReadyH.cons rfl (fun KK hK => ?_) (AllReadyH.cons rfl (fun KK hK => ?_) AllReadyH.nil)
      ·
        have xl : q2.cell? ⟨X, 3, none⟩ = some (.slice fa D.faults.length fc) := hL.ms.x.cell 3
        go_simp
        clear xl
        refine hK.out _ _ trivial (fun hHeld => ?_)
        clear hK KK
        try simp only [Act.put, List.setIfInBounds_toArray, List.set_cons_zero, List.set_cons_succ]
        refine wpAnyH_ready (rs := [4]) (by kernel_rfl) (by simp) ?_
        refine AllReadyH.cons rfl (fun KK hK => ?_) AllReadyH.nil
        go_simp
        refine (l1Int_il g ao n cap f [0, 100001, 50] AI1 q2 hn (by simp) (by simp) hI1 hgI1 hL.cn.cur).mono ?_
        rintro e v1 ⟨z1, rfl, -, hCc, hBc⟩
        replace hI1 := hI1.but hBc hgI1
        replace hI2 := hI2.but hBc hgI2
        replace hL := hL.but hCc hBc
        clear hCc hBc
        go_wp2_with fail
        refine hK.out _ _ trivial (fun hHeld => ?_)
        clear hK KK
        try simp only [Act.put, List.setIfInBounds_toArray, List.set_cons_zero, List.set_cons_succ]
        refine wpAnyH_ready (rs := [7]) (by kernel_rfl) (by simp) ?_
        refine AllReadyH.cons rfl (fun KK hK => ?_) AllReadyH.nil
        go_simp
        refine (l1Int_il g ao n cap f [-1, 1048576, 0] AI2 v1 hn (by simp) (by simp) hI2 hgI2 hL.cn.cur).mono ?_
        rintro e v2 ⟨z2, rfl, -, hCc, hBc⟩
        replace hI1 := hI1.but hBc hgI1
        replace hI2 := hI2.but hBc hgI2
        replace hL := hL.but hCc hBc
        clear hCc hBc
        go_wp2_with fail
        refine hK.out _ _ trivial (fun hHeld => ?_)
        clear hK KK
        try simp only [Act.put, List.setIfInBounds_toArray, List.set_cons_zero, List.set_cons_succ]
        refine' wpAnyH_take (i := 8) (v := _) rfl (by kernel_rfl) (by kernel_rfl) (by kernel_rfl) (fun _ _ _ h => h) (Or.inl ⟨by kernel_rfl, ?hfa30⟩) (by assumption) ?rfa30
        case hfa30 => intro W hW; go_simp; all_goals with_reducible rfl
        change wpAnyH _ _ _ _ _ _ _ (Act.put _ (some 24) _) _
        simp only [Act.put, List.setIfInBounds_toArray, List.set_cons_zero, List.set_cons_succ]
        refine wpAnyH_ready (rs := [9]) (by kernel_rfl) (by simp) ?_
        refine AllReadyH.cons rfl (fun KK hK => ?_) AllReadyH.nil
        go_simp
        have hbA : Below v2.heap.size v2 (v2.alloc (.cells #[.int .i64 z1, .int .i64 z2, .int .i64 0] 79)) := (Below.refl _ _).alloc (Nat.le_refl _) _
        have hcl := cells3New v2 z1 z2 0 79
        replace hL := hL.on hbA
        obtain ⟨A9, hA9⟩ := hidEx v2.heap.size
        rw [hA9.out] at hcl ⊢
        clear hbA
        refine hK.out _ _ trivial (fun hHeld => ?_)
        clear hK KK
        try simp only [Act.put, List.setIfInBounds_toArray, List.set_cons_zero, List.set_cons_succ]
        obtain ⟨q3, hq3⟩ := hidEx (v2.alloc (.cells #[.int .i64 z1, .int .i64 z2, .int .i64 0] 79))
        rw [hq3.out] at hL hcl ⊢
        refine wpAnyH_ready (rs := [10]) (by kernel_rfl) (by simp) ?_
        refine AllReadyH.cons rfl (fun KK hK => ?_) AllReadyH.nil
        rw [if_pos (by kernel_rfl)]
        refine wp_append_own _ (.tmp 17) (.tmp 25) 30 rfl B 79 jf (.agg #[.int .i64 0, .int .i64 0, .int .i64 0]) 3 24 Try.underlying30 hjf fz0 fz1 fz2 rfl (by decide) _ _ _ rfl hL.ms.fown ⟨A9, 0, none⟩ 1 1 [.int .i64 z1, .int .i64 z2, .int .i64 0] rfl rfl hcl (by intro u hu; simp at hu; rcases hu with rfl | rfl | rfl <;> rfl) (by unfold maxLen; omega) (by omega) hL.b ?_
        intro v6 wa hOa hgra hnila
        have hKa := keep_grown hL.ms.fown hgra
        obtain ⟨fb, fd, rfl⟩ := own_succK hOa
        obtain ⟨_, _, ee, hfd, -, -⟩ := own_rl hOa
        cases ee
        have hge : ∀ k, Value.ownBlock _ = some k → B ≤ k := fun k e => own_geK hL.ms.fown k e
        have hXa := hL.ms.x.block (hKa _ _ _ _ hL.ms.x (by decide))
        clear hcl hnila
        refine hK.out _ _ trivial (fun hHeld => ?_)
        clear hK KK
        change wpAnyH _ _ _ _ _ _ _ (Act.put _ (some 26) _) _
        try simp only [Act.put, List.setIfInBounds_toArray, List.set_cons_zero, List.set_cons_succ]
        refine' wpAnyH_take (i := 11) (v := _) rfl (by kernel_rfl) (by kernel_rfl) (by kernel_rfl) (fun _ _ _ h => h) (Or.inl ⟨by kernel_rfl, ?hfa31⟩) (by assumption) ?rfa31
        case hfa31 => intro W hW; go_simp; all_goals with_reducible rfl
        change wpAnyH _ _ _ _ _ _ _ (Act.put _ (some 27) _) _
        simp only [Act.put, List.setIfInBounds_toArray, List.set_cons_zero, List.set_cons_succ]
        refine wpAnyH_ready (rs := [12]) (by kernel_rfl) (by simp) ?_
        refine AllReadyH.cons rfl (fun KK hK => ?_) AllReadyH.nil
        have xa := hXa.cell 3
        have za := hXa.fz 3
        simp only [List.getElem?_cons_zero, List.getElem?_cons_succ] at xa
        have hL9 := hL.pushF hgra hge hKa ⟨z1, z2, 0⟩ hfew hfd (fun e => by cases e) hOa
        clear hXa hL hge hKa hgra hOa
        go_simp
        clear xa za
        refine hK.out _ _ trivial (fun hHeld => ?_)
        clear hK KK
        try simp only [Act.put, List.setIfInBounds_toArray, List.set_cons_zero, List.set_cons_succ]
        refine wpAnyH_done (by kernel_rfl) ?_ _
        exact HR2.out _ _ _ _ _ _ _ _ _ _ _ _ _ _ _ _ _ hL9
      ·
        go_simp
        refine (l1Int_il g ao n cap f [0, 100001, 50] AI1 q2 hn (by simp) (by simp) hI1 hgI1 hL.cn.cur).mono ?_
        rintro e v1 ⟨z1, rfl, -, hCc, hBc⟩
        replace hI1 := hI1.but hBc hgI1
        replace hI2 := hI2.but hBc hgI2
        replace hL := hL.but hCc hBc
        clear hCc hBc
        go_wp2_with fail
        refine hK.out _ _ trivial (fun hHeld => ?_)
        clear hK KK
        try simp only [Act.put, List.setIfInBounds_toArray, List.set_cons_zero, List.set_cons_succ]
        refine wpAnyH_ready (rs := [1, 7]) (by kernel_rfl) (by simp) ?_
        refine AllReadyH.cons rfl (fun KK hK => ?_) (AllReadyH.cons rfl (fun KK hK => ?_) AllReadyH.nil)
        ·
          have xl : v1.cell? ⟨X, 3, none⟩ = some (.slice fa D.faults.length fc) := hL.ms.x.cell 3
          go_simp
          clear xl
          refine hK.out _ _ trivial (fun hHeld => ?_)
          clear hK KK
          try simp only [Act.put, List.setIfInBounds_toArray, List.set_cons_zero, List.set_cons_succ]
          refine wpAnyH_ready (rs := [7]) (by kernel_rfl) (by simp) ?_
          refine AllReadyH.cons rfl (fun KK hK => ?_) AllReadyH.nil
          go_simp
          refine (l1Int_il g ao n cap f [-1, 1048576, 0] AI2 v1 hn (by simp) (by simp) hI2 hgI2 hL.cn.cur).mono ?_
          rintro e v2 ⟨z2, rfl, -, hCc, hBc⟩
          replace hI1 := hI1.but hBc hgI1
          replace hI2 := hI2.but hBc hgI2
          replace hL := hL.but hCc hBc
          clear hCc hBc
          go_wp2_with fail
          refine hK.out _ _ trivial (fun hHeld => ?_)
          clear hK KK
          try simp only [Act.put, List.setIfInBounds_toArray, List.set_cons_zero, List.set_cons_succ]
          refine' wpAnyH_take (i := 8) (v := _) rfl (by kernel_rfl) (by kernel_rfl) (by kernel_rfl) (fun _ _ _ h => h) (Or.inl ⟨by kernel_rfl, ?hfa32⟩) (by assumption) ?rfa32
          case hfa32 => intro W hW; go_simp; all_goals with_reducible rfl
          change wpAnyH _ _ _ _ _ _ _ (Act.put _ (some 24) _) _
          simp only [Act.put, List.setIfInBounds_toArray, List.set_cons_zero, List.set_cons_succ]
          refine wpAnyH_ready (rs := [9]) (by kernel_rfl) (by simp) ?_
          refine AllReadyH.cons rfl (fun KK hK => ?_) AllReadyH.nil
          go_simp
          have hbA : Below v2.heap.size v2 (v2.alloc (.cells #[.int .i64 z1, .int .i64 z2, .int .i64 0] 79)) := (Below.refl _ _).alloc (Nat.le_refl _) _
          have hcl := cells3New v2 z1 z2 0 79
          replace hL := hL.on hbA
          obtain ⟨A9, hA9⟩ := hidEx v2.heap.size
          rw [hA9.out] at hcl ⊢
          clear hbA
          refine hK.out _ _ trivial (fun hHeld => ?_)
          clear hK KK
          try simp only [Act.put, List.setIfInBounds_toArray, List.set_cons_zero, List.set_cons_succ]
          obtain ⟨q3, hq3⟩ := hidEx (v2.alloc (.cells #[.int .i64 z1, .int .i64 z2, .int .i64 0] 79))
          rw [hq3.out] at hL hcl ⊢
          refine wpAnyH_ready (rs := [10]) (by kernel_rfl) (by simp) ?_
          refine AllReadyH.cons rfl (fun KK hK => ?_) AllReadyH.nil
          rw [if_pos (by kernel_rfl)]
          refine wp_append_own _ (.tmp 17) (.tmp 25) 30 rfl B 79 jf (.agg #[.int .i64 0, .int .i64 0, .int .i64 0]) 3 24 Try.underlying30 hjf fz0 fz1 fz2 rfl (by decide) _ _ _ rfl hL.ms.fown ⟨A9, 0, none⟩ 1 1 [.int .i64 z1, .int .i64 z2, .int .i64 0] rfl rfl hcl (by intro u hu; simp at hu; rcases hu with rfl | rfl | rfl <;> rfl) (by unfold maxLen; omega) (by omega) hL.b ?_
          intro v6 wa hOa hgra hnila
          have hKa := keep_grown hL.ms.fown hgra
          obtain ⟨fb, fd, rfl⟩ := own_succK hOa
          obtain ⟨_, _, ee, hfd, -, -⟩ := own_rl hOa
          cases ee
          have hge : ∀ k, Value.ownBlock _ = some k → B ≤ k := fun k e => own_geK hL.ms.fown k e
          have hXa := hL.ms.x.block (hKa _ _ _ _ hL.ms.x (by decide))
          clear hcl hnila
          refine hK.out _ _ trivial (fun hHeld => ?_)
          clear hK KK
          change wpAnyH _ _ _ _ _ _ _ (Act.put _ (some 26) _) _
          try simp only [Act.put, List.setIfInBounds_toArray, List.set_cons_zero, List.set_cons_succ]
          refine' wpAnyH_take (i := 11) (v := _) rfl (by kernel_rfl) (by kernel_rfl) (by kernel_rfl) (fun _ _ _ h => h) (Or.inl ⟨by kernel_rfl, ?hfa33⟩) (by assumption) ?rfa33
          case hfa33 => intro W hW; go_simp; all_goals with_reducible rfl
          change wpAnyH _ _ _ _ _ _ _ (Act.put _ (some 27) _) _
          simp only [Act.put, List.setIfInBounds_toArray, List.set_cons_zero, List.set_cons_succ]
          refine wpAnyH_ready (rs := [12]) (by kernel_rfl) (by simp) ?_
          refine AllReadyH.cons rfl (fun KK hK => ?_) AllReadyH.nil
          have xa := hXa.cell 3
          have za := hXa.fz 3
          simp only [List.getElem?_cons_zero, List.getElem?_cons_succ] at xa
          have hL9 := hL.pushF hgra hge hKa ⟨z1, z2, 0⟩ hfew hfd (fun e => by cases e) hOa
          clear hXa hL hge hKa hgra hOa
          go_simp
          clear xa za
          refine hK.out _ _ trivial (fun hHeld => ?_)
          clear hK KK
          try simp only [Act.put, List.setIfInBounds_toArray, List.set_cons_zero, List.set_cons_succ]
          refine wpAnyH_done (by kernel_rfl) ?_ _
          exact HR2.out _ _ _ _ _ _ _ _ _ _ _ _ _ _ _ _ _ hL9
        ·
          go_simp
          refine (l1Int_il g ao n cap f [-1, 1048576, 0] AI2 v1 hn (by simp) (by simp) hI2 hgI2 hL.cn.cur).mono ?_
          rintro e v2 ⟨z2, rfl, -, hCc, hBc⟩
          replace hI1 := hI1.but hBc hgI1
          replace hI2 := hI2.but hBc hgI2
          replace hL := hL.but hCc hBc
          clear hCc hBc
          go_wp2_with fail
          refine hK.out _ _ trivial (fun hHeld => ?_)
          clear hK KK
          try simp only [Act.put, List.setIfInBounds_toArray, List.set_cons_zero, List.set_cons_succ]
          refine' wpAnyH_take (i := 8) (v := _) rfl (by kernel_rfl) (by kernel_rfl) (by kernel_rfl) (fun _ _ _ h => h) (Or.inl ⟨by kernel_rfl, ?hfa34⟩) (by assumption) ?rfa34
          case hfa34 => intro W hW; go_simp; all_goals with_reducible rfl
          change wpAnyH _ _ _ _ _ _ _ (Act.put _ (some 24) _) _
          simp only [Act.put, List.setIfInBounds_toArray, List.set_cons_zero, List.set_cons_succ]
          refine wpAnyH_ready (rs := [1, 9]) (by kernel_rfl) (by simp) ?_
          refine AllReadyH.cons rfl (fun KK hK => ?_) (AllReadyH.cons rfl (fun KK hK => ?_) AllReadyH.nil)
          ·
            have xl : v2.cell? ⟨X, 3, none⟩ = some (.slice fa D.faults.length fc) := hL.ms.x.cell 3
            go_simp
            clear xl
            refine hK.out _ _ trivial (fun hHeld => ?_)
            clear hK KK
            try simp only [Act.put, List.setIfInBounds_toArray, List.set_cons_zero, List.set_cons_succ]
            refine wpAnyH_ready (rs := [9]) (by kernel_rfl) (by simp) ?_
            refine AllReadyH.cons rfl (fun KK hK => ?_) AllReadyH.nil
            go_simp
            have hbA : Below v2.heap.size v2 (v2.alloc (.cells #[.int .i64 z1, .int .i64 z2, .int .i64 0] 79)) := (Below.refl _ _).alloc (Nat.le_refl _) _
            have hcl := cells3New v2 z1 z2 0 79
            replace hL := hL.on hbA
            obtain ⟨A9, hA9⟩ := hidEx v2.heap.size
            rw [hA9.out] at hcl ⊢
            clear hbA
            refine hK.out _ _ trivial (fun hHeld => ?_)
            clear hK KK
            try simp only [Act.put, List.setIfInBounds_toArray, List.set_cons_zero, List.set_cons_succ]
            obtain ⟨q3, hq3⟩ := hidEx (v2.alloc (.cells #[.int .i64 z1, .int .i64 z2, .int .i64 0] 79))
            rw [hq3.out] at hL hcl ⊢
            refine wpAnyH_ready (rs := [10]) (by kernel_rfl) (by simp) ?_
            refine AllReadyH.cons rfl (fun KK hK => ?_) AllReadyH.nil
            rw [if_pos (by kernel_rfl)]
            refine wp_append_own _ (.tmp 17) (.tmp 25) 30 rfl B 79 jf (.agg #[.int .i64 0, .int .i64 0, .int .i64 0]) 3 24 Try.underlying30 hjf fz0 fz1 fz2 rfl (by decide) _ _ _ rfl hL.ms.fown ⟨A9, 0, none⟩ 1 1 [.int .i64 z1, .int .i64 z2, .int .i64 0] rfl rfl hcl (by intro u hu; simp at hu; rcases hu with rfl | rfl | rfl <;> rfl) (by unfold maxLen; omega) (by omega) hL.b ?_
            intro v6 wa hOa hgra hnila
            have hKa := keep_grown hL.ms.fown hgra
            obtain ⟨fb, fd, rfl⟩ := own_succK hOa
            obtain ⟨_, _, ee, hfd, -, -⟩ := own_rl hOa
            cases ee
            have hge : ∀ k, Value.ownBlock _ = some k → B ≤ k := fun k e => own_geK hL.ms.fown k e
            have hXa := hL.ms.x.block (hKa _ _ _ _ hL.ms.x (by decide))
            clear hcl hnila
            refine hK.out _ _ trivial (fun hHeld => ?_)
            clear hK KK
            change wpAnyH _ _ _ _ _ _ _ (Act.put _ (some 26) _) _
            try simp only [Act.put, List.setIfInBounds_toArray, List.set_cons_zero, List.set_cons_succ]
            refine' wpAnyH_take (i := 11) (v := _) rfl (by kernel_rfl) (by kernel_rfl) (by kernel_rfl) (fun _ _ _ h => h) (Or.inl ⟨by kernel_rfl, ?hfa35⟩) (by assumption) ?rfa35
            case hfa35 => intro W hW; go_simp; all_goals with_reducible rfl
            change wpAnyH _ _ _ _ _ _ _ (Act.put _ (some 27) _) _
            simp only [Act.put, List.setIfInBounds_toArray, List.set_cons_zero, List.set_cons_succ]
            refine wpAnyH_ready (rs := [12]) (by kernel_rfl) (by simp) ?_
            refine AllReadyH.cons rfl (fun KK hK => ?_) AllReadyH.nil
            have xa := hXa.cell 3
            have za := hXa.fz 3
            simp only [List.getElem?_cons_zero, List.getElem?_cons_succ] at xa
            have hL9 := hL.pushF hgra hge hKa ⟨z1, z2, 0⟩ hfew hfd (fun e => by cases e) hOa
            clear hXa hL hge hKa hgra hOa
            go_simp
            clear xa za
            refine hK.out _ _ trivial (fun hHeld => ?_)
            clear hK KK
            try simp only [Act.put, List.setIfInBounds_toArray, List.set_cons_zero, List.set_cons_succ]
            refine wpAnyH_done (by kernel_rfl) ?_ _
            exact HR2.out _ _ _ _ _ _ _ _ _ _ _ _ _ _ _ _ _ hL9
          ·
            go_simp
            have hbA : Below v2.heap.size v2 (v2.alloc (.cells #[.int .i64 z1, .int .i64 z2, .int .i64 0] 79)) := (Below.refl _ _).alloc (Nat.le_refl _) _
            have hcl := cells3New v2 z1 z2 0 79
            replace hL := hL.on hbA
            obtain ⟨A9, hA9⟩ := hidEx v2.heap.size
            rw [hA9.out] at hcl ⊢
            clear hbA
            refine hK.out _ _ trivial (fun hHeld => ?_)
            clear hK KK
            try simp only [Act.put, List.setIfInBounds_toArray, List.set_cons_zero, List.set_cons_succ]
            obtain ⟨q3, hq3⟩ := hidEx (v2.alloc (.cells #[.int .i64 z1, .int .i64 z2, .int .i64 0] 79))
            rw [hq3.out] at hL hcl ⊢
            refine wpAnyH_ready (rs := [1]) (by kernel_rfl) (by simp) ?_
            refine AllReadyH.cons rfl (fun KK hK => ?_) AllReadyH.nil
            have xl : q3.cell? ⟨X, 3, none⟩ = some (.slice fa D.faults.length fc) := hL.ms.x.cell 3
            go_simp
            clear xl
            refine hK.out _ _ trivial (fun hHeld => ?_)
            clear hK KK
            try simp only [Act.put, List.setIfInBounds_toArray, List.set_cons_zero, List.set_cons_succ]
            refine wpAnyH_ready (rs := [10]) (by kernel_rfl) (by simp) ?_
            refine AllReadyH.cons rfl (fun KK hK => ?_) AllReadyH.nil
            rw [if_pos (by kernel_rfl)]
            refine wp_append_own _ (.tmp 17) (.tmp 25) 30 rfl B 79 jf (.agg #[.int .i64 0, .int .i64 0, .int .i64 0]) 3 24 Try.underlying30 hjf fz0 fz1 fz2 rfl (by decide) _ _ _ rfl hL.ms.fown ⟨A9, 0, none⟩ 1 1 [.int .i64 z1, .int .i64 z2, .int .i64 0] rfl rfl hcl (by intro u hu; simp at hu; rcases hu with rfl | rfl | rfl <;> rfl) (by unfold maxLen; omega) (by omega) hL.b ?_
            intro v6 wa hOa hgra hnila
            have hKa := keep_grown hL.ms.fown hgra
            obtain ⟨fb, fd, rfl⟩ := own_succK hOa
            obtain ⟨_, _, ee, hfd, -, -⟩ := own_rl hOa
            cases ee
            have hge : ∀ k, Value.ownBlock _ = some k → B ≤ k := fun k e => own_geK hL.ms.fown k e
            have hXa := hL.ms.x.block (hKa _ _ _ _ hL.ms.x (by decide))
            clear hcl hnila
            refine hK.out _ _ trivial (fun hHeld => ?_)
            clear hK KK
            change wpAnyH _ _ _ _ _ _ _ (Act.put _ (some 26) _) _
            try simp only [Act.put, List.setIfInBounds_toArray, List.set_cons_zero, List.set_cons_succ]
            refine' wpAnyH_take (i := 11) (v := _) rfl (by kernel_rfl) (by kernel_rfl) (by kernel_rfl) (fun _ _ _ h => h) (Or.inl ⟨by kernel_rfl, ?hfa36⟩) (by assumption) ?rfa36
            case hfa36 => intro W hW; go_simp; all_goals with_reducible rfl
            change wpAnyH _ _ _ _ _ _ _ (Act.put _ (some 27) _) _
            simp only [Act.put, List.setIfInBounds_toArray, List.set_cons_zero, List.set_cons_succ]
            refine wpAnyH_ready (rs := [12]) (by kernel_rfl) (by simp) ?_
            refine AllReadyH.cons rfl (fun KK hK => ?_) AllReadyH.nil
            have xa := hXa.cell 3
            have za := hXa.fz 3
            simp only [List.getElem?_cons_zero, List.getElem?_cons_succ] at xa
            have hL9 := hL.pushF hgra hge hKa ⟨z1, z2, 0⟩ hfew hfd (fun e => by cases e) hOa
            clear hXa hL hge hKa hgra hOa
            go_simp
            clear xa za
            refine hK.out _ _ trivial (fun hHeld => ?_)
            clear hK KK
            try simp only [Act.put, List.setIfInBounds_toArray, List.set_cons_zero, List.set_cons_succ]
            refine wpAnyH_done (by kernel_rfl) ?_ _
            exact HR2.out _ _ _ _ _ _ _ _ _ _ _ _ _ _ _ _ _ hL9
end Go.Proofs.Ytdhfbblameiloaa

