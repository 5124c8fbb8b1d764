/-
  A disk of the call's own whose cache alone may grow in place.
-/
import Derived.Test.YtagjgnephaaehaaDiskOwnC
namespace Go.Proofs.Ytagjgnephaaehaa
open Go.RowKit
set_option maxRecDepth 4000

def KOW (w : World) (B : Nat) (v : Value) (D : PDisk) : Prop := ∃ sa sc ca cc fa fc ss cs, v = dval D sa sc ca cc fa fc ∧ KO w B sa sc ca cc fa fc ss cs D ∧ w.ownsRow B 52 2 (.slice ca D.cache.length cc) D.cache.length (wcells D.cache cs)
theorem KOW.own {w : World} {B : Nat} {v : Value} {D : PDisk} (h : KOW w B v D) : KOwn w B v D := by
  obtain ⟨sa, sc, ca, cc, fa, fc, ss, cs, e, hk, -⟩ := h
  exact ⟨sa, sc, ca, cc, fa, fc, ss, cs, e, hk⟩
end Go.Proofs.Ytagjgnephaaehaa
