/-
  A disk of the call's own whose cache and faults may grow in place.
-/
import Derived.Test.YtagjgnephaaehaaDiskGrow
namespace Go.Proofs.Ytagjgnephaaehaa
open Go.RowKit
set_option maxRecDepth 4000

def KOC (w : World) (B : Nat) (v : Value) (D : PDisk) : Prop := ∃ sa sc ca cc fa fc ss cs, v = dval D sa sc ca cc fa fc ∧ KO w B sa sc ca cc fa fc ss cs D ∧ w.ownsRow B 52 2 (.slice ca D.cache.length cc) D.cache.length (wcells D.cache cs) ∧ w.ownsRow B 63 3 (.slice fa D.faults.length fc) D.faults.length (fcells D.faults)
theorem own_rlF {W : World} {base T c N cap : Nat} {a : Option Addr} {xs : List Value} (h : W.ownsRow base T c (.slice a N cap) N xs) : RL T W base a xs := by
  obtain ⟨a', c', e, -, -, h3⟩ := own_rl h
  cases e
  exact h3
theorem KOC.own {w : World} {B : Nat} {v : Value} {D : PDisk} (h : KOC w B v D) : KOwn w B v D := by
  obtain ⟨sa, sc, ca, cc, fa, fc, ss, cs, e, hk, -⟩ := h
  exact ⟨sa, sc, ca, cc, fa, fc, ss, cs, e, hk⟩
end Go.Proofs.Ytagjgnephaaehaa
