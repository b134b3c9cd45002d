/- The walks of the laws FnExactGatesOk, FnExactMaySee, FnExactSeenBy and FnExactOwnOf. -/
import Derived.Test.YtigcbegeaikfcaaGateC
import Derived.Test.YtigcbegeaikfcaaOrdL
namespace Go.Proofs.Ytigcbegeaikfcaa
open Go.RowKit
set_option linter.unusedVariables false

/-- The laws' state behind the copies: the arguments, the copies x0 (in a variable) and x1. -/
structure Lw (w0 : World) (o : Nat) (v u : Value) (us gs : List Int) (o' : Nat) (v' u' : Value) (W : World) : Prop where
  st : Sg w0 o v u us gs W
  box : W.cell? ⟨o', 0, none⟩ = some v'
  lt : o' < W.heap.size
  see : SeeI W W.heap.size v' us
  gat : SeeI W W.heap.size u' gs
theorem Lw.next {w0 W W' : World} {o o' : Nat} {v u v' u' : Value} {us gs : List Int} (h : Lw w0 o v u us gs o' v' u' W) (hb : Below W.heap.size W W') : Lw w0 o v u us gs o' v' u' W' :=
  ⟨h.st.next hb, (hb.cell (p := ⟨o', 0, none⟩) h.lt).trans h.box, Nat.lt_of_lt_of_le h.lt hb.size, (h.see.below hb).more hb.size, (h.gat.below hb).more hb.size⟩
theorem SeeI.next {w w' : World} {v : Value} {zs : List Int} (h : SeeI w w.heap.size v zs) (hb : Below w.heap.size w w') : SeeI w' w'.heap.size v zs := (h.below hb).more hb.size
theorem eq_ints (B : Nat) (va vb : Value) (zs : List Int) (w : World) (ha : SeeI w B va zs) (hb : SeeI w B vb zs) : Calls Try.prog 33 #[va, vb] w (BoolOf w true) := by
  have := eqInts_any B va vb zs zs w ha hb
  rw [eqI_same] at this
  exact this.mono fun e w' ⟨h1, n, h2⟩ => ⟨h1, by rw [h2]; exact below_drewN (Below.refl _ _) n⟩

end Go.Proofs.Ytigcbegeaikfcaa
