/- Layer 9 (the player): CoreOk, of the program and of the model, by the same function. No conditions but those typed. Layer 9 (the player): SameCore and NewCore, of the program and of the model, by the same functions. No conditions but those typed. -/
import Derived.Test.YtigcbegeaikfcaaDoorEqI
import Derived.Laws.StructEq
namespace Go.Proofs.YtigcbegeaikfcaaDoor
open Go.RowKit
set_option linter.unusedVariables false

def readB (x : Int) : Bool := inB x 0 100000
def pileB (zs : List Int) : Bool := decide (zs.length ≤ 60) && zs.all wordB
def readsB (rs : List Int) : Bool := decide (rs.length = 4) && rs.all readB
/-- Is it a core? -/
def coreB (x : Int) (zs : List Int) (bs : List Bx) (rs : List Int) (y : Int) : Bool := inB x 0 300 && pileB zs && boxesB bs && readsB rs && inB y 0 4

end Go.Proofs.YtigcbegeaikfcaaDoor

namespace Go.Proofs.YtigcbegeaikfcaaDoor
open Go.RowKit
set_option linter.unusedVariables false

/-- Are two cores one? -/
def sameB (x : Int) (zs : List Int) (bs : List Bx) (rs : List Int) (y x' : Int) (zs' : List Int) (bs' : List Bx) (rs' : List Int) (y' : Int) : Bool :=
  decide (x = x') && eqI zs zs' && eqBx bs bs' && eqI rs rs' && decide (y = y')

theorem prefix_eq {bs bs' : List Bx} (h : bs.take bs.length = bs'.take bs.length) (hl : bs.length = bs'.length) : eqBx bs bs' = true := by
  rw [List.take_length, hl, List.take_length] at h
  simp [eqBx, h]
theorem at_ne {bs bs' : List Bx} {k : Nat} {b d : Bx} (hb : bs[k]? = some b) (hd : bs'[k]? = some d) (h : ¬ b = d) : eqBx bs bs' = false := by
  unfold eqBx
  rw [decide_eq_false_iff_not]
  rintro rfl
  rw [hb] at hd
  injection hd with hd
  exact h hd

end Go.Proofs.YtigcbegeaikfcaaDoor
