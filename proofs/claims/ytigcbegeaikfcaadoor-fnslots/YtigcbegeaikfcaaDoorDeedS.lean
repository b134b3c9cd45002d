/- Layer 6 (sums): the model's l1Texts, l6Put and NamesIn. No conditions but those typed. Layer 7 (plays): the model's l7Gate and l7Sign. No conditions but those typed. Layer 7 (plays): the model's l7Block and l7Deed. No conditions but those typed. -/
import Derived.Test.YtigcbegeaikfcaaDoorSumS
import Derived.Test.YtigcbegeaikfcaaDoorLowT
import Derived.Test.YtigcbegeaikfcaaDoorDeedP
import Derived.Test.YtigcbegeaikfcaaDoorLowB
import Derived.Test.YtigcbegeaikfcaaDoorLowA
import Derived.Laws.AppendOwn
import Derived.Maps.AppendAt
import Derived.RangeFuncBox
import Derived.OwnWalk
namespace Go.Proofs.YtigcbegeaikfcaaDoor
open Go.RowKit
set_option linter.unusedVariables false

theorem OwnV.more {w wr w1 : World} {B m : Nat} {e : TypeId} {v v' : Value} {xs ys : List Value} (hb : Below B w wr) (hB : B ≤ w.heap.size) (h : OwnV wr B e v xs) (hm : ys.length = m)
    (h1 : w1.ownsRow B e 1 v' (xs.length + m) (xs ++ ys)) (hg : wr.grownBy w1 v.ownBlock) : OwnV w1 B e v' (xs ++ ys) ∧ Below B w w1 := by
  refine ⟨?_, hb.grown hg (Nat.le_trans hB hb.size) (fun j hj => (h.lt j hj).1)⟩
  unfold OwnV
  rw [List.length_append, hm]
  exact h1
theorem str_one (u : Value) (xs : List Txt) (h : u ∈ xs.map str) : u.oneCell' = true := by
  obtain ⟨x, _, rfl⟩ := List.mem_map.1 h
  rfl
theorem OwnV.shape1 {w : World} {B : Nat} {e : TypeId} {v : Value} {xs : List Value} (h : OwnV w B e v xs) (hn : ¬ v = .slice none 0 0) : ∃ g c, v = .slice (some ⟨g, 0, none⟩) xs.length c := by
  rcases h.2 with ⟨q, _⟩ | ⟨g, cap, _, q, _⟩
  · exact absurd q hn
  · exact ⟨g, cap, q⟩

theorem add_at (g o j : Nat) : (⟨g, o, none⟩ : Addr).add j = ⟨g, o + j, none⟩ := by
  unfold Addr.add
  split
  · rename_i h; subst h; rfl
  · rfl

def PutOut (B : Nat) (xs : List Txt) (w : World) (e : Ending) (w' : World) : Prop := ∃ g' c', e = .returned (.slice (some ⟨g', 0, none⟩) xs.length c') ∧ OwnV w' B 9 (.slice (some ⟨g', 0, none⟩) xs.length c') (xs.map str) ∧ Below w.heap.size w w'
theorem cap_of {w : World} {B g n c : Nat} {e : TypeId} {xs : List Value} (h : OwnV w B e (.slice (some ⟨g, 0, none⟩) n c) xs) : xs.length ≤ c := by
  rcases h.2 with ⟨q, _⟩ | ⟨g2, cap2, cur, q, _, _, h3, _⟩
  · cases q
  · cases q; exact h3

theorem put_fin {W : World} {B B' k : Nat} {xs : List Txt} {s : Txt} {v : Value} (hk : k ≤ xs.length) (h : W.ownsRow B' 9 1 v (k + 1 + (xs.length - k)) ((xs.take k).map str ++ [str s] ++ (xs.drop k).map str)) (hB : B ≤ B') :
    ∃ g c, v = .slice (some ⟨g, 0, none⟩) (xs.take k ++ s :: xs.drop k).length c ∧ OwnV W B 9 v ((xs.take k ++ s :: xs.drop k).map str) := by
  have hl : (xs.take k ++ s :: xs.drop k).length = k + 1 + (xs.length - k) := by simp; omega
  have hm : (xs.take k ++ s :: xs.drop k).map str = (xs.take k).map str ++ [str s] ++ (xs.drop k).map str := by simp
  have ho : OwnV W B' 9 v ((xs.take k ++ s :: xs.drop k).map str) := by
    unfold OwnV
    rw [List.length_map, hl, hm]
    exact h
  rcases ho.2 with ⟨_, q⟩ | ⟨g, c, _, q, _⟩
  · rw [List.length_map, hl] at q; omega
  · rw [List.length_map] at q; exact ⟨g, c, q, ho.less hB⟩

end Go.Proofs.YtigcbegeaikfcaaDoor

namespace Go.Proofs.YtigcbegeaikfcaaDoor
open Go.RowKit
set_option linter.unusedVariables false

def gatesL : List Txt := [[48], [49], [50], [51]]
def gateI (s : Txt) : Int := match gateN s with
  | some g => (g : Int)
  | none => -1
theorem gateI_idx (s : Txt) : gateI s = idxS gatesL s 0 := by
  unfold gateI gateN gatesL
  simp only [idxS, eq_comm (a := s)]
  repeat' split
  all_goals simp_all
  all_goals omega
theorem gateI_some {s : Txt} {g : Nat} (h : gateN s = some g) : gateI s = (g : Int) := by unfold gateI; rw [h]
theorem gateI_none {s : Txt} (h : gateN s = none) : gateI s = -1 := by unfold gateI; rw [h]

def sgI7 (ss : List Txt) (a : Int) : Txt := if a < 0 then [] else sg7 ss a.toNat
theorem sgI7_nat (ss : List Txt) (k : Nat) : sgI7 ss (k : Int) = sg7 ss k := by unfold sgI7; rw [if_neg (by omega), Int.toNat_natCast]
theorem sgI7_neg {ss : List Txt} {a : Int} (h : a < 0) : sgI7 ss a = [] := by unfold sgI7; rw [if_pos h]
def TxtIs (w : World) (s : Txt) (e : Ending) (w' : World) : Prop := e = .returned (str s) ∧ w = w'
theorem ret_txt {a b : Txt} (h : a = b) : Ending.returned (str a) = .returned (str b) := by rw [h]

end Go.Proofs.YtigcbegeaikfcaaDoor

namespace Go.Proofs.YtigcbegeaikfcaaDoor
open Go.RowKit
set_option linter.unusedVariables false

end Go.Proofs.YtigcbegeaikfcaaDoor
