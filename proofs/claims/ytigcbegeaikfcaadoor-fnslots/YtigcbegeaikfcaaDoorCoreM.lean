/- Layer 9 (the player): a step, as plain mathematics: what a core comes to by one op. No function of the program is named. Layer 9 (the player): slots and code, of the model: l9Slots, l8Code, l9Item, l9Turn, l1Copy, l9Copy. No conditions but those typed. Layer 9 (the player): copies and small helpers of the model: l1Copy, l9Copy, l9Turn, l9Bad. No conditions but those typed. -/
import Derived.Test.YtigcbegeaikfcaaDoorCoreB
import Derived.Test.YtigcbegeaikfcaaDoorCodO
import Derived.Test.YtigcbegeaikfcaaDoorSltM
namespace Go.Proofs.YtigcbegeaikfcaaDoor
open Go.RowKit
set_option linter.unusedVariables false

end Go.Proofs.YtigcbegeaikfcaaDoor

namespace Go.Proofs.YtigcbegeaikfcaaDoor
open Go.RowKit
set_option linter.unusedVariables false

end Go.Proofs.YtigcbegeaikfcaaDoor

namespace Go.Proofs.YtigcbegeaikfcaaDoor
open Go.RowKit
set_option linter.unusedVariables false

/-- A step's value. -/
abbrev stepVal (x : Int) (u1 u2 u3 : Value) (y : Int) (b : Bool) (g t : Int) : Value := .agg #[.int .i64 x, u1, u2, u3, .int .i64 y, .bool b, .int .i64 g, .int .i64 t]

theorem bx_news9 {W : World} {B n c : Nat} {ad : Addr} {bs : List Bx} (h : SeeBx W B (.slice (some ad) n c) bs) : ∀ j u, (bs.map boxV).flatten[j]? = some u → W.cell? (ad.add j) = some u := fun j u hu => by
  have hj : j < bs.length * 2 := by have := (List.getElem?_eq_some_iff.1 hu).1; rwa [flat_len (boxes_two bs), List.length_map] at this
  have hk : j / 2 < bs.length := by omega
  have hb := List.getElem?_eq_getElem hk
  generalize bs[j / 2] = b at hb
  obtain ⟨g, o, e, -, h0, h1⟩ := h.at_ hb
  injection e with e
  subst e
  have hadd : (⟨g, o, none⟩ : Addr).add j = ⟨g, o + j, none⟩ := by unfold Addr.add; split <;> simp_all
  rw [hadd]
  have hx : (bs.map boxV)[j / 2]? = some (boxV b) := by rw [List.getElem?_map, hb]; rfl
  rcases Nat.mod_two_eq_zero_or_one j with hm | hm
  · have := flat_at (i := 0) (boxes_two bs) hx (y := str b.1) rfl
    rw [show j / 2 * 2 + 0 = j by omega] at this
    rw [this] at hu
    injection hu with hu
    subst hu
    rw [show o + j = o + j / 2 * 2 by omega]; exact h0
  · have := flat_at (i := 1) (boxes_two bs) hx (y := .int .i64 b.2) rfl
    rw [show j / 2 * 2 + 1 = j by omega] at this
    rw [this] at hu
    injection hu with hu
    subst hu
    rw [show o + j = o + j / 2 * 2 + 1 by omega]; exact h1
theorem bx_one9 (bs : List Bx) (u : Value) (h : u ∈ (bs.map boxV).flatten) : u.oneCell' = true := by
  obtain ⟨l, hl, hu⟩ := List.mem_flatten.1 h
  obtain ⟨b, -, rfl⟩ := List.mem_map.1 hl
  simp only [boxV, List.mem_cons, List.not_mem_nil, or_false] at hu
  rcases hu with rfl | rfl <;> rfl
theorem bx_len9 (bs : List Bx) : (bs.map boxV).flatten.length = bs.length * 2 := by rw [flat_len (boxes_two bs), List.length_map]
theorem seeBx_none {w : World} {B n c : Nat} {bs : List Bx} (h : SeeBx w B (.slice none n c) bs) : bs = [] := by
  cases bs with
  | nil => rfl
  | cons x r => obtain ⟨g, o, e, -⟩ := h.at_ (k := 0) (b := x) rfl; cases e

/-- An append of a slice that may be nil to a row of the call's own. -/
theorem wpList_append_see {P : Program} (w : World) {ops : Array Oper} {rest : List Oper} {o : Oper} {a : Act} {Q : Exit → Act → World → Prop} (hgd : o.guard = none) (s x : Operand) (t : TypeId)
    (ho : o.op = .call { callee := .builtin .append, args := #[s, x], argTypes := #[t, t] })
    (base : Nat) (e : TypeId) (i : TypeInfo) (z : Value) (size bytes : Nat) (ht : P.underlying t = some (.slice e)) (hi : P.info? e = some i) (hz : i.zero = some z)
    (hsize : i.size = size) (hby : i.bytes = bytes) (hzs : z.cells.size = size) (hsz : 0 < size)
    (v : Value) (n : Nat) (xs : List Value) (hs : a.eval s = v) (hown : w.ownsRow base e size v n xs)
    (A : Option Addr) (m c : Nat) (news : List Value) (hx : a.eval x = .slice A m c) (hnil : A = none → m = 0 ∧ c = 0 ∧ news = []) (hl : news.length = m * size) (hnews : ∀ ad, A = some ad → ∀ j u, news[j]? = some u → w.cell? (ad.add j) = some u) (h1 : ∀ u ∈ news, u.oneCell' = true)
    (h63 : n + m ≤ maxLen) (hbytes : (n + m) * bytes ≤ 140737488355328) (hbase : base ≤ w.heap.size) (hv : ¬ v = .slice none 0 0)
    (h : ∀ v' w', w'.ownsRow base e size v' (n + m) (xs ++ news) → w.grownBy w' v.ownBlock → ¬ v' = .slice none 0 0 → wpList P ops Q rest (a.put o.dst v') w') : wpList P ops Q (o :: rest) a w := by
  cases A with
  | none =>
    obtain ⟨rfl, rfl, rfl⟩ := hnil rfl
    exact wpList_append_own_none hgd s x t ho base e i size ht hi v n xs hs hown hx (h v w (by simpa using hown) (World.grownBy.refl _ _) hv)
  | some ad => exact wpList_append_own w hgd s x t ho base e i z size bytes ht hi hz hsize hby hzs hsz v n xs hs hown ad m c news hx hl (hnews ad rfl) h1 h63 hbytes hbase (fun v' w' q1 q2 q3 => h v' w' q1 q2 (fun q => hv (q3.1 q).1))

theorem two_set {W : World} {N : Nat} {c0 c1 : Array Value} {t0 t1 : TypeId} {k : Nat} {u : Value} (h : W.heap[N]? = some (.cells c0 t0 (0, 0)) ∧ W.heap[N + 1]? = some (.cells c1 t1 (0, 0))) :
    (W.setCell ⟨N, k, none⟩ u).heap[N]? = some (.cells (c0.setIfInBounds k u) t0 (0, 0)) ∧ (W.setCell ⟨N, k, none⟩ u).heap[N + 1]? = some (.cells c1 t1 (0, 0)) :=
  ⟨heap_set h.1 _, by rw [Below.heap_setCell _ _ _ _ (by show N + 1 ≠ N; omega)]; exact h.2⟩
theorem two_later {W W' : World} {N : Nat} {o0 o1 : Obj} (h : W.heap[N]? = some o0 ∧ W.heap[N + 1]? = some o1) (b : Below W.heap.size W W') : W'.heap[N]? = some o0 ∧ W'.heap[N + 1]? = some o1 := ⟨row_later h.1 b, row_later h.2 b⟩

end Go.Proofs.YtigcbegeaikfcaaDoor
