/- The draws' cursor, told exactly: which byte comes next, and where the cursor stands then. No conditions but those typed. -/
import Derived.Test.YtjcmfdgphhonhaaGreatDoorDrwM
import Derived.Test.YtjcmfdgphhonhaaGreatDoorDrawG
namespace Go.Proofs.YtjcmfdgphhonhaaGreatDoor
open Go.RowKit
set_option linter.unusedVariables false

/-- Block g is a cursor over the bytes bs, which lie below it; s: how many of them are behind it, and its number. -/
def CurS (bs : List Int) (w : World) (g : Nat) (s : Nat × Int) : Prop :=
  ∃ A c, w.heap[g]? = some (.cells #[.slice A bs.length c, .int .i64 (s.1 : Int), .int .i64 s.2] 138 (0, 0)) ∧ s.1 ≤ bs.length ∧ bs.length ≤ maxLen ∧
    ∀ k x, bs[k]? = some x → ∃ g' o, A = some ⟨g', o, none⟩ ∧ g' < g ∧ w.cell? ⟨g', o + k, none⟩ = some (.int .u8 x) ∧ 0 ≤ x ∧ x ≤ 255
theorem CurS.lt {bs : List Int} {w : World} {g : Nat} {s : Nat × Int} (h : CurS bs w g s) : g < w.heap.size := by
  obtain ⟨A, c, hh, _⟩ := h
  exact (Array.getElem?_eq_some_iff.1 hh).1
theorem CurS.keep {bs : List Int} {w w' : World} {g : Nat} {s : Nat × Int} (h : CurS bs w g s) (hb : ∀ i, i ≤ g → w'.heap[i]? = w.heap[i]?) : CurS bs w' g s := by
  obtain ⟨A, c, hh, h1, h2, h3⟩ := h
  refine ⟨A, c, (hb g (Nat.le_refl _)).trans hh, h1, h2, fun k x hx => ?_⟩
  obtain ⟨g', o, e, hg, hc, hx'⟩ := h3 k x hx
  exact ⟨g', o, e, hg, (World.cell?_of_block (hb g' (by omega))).trans hc, hx'⟩
theorem CurS.alloc {bs : List Int} {w : World} {g : Nat} {s : Nat × Int} (h : CurS bs w g s) (o : Obj) : CurS bs (w.alloc o) g s := h.keep fun i hi => Below.heap_alloc w o i (by have := h.lt; omega)
theorem CurS.later {bs : List Int} {w w' : World} {g : Nat} {s : Nat × Int} (h : CurS bs w g s) (hb : Below w.heap.size w w') : CurS bs w' g s := h.keep fun i hi => hb.block i (by have := h.lt; omega)
theorem CurS.apart {bs : List Int} {w w' : World} {g : Nat} {s : Nat × Int} {row : Option Nat} (h : CurS bs w g s) (k : w.grownBy w' row) (hr : ∀ j, row = some j → g < j) : CurS bs w' g s := h.keep fun i hi => k.block i (by have := h.lt; omega) (fun e => by have := hr i e.symm; omega)
theorem CurS.far {bs : List Int} {w : World} {g : Nat} {s : Nat × Int} (h : CurS bs w g s) {p : Addr} (hp : g < p.block) (u : Value) : CurS bs (w.setCell p u) g s := h.keep fun i hi => Below.heap_setCell w p u i (by omega)
/-- The cursor, as elsewhere. -/
theorem CurS.cur {bs : List Int} {w : World} {g : Nat} {s : Nat × Int} (h : CurS bs w g s) : Cur w g := by
  obtain ⟨A, c, hh, h1, h2, h3⟩ := h
  refine ⟨A, bs.length, c, s.1, s.2, hh, ⟨h2, fun k hk => ?_⟩, h1⟩
  obtain ⟨g', o, e, hg, hc, hx⟩ := h3 k _ (List.getElem?_eq_getElem hk)
  exact ⟨g', o, _, e, hg, hc, hx⟩
/-- Of every cursor something is told. -/
theorem Cur.told {w : World} {g : Nat} (h : Cur w g) : ∃ bs s, CurS bs w g s := by
  obtain ⟨A, n, c, i, x, hh, ⟨h1, h2⟩, hi⟩ := h
  have hf : ∀ k, k < n → ∃ x : Int, ∃ g' o, A = some ⟨g', o, none⟩ ∧ g' < g ∧ w.cell? ⟨g', o + k, none⟩ = some (.int .u8 x) ∧ 0 ≤ x ∧ x ≤ 255 := fun k hk => by
    obtain ⟨g', o, x, e⟩ := h2 k hk
    exact ⟨x, g', o, e⟩
  refine ⟨(List.range n).map fun k => if hk : k < n then Classical.choose (hf k hk) else 0, (i, x), A, c, by simpa using hh, by simpa using hi, by simpa using h1, fun k x hx => ?_⟩
  have hk : k < n := by have := (List.getElem?_eq_some_iff.1 hx).1; simpa using this
  have e : x = Classical.choose (hf k hk) := by
    rw [List.getElem?_map, List.getElem?_range hk] at hx
    simp [hk] at hx
    exact hx.symm
  rw [e]
  exact Classical.choose_spec (hf k hk)
theorem retB {a b : Bool} (h : a = b) : Ending.returned (.bool a) = .returned (.bool b) := by rw [h]
def ByteX (bs : List Int) (w : World) (g : Nat) (s : Nat × Int) (x : Int) (e : Ending) (w' : World) : Prop := e = .returned (.int .i64 x) ∧ CurS bs w' g s ∧ w.grownBy w' (some g)
theorem next_range (bs : List Int) (s : Nat × Int) : 0 ≤ (nextB bs s).1 ∧ (nextB bs s).1 ≤ 255 := by
  unfold nextB
  split
  · exact and_le _ 255 (by decide)
  · exact and_le _ 255 (by decide)

set_option maxHeartbeats 1000000 in
theorem l1Byte_x (bs : List Int) (g : Nat) (s : Nat × Int) (w : World) (hc : CurS bs w g s) : Calls Tryz.prog 149 #[.pointer (some ⟨g, 0, none⟩)] w (ByteX bs w g (nextB bs s).2 (nextB bs s).1) := by
  obtain ⟨i, h⟩ := s
  obtain ⟨A, c, hh, hi, hn, hs⟩ := hc
  have c0 : w.cell? ⟨g, 0, none⟩ = some (.slice A bs.length c) := by rw [cell_of_row w g 0 _ _ (0, 0) hh]; rfl
  have c1 : w.cell? ⟨g, 1, none⟩ = some (.int .i64 (i : Int)) := by rw [cell_of_row w g 1 _ _ (0, 0) hh]; rfl
  have c2 : w.cell? ⟨g, 2, none⟩ = some (.int .i64 h) := by rw [cell_of_row w g 2 _ _ (0, 0) hh]; rfl
  have f2 : w.frozen? ⟨g, 2, none⟩ = false := frozen_row hh
  have HH := Lib.hid hh
  have HN : Hid (∀ b, bs[i]? = some b → nextB bs (i, h) = (bits BinOp.and IntKind.i64 (mixF (hF h) + b) 255, (i + 1, hF h))) := Lib.hid (fun b hb => by unfold nextB; rw [show bs[(i, h).1]? = some b from hb])
  have HM : Hid (bs[i]? = none → nextB bs (i, h) = (mixF (hF h), (i, hF h))) := Lib.hid (fun hb => by unfold nextB; rw [show bs[(i, h).1]? = none from hb])
  unfold mixF hF at HN HM
  clear hh
  unfold maxLen at hn
  go_enter Tryz.func149, Tryz.ntmps149
  go_wp2_with fail
  generalize wrap64 (wrap64 (h * 6364136223846793005) + 1442695040888963407) = h2 at HN HM ⊢
  have HH1 : Hid ((w.setCell ⟨g, 2, none⟩ (.int .i64 h2)).heap[g]? = some (.cells #[.slice A bs.length c, .int .i64 (i : Int), .int .i64 h2] 138 (0, 0))) := Lib.hid (heap_set (k := 2) HH.out (.int .i64 h2))
  have G1 : w.grownBy (w.setCell ⟨g, 2, none⟩ (.int .i64 h2)) (some g) := grown_set (World.grownBy.refl _ _) _
  have S1 : Hid (∀ k x, bs[k]? = some x → ∃ g' o, A = some ⟨g', o, none⟩ ∧ g' < g ∧ (w.setCell ⟨g, 2, none⟩ (.int .i64 h2)).cell? ⟨g', o + k, none⟩ = some (.int .u8 x) ∧ 0 ≤ x ∧ x ≤ 255) := Lib.hid (fun k x hx => by
    obtain ⟨g', o, e, hg, hcc, hx'⟩ := hs k x hx
    exact ⟨g', o, e, hg, (World.cell?_setCell_other w ⟨g, 2, none⟩ ⟨g', o + k, none⟩ _ (fun e => by injection e with e; omega)).trans hcc, hx'⟩)
  clear hs c0 c1 c2 f2 HH
  generalize w.setCell ⟨g, 2, none⟩ (.int .i64 h2) = w1 at *
  have c0 : w1.cell? ⟨g, 0, none⟩ = some (.slice A bs.length c) := by rw [cell_of_row w1 g 0 _ _ (0, 0) HH1.out]; rfl
  have c1 : w1.cell? ⟨g, 1, none⟩ = some (.int .i64 (i : Int)) := by rw [cell_of_row w1 g 1 _ _ (0, 0) HH1.out]; rfl
  have c2 : w1.cell? ⟨g, 2, none⟩ = some (.int .i64 h2) := by rw [cell_of_row w1 g 2 _ _ (0, 0) HH1.out]; rfl
  have f1 : w1.frozen? ⟨g, 1, none⟩ = false := frozen_row HH1.out
  go_quiet (fail)
  go_wp2_with fail
  have hx := and_le (bits BinOp.xor IntKind.i64 (h2 / 8589934592) (h2 / 35184372088832)) 255 (by decide)
  rw [show (((255 : Nat) : Int)) = 255 from rfl] at hx
  generalize bits BinOp.and IntKind.i64 (bits BinOp.xor IntKind.i64 (h2 / 8589934592) (h2 / 35184372088832)) 255 = x at hx HN HM ⊢
  obtain ⟨hx0, hx1⟩ := hx
  by_cases hlt : i < bs.length
  · have hb := List.getElem?_eq_getElem hlt
    generalize bs[i] = b at hb
    obtain ⟨g', o, rfl, hg', hcb, hb0, hb1⟩ := S1.out i b hb
    have HE := Lib.hid (HN.out b hb)
    clear hb
    go_quiet (fail)
    go_wp2_with fail
    go_quiet (fail)
    go_wp2_with fail
    go_ret
    rw [HE.out]
    refine ⟨rfl, ⟨some ⟨g', o, none⟩, c, ?_, by show i + 1 ≤ bs.length; omega, by unfold maxLen; omega, fun k y hy => ?_⟩, ?_⟩
    · have := heap_set (k := 1) HH1.out (.int .i64 ((i : Int) + 1))
      exact this
    · obtain ⟨g2, o2, e, hg2, hc2, hy'⟩ := S1.out k y hy
      exact ⟨g2, o2, e, hg2, (World.cell?_setCell_other w1 ⟨g, 1, none⟩ ⟨g2, o2 + k, none⟩ _ (fun e => by injection e with e; omega)).trans hc2, hy'⟩
    · exact grown_set (wr := w1.drewN _) ⟨G1.os, G1.tape, G1.output, G1.size, G1.block⟩ _
  · have HE := Lib.hid (HM.out (List.getElem?_eq_none (by omega)))
    go_quiet (fail)
    go_wp2_with fail
    go_ret
    rw [HE.out]
    exact ⟨rfl, ⟨A, c, HH1.out, hi, by unfold maxLen; omega, fun k y hy => S1.out k y hy⟩, ⟨G1.os, G1.tape, G1.output, G1.size, G1.block⟩⟩

set_option maxHeartbeats 1000000 in
theorem l1Below_x (bs : List Int) (g : Nat) (s : Nat × Int) (m : Int) (h0 : 0 < m) (h1 : m ≤ 256) (w : World) (hc : CurS bs w g s) : Calls Tryz.prog 81 #[.pointer (some ⟨g, 0, none⟩), .int .i64 m] w (ByteX bs w g (nextB bs s).2 ((nextB bs s).1 % m)) := by
  have HB := Lib.hid (l1Byte_x bs g s w hc)
  obtain ⟨hx0, hx1⟩ := next_range bs s
  generalize (nextB bs s).1 = x at HB hx0 hx1 ⊢
  generalize (nextB bs s).2 = s1 at HB ⊢
  go_enter Tryz.func81, Tryz.ntmps81
  go_wp2_with fail
  refine HB.out.mono ?_
  rintro e w1 ⟨rfl, hc1, hg1⟩
  go_wp2_with fail
  go_ret
  exact ⟨rfl, hc1, hg1⟩

set_option maxHeartbeats 1000000 in
theorem l1Once_x (bs : List Int) (g : Nat) (s : Nat × Int) (m : Int) (h0 : 0 < m) (h1 : m ≤ 256) (w : World) (hc : CurS bs w g s) : Calls Tryz.prog 59 #[.pointer (some ⟨g, 0, none⟩), .int .i64 m] w fun e w' => e = .returned (.bool (decide ((nextB bs s).1 % m = 0))) ∧ CurS bs w' g (nextB bs s).2 ∧ w.grownBy w' (some g) := by
  have HB := Lib.hid (l1Below_x bs g s m h0 h1 w hc)
  generalize (nextB bs s).1 % m = x at HB ⊢
  generalize (nextB bs s).2 = s1 at HB ⊢
  go_enter Tryz.func59, Tryz.ntmps59
  go_wp2_with fail
  refine HB.out.mono ?_
  rintro e w1 ⟨rfl, hc1, hg1⟩
  go_wp2_with fail
  go_ret
  exact ⟨retB (by by_cases q : x = 0 <;> simp [q]), hc1, hg1⟩

end Go.Proofs.YtjcmfdgphhonhaaGreatDoor
