/- Layer 8 (steps): rows of ops, apart from plays. No conditions but those typed. -/
import Derived.Test.YtigcbegeaikfcaaGreatDoorLowA
import Derived.Maps.AppendAt
import Derived.RangeFuncBox
namespace Go.Proofs.YtigcbegeaikfcaaGreatDoor
open Go.RowKit
set_option linter.unusedVariables false

/-- An op: its kind, its number, its name. -/
abbrev Txt := List UInt8
abbrev Opv := Int × Int × Txt
theorem add_at8 (g o j : Nat) : (⟨g, o, none⟩ : Addr).add j = ⟨g, o + j, none⟩ := by unfold Addr.add; split <;> simp_all
abbrev opV (o : Opv) : List Value := [.int .i64 o.1, .int .i64 o.2.1, str o.2.2]
def SeeOp (w : World) (B : Nat) (v : Value) (cs : List Opv) : Prop := SeeN 3 w B v (cs.map opV)
def OwnOp (w : World) (B : Nat) (e : TypeId) (v : Value) (cs : List Opv) : Prop := OwnN 3 w B e v (cs.map opV)
theorem ops_three (cs : List Opv) : ∀ x ∈ cs.map opV, x.length = 3 := by
  intro x hx
  obtain ⟨b, _, rfl⟩ := List.mem_map.1 hx
  rfl
theorem ops_len (cs : List Opv) : (cs.map opV).flatten.length = cs.length * 3 := by rw [flat_len (ops_three cs), List.length_map]
theorem ops_flat (xs ys : List Opv) : ((xs ++ ys).map opV).flatten = (xs.map opV).flatten ++ (ys.map opV).flatten := by simp
theorem SeeOp.below {w w' : World} {B : Nat} {v : Value} {bs : List Opv} (h : SeeOp w B v bs) (hb : Below B w w') : SeeOp w' B v bs := SeeN.below h hb
theorem SeeOp.alloc {w : World} {B : Nat} {v : Value} {bs : List Opv} (h : SeeOp w B v bs) (hB : B ≤ w.heap.size) (o : Obj) : SeeOp (w.alloc o) B v bs := SeeN.alloc h hB o
theorem SeeOp.more {w : World} {B B' : Nat} {v : Value} {bs : List Opv} (h : SeeOp w B v bs) (hB : B ≤ B') : SeeOp w B' v bs := SeeN.more h hB
theorem SeeOp.shape {w : World} {B : Nat} {v : Value} {bs : List Opv} (h : SeeOp w B v bs) : ∃ A c, v = .slice A bs.length c := by
  obtain ⟨A, c, e⟩ := SeeN.shape h; exact ⟨A, c, by rw [e, List.length_map]⟩
theorem SeeOp.len {w : World} {B : Nat} {v : Value} {bs : List Opv} (h : SeeOp w B v bs) : bs.length ≤ maxLen := by have := h.1; rwa [List.length_map] at this
theorem SeeOp.at_ {w : World} {B : Nat} {A : Option Addr} {m c : Nat} {bs : List Opv} {k : Nat} {b : Opv} (h : SeeOp w B (.slice A m c) bs) (hx : bs[k]? = some b) :
    ∃ g o, A = some ⟨g, o, none⟩ ∧ g < B ∧ w.cell? ⟨g, o + k * 3, none⟩ = some (.int .i64 b.1) ∧ w.cell? ⟨g, o + k * 3 + 1, none⟩ = some (.int .i64 b.2.1) ∧ w.cell? ⟨g, o + k * 3 + 2, none⟩ = some (str b.2.2) := by
  obtain ⟨g, o, h1, h2, h3⟩ := SeeN.at_ h (k := k) (x := opV b) (by rw [List.getElem?_map, hx]; rfl)
  exact ⟨g, o, h1, h2, h3 0 _ rfl, h3 1 _ rfl, h3 2 _ rfl⟩
theorem OwnOp.see {w : World} {B : Nat} {e : TypeId} {v : Value} {bs : List Opv} (h : OwnOp w B e v bs) : SeeOp w w.heap.size v bs := OwnN.see h
theorem OwnOp.later {w w' : World} {B : Nat} {e : TypeId} {v : Value} {bs : List Opv} (h : OwnOp w B e v bs) (hb : Below w.heap.size w w') : OwnOp w' B e v bs := OwnN.later h hb
theorem OwnOp.less {w : World} {B B' : Nat} {e : TypeId} {v : Value} {bs : List Opv} (h : OwnOp w B e v bs) (hB : B' ≤ B) : OwnOp w B' e v bs := OwnN.less h hB
theorem OwnOp.alloc {w : World} {B : Nat} {e : TypeId} {v : Value} {bs : List Opv} (h : OwnOp w B e v bs) (o : Obj) : OwnOp (w.alloc o) B e v bs := OwnN.alloc h o
theorem OwnOp.lt {w : World} {B : Nat} {e : TypeId} {v : Value} {bs : List Opv} (h : OwnOp w B e v bs) : ∀ g, v.ownBlock = some g → B ≤ g ∧ g < w.heap.size := OwnN.lt h
theorem OwnOp.row {w : World} {B : Nat} {e : TypeId} {v : Value} {bs : List Opv} (h : OwnOp w B e v bs) : w.ownsRow B e 3 v bs.length (bs.map opV).flatten := by have := h.1; rwa [List.length_map] at this
theorem OwnOp.of_row {w : World} {B n : Nat} {e : TypeId} {v : Value} {bs : List Opv} (h : w.ownsRow B e 3 v n (bs.map opV).flatten) (hn : n = bs.length) : OwnOp w B e v bs := ⟨by rw [List.length_map, ← hn]; exact h, ops_three bs⟩
theorem OwnOp.empty (w : World) (e : TypeId) : OwnOp (w.alloc (.cells #[] e)) w.heap.size e (.slice (some ⟨w.heap.size, 0, none⟩) 0 0) [] := OwnN.empty 3 w w.heap.size e (Nat.le_refl _)
theorem OwnOp.cap {w : World} {B g n c : Nat} {e : TypeId} {bs : List Opv} (h : OwnOp w B e (.slice (some ⟨g, 0, none⟩) n c) bs) : bs.length ≤ c := by
  rcases h.row.2 with ⟨q, _⟩ | ⟨g2, cap2, cur, q, _, _, h3, _⟩
  · cases q
  · injection q with _ _ q3; subst q3; exact h3
theorem OwnOp.apart {w w' : World} {B : Nat} {e : TypeId} {v : Value} {bs : List Opv} {row : Option Nat} (h : OwnOp w B e v bs) (hg : w.grownBy w' row) (hr : ∀ g, row = some g → g < B) : OwnOp w' B e v bs := by
  have hlt := OwnN.lt h
  obtain ⟨⟨hl, h⟩, hn⟩ := h
  refine ⟨⟨hl, ?_⟩, hn⟩
  rcases h with h | ⟨b, cap, cur, rfl, hb', hg', h⟩
  · exact .inl h
  · exact .inr ⟨b, cap, cur, rfl, hb', by rw [hg.block b (hlt b rfl).2 (fun e => by have := hr b e.symm; omega)]; exact hg', h⟩
theorem op_new (w : World) (a b c : Value) (t : TypeId) : ∀ j u, [a, b, c][j]? = some u → (w.alloc (.cells #[a, b, c] t)).cell? ((⟨w.heap.size, 0, none⟩ : Addr).add j) = some u := fun j u hu => by
  rw [add_at8, Nat.zero_add, cell_of_row _ _ _ _ _ (0, 0) (heap_alloc_new _ _)]
  simpa using hu
theorem op_one (o : Opv) (u : Value) (h : u ∈ opV o) : u.oneCell' = true := by
  simp at h
  rcases h with rfl | rfl | rfl <;> rfl
/-- Behind an append of one op. -/
theorem op_more {W w1 : World} {B gv k c : Nat} {e : TypeId} {v' : Value} {xs : List Opv} {o : Opv} (ho : OwnOp W B e (.slice (some ⟨gv, 0, none⟩) k c) xs)
    (h1 : w1.ownsRow B e 3 v' (xs.length + 1) ((xs.map opV).flatten ++ opV o)) (hgr : W.grownBy w1 (some gv)) (hB : B ≤ W.heap.size) :
    ∃ g4 c4, v' = .slice (some ⟨g4, 0, none⟩) (xs ++ [o]).length c4 ∧ OwnOp w1 B e (.slice (some ⟨g4, 0, none⟩) (xs ++ [o]).length c4) (xs ++ [o]) ∧ Below B W w1 := by
  have hl : (xs ++ [o]).length = xs.length + 1 := by simp
  have hf : ((xs ++ [o]).map opV).flatten = (xs.map opV).flatten ++ opV o := by simp
  have h2 : OwnOp w1 B e v' (xs ++ [o]) := OwnOp.of_row (by rw [hf]; exact h1) hl.symm
  obtain ⟨g4, c4, rfl⟩ := ownsRow_succ h1
  rw [hl]
  exact ⟨g4, c4, rfl, h2, (Below.refl _ W).grown hgr hB (fun j hj => by cases hj; exact (ho.lt gv rfl).1)⟩

theorem Tryz.infoOp : (Tryz.prog.info? 41).map (fun i => (i.zero, i.size, i.bytes)) = some (some (.agg #[.int .i64 0, .int .i64 0, .string ⟨#[]⟩]), 3, 32) := by kernel_rfl

end Go.Proofs.YtigcbegeaikfcaaGreatDoor
