/- At a step of a region that draws its order: a call by its contract; an append of whatever length. No program is named here. Layer 8 (steps): rows of ops; the model's l8Sum. No conditions but those typed. Layer 8 (steps): the model's l8Block, l8Deed and CodeOf. No conditions but those typed. Layer 8 (steps): the model's l8Block, l8Deed whatever the deed. No conditions but those typed. Layer 8 (steps): the model's l8Deed whatever the deed, and CodeOf. No conditions but those typed. -/
import Derived.Test.YtjcmfdgphhonhaaGreatDoorDeedP
import Derived.Test.YtjcmfdgphhonhaaGreatDoorStepA
import Derived.Test.YtjcmfdgphhonhaaGreatDoorLowB
import Derived.Test.YtjcmfdgphhonhaaGreatDoorDeedS
import Derived.Test.YtjcmfdgphhonhaaGreatDoorRdrQ
import Derived.WalkKit
import Derived.Deep.RegionLaw
import Derived.Maps.AppendAt
namespace Go.Proofs.YtjcmfdgphhonhaaGreatDoor
open Go.RowKit
set_option linter.unusedVariables false

end Go.Proofs.YtjcmfdgphhonhaaGreatDoor

namespace Go.Proofs.YtjcmfdgphhonhaaGreatDoor
open Go.RowKit
set_option linter.unusedVariables false

abbrev opV (o : Opv) : List Value := [.int .i64 o.1, .int .i64 o.2.1, str o.2.2]
def SeeOp (w : World) (B : Nat) (v : Value) (cs : List Opv) : Prop := SeeN 3 w B v (cs.map opV)
def OwnOp (w : World) (B : Nat) (e : TypeId) (v : Value) (cs : List Opv) : Prop := OwnN 3 w B e v (cs.map opV)
theorem ops_three (cs : List Opv) : ∀ x ∈ cs.map opV, x.length = 3 := by
  intro x hx
  obtain ⟨b, _, rfl⟩ := List.mem_map.1 hx
  rfl
theorem ops_len (cs : List Opv) : (cs.map opV).flatten.length = cs.length * 3 := by rw [flat_len (ops_three cs), List.length_map]
theorem ops_flat (xs ys : List Opv) : ((xs ++ ys).map opV).flatten = (xs.map opV).flatten ++ (ys.map opV).flatten := by simp
theorem SeeOp.below {w w' : World} {B : Nat} {v : Value} {bs : List Opv} (h : SeeOp w B v bs) (hb : Below B w w') : SeeOp w' B v bs := SeeN.below h hb
theorem SeeOp.alloc {w : World} {B : Nat} {v : Value} {bs : List Opv} (h : SeeOp w B v bs) (hB : B ≤ w.heap.size) (o : Obj) : SeeOp (w.alloc o) B v bs := SeeN.alloc h hB o
theorem SeeOp.more {w : World} {B B' : Nat} {v : Value} {bs : List Opv} (h : SeeOp w B v bs) (hB : B ≤ B') : SeeOp w B' v bs := SeeN.more h hB
theorem SeeOp.shape {w : World} {B : Nat} {v : Value} {bs : List Opv} (h : SeeOp w B v bs) : ∃ A c, v = .slice A bs.length c := by
  obtain ⟨A, c, e⟩ := SeeN.shape h; exact ⟨A, c, by rw [e, List.length_map]⟩
theorem SeeOp.len {w : World} {B : Nat} {v : Value} {bs : List Opv} (h : SeeOp w B v bs) : bs.length ≤ maxLen := by have := h.1; rwa [List.length_map] at this
theorem SeeOp.at_ {w : World} {B : Nat} {A : Option Addr} {m c : Nat} {bs : List Opv} {k : Nat} {b : Opv} (h : SeeOp w B (.slice A m c) bs) (hx : bs[k]? = some b) :
    ∃ g o, A = some ⟨g, o, none⟩ ∧ g < B ∧ w.cell? ⟨g, o + k * 3, none⟩ = some (.int .i64 b.1) ∧ w.cell? ⟨g, o + k * 3 + 1, none⟩ = some (.int .i64 b.2.1) ∧ w.cell? ⟨g, o + k * 3 + 2, none⟩ = some (str b.2.2) := by
  obtain ⟨g, o, h1, h2, h3⟩ := SeeN.at_ h (k := k) (x := opV b) (by rw [List.getElem?_map, hx]; rfl)
  exact ⟨g, o, h1, h2, h3 0 _ rfl, h3 1 _ rfl, h3 2 _ rfl⟩
theorem OwnOp.see {w : World} {B : Nat} {e : TypeId} {v : Value} {bs : List Opv} (h : OwnOp w B e v bs) : SeeOp w w.heap.size v bs := OwnN.see h
theorem OwnOp.later {w w' : World} {B : Nat} {e : TypeId} {v : Value} {bs : List Opv} (h : OwnOp w B e v bs) (hb : Below w.heap.size w w') : OwnOp w' B e v bs := OwnN.later h hb
theorem OwnOp.less {w : World} {B B' : Nat} {e : TypeId} {v : Value} {bs : List Opv} (h : OwnOp w B e v bs) (hB : B' ≤ B) : OwnOp w B' e v bs := OwnN.less h hB
theorem OwnOp.alloc {w : World} {B : Nat} {e : TypeId} {v : Value} {bs : List Opv} (h : OwnOp w B e v bs) (o : Obj) : OwnOp (w.alloc o) B e v bs := OwnN.alloc h o
theorem OwnOp.lt {w : World} {B : Nat} {e : TypeId} {v : Value} {bs : List Opv} (h : OwnOp w B e v bs) : ∀ g, v.ownBlock = some g → B ≤ g ∧ g < w.heap.size := OwnN.lt h
theorem OwnOp.row {w : World} {B : Nat} {e : TypeId} {v : Value} {bs : List Opv} (h : OwnOp w B e v bs) : w.ownsRow B e 3 v bs.length (bs.map opV).flatten := by have := h.1; rwa [List.length_map] at this
theorem OwnOp.of_row {w : World} {B n : Nat} {e : TypeId} {v : Value} {bs : List Opv} (h : w.ownsRow B e 3 v n (bs.map opV).flatten) (hn : n = bs.length) : OwnOp w B e v bs := ⟨by rw [List.length_map, ← hn]; exact h, ops_three bs⟩
theorem OwnOp.empty (w : World) (e : TypeId) : OwnOp (w.alloc (.cells #[] e)) w.heap.size e (.slice (some ⟨w.heap.size, 0, none⟩) 0 0) [] := OwnN.empty 3 w w.heap.size e (Nat.le_refl _)
theorem OwnOp.cap {w : World} {B g n c : Nat} {e : TypeId} {bs : List Opv} (h : OwnOp w B e (.slice (some ⟨g, 0, none⟩) n c) bs) : bs.length ≤ c := by
  rcases h.row.2 with ⟨q, _⟩ | ⟨g2, cap2, cur, q, _, _, h3, _⟩
  · cases q
  · injection q with _ _ q3; subst q3; exact h3
theorem OwnOp.apart {w w' : World} {B : Nat} {e : TypeId} {v : Value} {bs : List Opv} {row : Option Nat} (h : OwnOp w B e v bs) (hg : w.grownBy w' row) (hr : ∀ g, row = some g → g < B) : OwnOp w' B e v bs := by
  have hlt := OwnN.lt h
  obtain ⟨⟨hl, h⟩, hn⟩ := h
  refine ⟨⟨hl, ?_⟩, hn⟩
  rcases h with h | ⟨b, cap, cur, rfl, hb', hg', h⟩
  · exact .inl h
  · exact .inr ⟨b, cap, cur, rfl, hb', by rw [hg.block b (hlt b rfl).2 (fun e => by have := hr b e.symm; omega)]; exact hg', h⟩
theorem op_new (w : World) (a b c : Value) (t : TypeId) : ∀ j u, [a, b, c][j]? = some u → (w.alloc (.cells #[a, b, c] t)).cell? ((⟨w.heap.size, 0, none⟩ : Addr).add j) = some u := fun j u hu => by
  rw [add_at, Nat.zero_add, cell_of_row _ _ _ _ _ (0, 0) (heap_alloc_new _ _)]
  simpa using hu
theorem op_one (o : Opv) (u : Value) (h : u ∈ opV o) : u.oneCell' = true := by
  simp at h
  rcases h with rfl | rfl | rfl <;> rfl
/-- Behind an append of one op. -/
theorem op_more {W w1 : World} {B gv k c : Nat} {e : TypeId} {v' : Value} {xs : List Opv} {o : Opv} (ho : OwnOp W B e (.slice (some ⟨gv, 0, none⟩) k c) xs)
    (h1 : w1.ownsRow B e 3 v' (xs.length + 1) ((xs.map opV).flatten ++ opV o)) (hgr : W.grownBy w1 (some gv)) (hB : B ≤ W.heap.size) :
    ∃ g4 c4, v' = .slice (some ⟨g4, 0, none⟩) (xs ++ [o]).length c4 ∧ OwnOp w1 B e (.slice (some ⟨g4, 0, none⟩) (xs ++ [o]).length c4) (xs ++ [o]) ∧ Below B W w1 := by
  have hl : (xs ++ [o]).length = xs.length + 1 := by simp
  have hf : ((xs ++ [o]).map opV).flatten = (xs.map opV).flatten ++ opV o := by simp
  have h2 : OwnOp w1 B e v' (xs ++ [o]) := OwnOp.of_row (by rw [hf]; exact h1) hl.symm
  obtain ⟨g4, c4, rfl⟩ := ownsRow_succ h1
  rw [hl]
  exact ⟨g4, c4, rfl, h2, (Below.refl _ W).grown hgr hB (fun j hj => by cases hj; exact (ho.lt gv rfl).1)⟩

theorem Tryz.infoOp : (Tryz.prog.info? 30).map (fun i => (i.zero, i.size, i.bytes)) = some (some (.agg #[.int .i64 0, .int .i64 0, .string ⟨#[]⟩]), 3, 32) := by kernel_rfl

def CodeOut (B : Nat) (cs : List Opv) (k : Nat) (w : World) (e : Ending) (w' : World) : Prop := ∃ g c, e = .returned (.tuple #[.slice (some ⟨g, 0, none⟩) cs.length c, .int .i64 (k : Int)]) ∧ OwnOp w' B 30 (.slice (some ⟨g, 0, none⟩) cs.length c) cs ∧ Below B w w'
/-- The model's l8Sum is right at a sum. -/
def CodeGood (ss : List Txt) (t : Sum) : Prop := ∀ (k B g c : Nat) (v : Value) (xs : List Opv) (w : World), SumAt ss k t → SeeV w B v (ss.map str) → OwnOp w B 30 (.slice (some ⟨g, 0, none⟩) xs.length c) xs → B ≤ w.heap.size → xs.length + t.flat.length ≤ 4194304 →
  Calls Tryz.prog 123 #[.slice (some ⟨g, 0, none⟩) xs.length c, v, .int .i64 (k : Int)] w (CodeOut B (xs ++ codeT t) (k + t.flat.length) w)
theorem code_ret {g n m c : Nat} {x y : Int} (h1 : n = m) (h2 : x = y) : Ending.returned (.tuple #[.slice (some ⟨g, 0, none⟩) n c, .int .i64 x]) = .returned (.tuple #[.slice (some ⟨g, 0, none⟩) m c, .int .i64 y]) := by rw [h1, h2]

set_option maxHeartbeats 4000000 in
theorem l8Sum_leaf (ss : List Txt) (hS : shortS ss) (hn : ss.length ≤ 1048576) (s : Txt) : CodeGood ss (.leaf s) := by
  intro k B g c v xs w ht h ho hB hx
  obtain ⟨i0, hi, hz0, hz1, hz2⟩ := info_parts Tryz.infoOp
  obtain ⟨A, cv, e⟩ := strs_shape h
  subst e
  obtain ⟨hxs, hop, hlf⟩ := at_leaf ht
  have hsx := hS s (List.mem_of_getElem? hxs)
  obtain ⟨gs, os, rfl, hgB, hcx⟩ := strs_at h hxs
  have hk : k < ss.length := (List.getElem?_eq_some_iff.1 hxs).1
  have HK : Hid (k + (Sum.leaf s).flat.length = k + 1) := Lib.hid rfl
  rw [HK.out]
  replace hx : xs.length + 1 ≤ 4194304 := hx
  have c1 := fun W (q : Below w.heap.size w W) => (q.cell (p := ⟨gs, os + k, none⟩) (World.block_lt_of_cell? w _ hcx)).trans hcx
  have HO := Lib.hid (l6Op_any s w)
  rw [hop] at HO
  clear hxs hop hlf ht
  cases hr : rdS s with
  | some y =>
    have HR := Lib.hid hr
    have HC : Hid (codeT (.leaf s) = [(1, y, [])]) := Lib.hid (by rw [codeT, hr])
    clear hr
    rw [HC.out]
    go_enter Tryz.func123, Tryz.ntmps123
    go_wp2_with fail
    refine HO.out.mono ?_
    rintro e w1 ⟨rfl, b1⟩
    have hc1 := c1 _ b1
    have hs1 := b1.size
    have o1 := ho.later b1
    go_wp2_with fail
    refine (sReadWord_any s hsx _).mono ?_
    rintro e w' ⟨rfl, rfl⟩
    rw [HR.out]
    go_wp2_with first
      |
(at_builtin; refine wpList_append_own _ rfl _ _ 26 rfl B 30 i0 (.agg #[.int .i64 0, .int .i64 0, .string ⟨#[]⟩]) 3 32 Tryz.underlying26 hi hz0 hz1 hz2 rfl (by decide) _ _ _ rfl (OwnOp.alloc o1 _).row ⟨(w1).heap.size, 0, none⟩ 1 1 (opV (1, y, [])) rfl rfl (op_new _ _ _ _ _) (op_one (1, y, [])) (by unfold maxLen; omega) (by omega) (by simp; omega) ?_; intro v9 w9 hown9 hgr9 hnil9; obtain ⟨g2, c2, rfl, o2, b2⟩ := op_more (OwnOp.alloc o1 _) hown9 hgr9 (by simp; omega); clear hown9 hgr9 hnil9)
    go_ret2
    exact ⟨g2, c2, code_ret (by simp) (by go_num), o2, ((b1.mono hB).alloc (by omega) _).trans b2⟩
  | none =>
    have HR := Lib.hid hr
    have HC : Hid (codeT (.leaf s) = [(2, 0, s)]) := Lib.hid (by rw [codeT, hr])
    clear hr
    rw [HC.out]
    go_enter Tryz.func123, Tryz.ntmps123
    go_wp2_with fail
    refine HO.out.mono ?_
    rintro e w1 ⟨rfl, b1⟩
    have hc1 := c1 _ b1
    have hs1 := b1.size
    have o1 := ho.later b1
    go_wp2_with fail
    refine (sReadWord_any s hsx _).mono ?_
    rintro e w' ⟨rfl, rfl⟩
    rw [HR.out]
    go_wp2_with first
      |
(at_builtin; refine wpList_append_own _ rfl _ _ 26 rfl B 30 i0 (.agg #[.int .i64 0, .int .i64 0, .string ⟨#[]⟩]) 3 32 Tryz.underlying26 hi hz0 hz1 hz2 rfl (by decide) _ _ _ rfl (OwnOp.alloc o1 _).row ⟨(w1).heap.size, 0, none⟩ 1 1 (opV (2, 0, s)) rfl rfl (op_new _ _ _ _ _) (op_one (2, 0, s)) (by unfold maxLen; omega) (by omega) (by simp; omega) ?_; intro v9 w9 hown9 hgr9 hnil9; obtain ⟨g2, c2, rfl, o2, b2⟩ := op_more (OwnOp.alloc o1 _) hown9 hgr9 (by simp; omega); clear hown9 hgr9 hnil9)
    go_ret2
    exact ⟨g2, c2, code_ret (by simp) (by go_num), o2, ((b1.mono hB).alloc (by omega) _).trans b2⟩

set_option maxHeartbeats 4000000 in
theorem l8Sum_op (ss : List Txt) (hS : shortS ss) (hn : ss.length ≤ 1048576) (s : Txt) (a b : Sum) (ia : CodeGood ss a) (ib : CodeGood ss b) : CodeGood ss (.op s a b) := by
  intro k B g c v xs w ht h ho hB hx
  obtain ⟨i0, hi, hz0, hz1, hz2⟩ := info_parts Tryz.infoOp
  obtain ⟨A, cv, e⟩ := strs_shape h
  subst e
  obtain ⟨hxs, hop, ha, hb⟩ := at_op ht
  have hsx := hS s (List.mem_of_getElem? hxs)
  have lb := sum_len hb
  have HK : Hid (k + (Sum.op s a b).flat.length = k + 1 + a.flat.length + b.flat.length) := Lib.hid (by simp [Sum.flat]; omega)
  have HC : Hid (xs ++ codeT (.op s a b) = xs ++ codeT a ++ codeT b ++ [(3, opN s, [])]) := Lib.hid (by simp [codeT])
  rw [HK.out, HC.out]
  replace hx : xs.length + (a.flat.length + b.flat.length + 1) ≤ 4194304 := by simpa [Sum.flat] using hx
  have HIA := Lib.hid (fun W x1 x2 x3 => ia (k + 1) B g c (.slice A ss.length cv) xs W ha x1 x2 x3 (by omega))
  have HIB := Lib.hid (fun g c xs W x1 x2 x3 x4 => ib (k + 1 + a.flat.length) B g c (.slice A ss.length cv) xs W hb x1 x2 x3 x4)
  have hla : (codeT a).length = a.flat.length := codeT_len a
  have hlb : (codeT b).length = b.flat.length := codeT_len b
  clear ha hb ht ia ib
  obtain ⟨gs, os, rfl, hgB, hcx⟩ := strs_at h hxs
  have hk : k < ss.length := (List.getElem?_eq_some_iff.1 hxs).1
  clear hxs
  obtain ⟨r0, r1⟩ := opN_range s
  have hpos : decide (0 < opN s) = true := by simp; omega
  have HO := Lib.hid (l6Op_any s w)
  generalize opN s = op at HO r0 r1 hpos ⊢
  generalize a.flat.length = la at *
  generalize b.flat.length = lb' at *
  generalize codeT a = ca at *
  generalize codeT b = cb at *
  go_enter Tryz.func123, Tryz.ntmps123
  go_wp2_with fail
  refine HO.out.mono ?_
  rintro e w1 ⟨rfl, b1⟩
  have hs1 := b1.size
  go_wp2_with fail
  refine (HIA.out _ (h.below (b1.mono hB)) (ho.later b1) (by omega)).mono ?_
  rintro e w2 ⟨g2, c2, rfl, o2, b2⟩
  have hs2 := b2.size
  have b12 := (b1.mono hB).trans b2
  have hl2 : (xs ++ ca).length ≤ xs.length + la := by simp; omega
  generalize hx2 : xs ++ ca = x2 at o2 hl2
  have HX2 := Lib.hid hx2
  clear hx2
  go_wp2_with fail
  refine (HIB.out g2 c2 x2 _ (h.below b12) o2 (by omega) (by omega)).mono ?_
  rintro e w3 ⟨g3, c3, rfl, o3, b3⟩
  have hs3 := b3.size
  have b13 := b12.trans b3
  have hl3 : (x2 ++ cb).length ≤ xs.length + la + lb' := by simp; omega
  generalize hx3 : x2 ++ cb = x3 at o3 hl3
  have HX3 := Lib.hid hx3
  clear hx3
  go_wp2_with first
    |
(at_builtin; refine wpList_append_own _ rfl _ _ 26 rfl B 30 i0 (.agg #[.int .i64 0, .int .i64 0, .string ⟨#[]⟩]) 3 32 Tryz.underlying26 hi hz0 hz1 hz2 rfl (by decide) _ _ _ rfl (OwnOp.alloc o3 _).row ⟨(w3).heap.size, 0, none⟩ 1 1 (opV (3, op, [])) rfl rfl (op_new _ _ _ _ _) (op_one (3, op, [])) (by unfold maxLen; omega) (by omega) (by simp; omega) ?_; intro v9 w9 hown9 hgr9 hnil9; obtain ⟨g4, c4, rfl, o4, b4⟩ := op_more (OwnOp.alloc o3 _) hown9 hgr9 (by simp; omega); clear hown9 hgr9 hnil9)
  go_ret2
  obtain rfl := HX3.out
  obtain rfl := HX2.out
  exact ⟨g4, c4, code_ret (by simp; omega) (by go_num), o4, (b13.alloc (by omega) _).trans b4⟩
theorem l8Sum_good (ss : List Txt) (hS : shortS ss) (hn : ss.length ≤ 1048576) : ∀ t : Sum, CodeGood ss t
  | .leaf s => l8Sum_leaf ss hS hn s
  | .op s a b => l8Sum_op ss hS hn s a b (l8Sum_good ss hS hn a) (l8Sum_good ss hS hn b)

end Go.Proofs.YtjcmfdgphhonhaaGreatDoor

namespace Go.Proofs.YtjcmfdgphhonhaaGreatDoor
open Go.RowKit
set_option linter.unusedVariables false
set_option linter.unusedSectionVars false

/-- One deed, turned: from place k to place e. -/
inductive Turn1 (ss : List Txt) : Nat → Nat → Nat → List Opv → Prop
  | set {k n : Nat} {t : Sum} : sg7 ss k = wSet → SumAt ss (k + 2) t → Turn1 ss k (k + 2 + t.flat.length) n (codeT t ++ [(4, 0, sg7 ss (k + 1))])
  | in_ {k n g : Nat} : sg7 ss k = wIn → gateN (sg7 ss (k + 2)) = some g → Turn1 ss k (k + 3) n [(5, (g : Int), sg7 ss (k + 1))]
  | out {k n g : Nat} {t : Sum} : sg7 ss k = wOut → gateN (sg7 ss (k + 1)) = some g → SumAt ss (k + 2) t → Turn1 ss k (k + 2 + t.flat.length) n (codeT t ++ [(6, (g : Int), [])])
  | stop {k n : Nat} : sg7 ss k = wStop → Turn1 ss k (k + 1) n [(9, 0, [])]
  | loop {k n m : Nat} {t : Sum} {ds : List Opv} : sg7 ss k = wWhile → SumAt ss (k + 1) t → sg7 ss (k + 1 + t.flat.length) = wOpen → Turn ss (k + 1 + t.flat.length + 1) m (n + t.flat.length + 1) ds → sg7 ss m = wShut →
      Turn1 ss k (m + 1) n (codeT t ++ (8, ((n + t.flat.length + 1 + ds.length + 1 : Nat) : Int), []) :: (ds ++ [(7, (n : Int), [])]))
  | fork {k n m m2 : Nat} {t : Sum} {ds bs : List Opv} : sg7 ss k = wIf → SumAt ss (k + 1) t → sg7 ss (k + 1 + t.flat.length) = wOpen → Turn ss (k + 1 + t.flat.length + 1) m (n + t.flat.length + 1) ds → sg7 ss m = wShut → sg7 ss (m + 1) = wOpen → Turn ss (m + 2) m2 (n + t.flat.length + 1 + ds.length + 1) bs → sg7 ss m2 = wShut →
      Turn1 ss k (m2 + 1) n (codeT t ++ (8, ((n + t.flat.length + 1 + ds.length + 1 : Nat) : Int), []) :: (ds ++ (7, ((n + t.flat.length + 1 + ds.length + 1 + bs.length : Nat) : Int), []) :: bs))
theorem Turn.at_ {ss : List Txt} {k e n m : Nat} {cs : List Opv} (h : Turn ss k e n cs) (q : n = m) : Turn ss k e m cs := q ▸ h
/-- Either nothing, or a deed and what follows. -/
theorem Turn.inv {ss : List Txt} {k e n : Nat} {cs : List Opv} (h : Turn ss k e n cs) : (k = e ∧ cs = []) ∨ ∃ k1 ds bs, Turn1 ss k k1 n ds ∧ Turn ss k1 e (n + ds.length) bs ∧ cs = ds ++ bs := by
  cases h with
  | nil => exact .inl ⟨rfl, rfl⟩
  | set a b r => exact .inr ⟨_, _, _, .set a b, by simpa [codeT_len, Nat.add_assoc] using r, by simp⟩
  | in_ a b r => exact .inr ⟨_, _, _, .in_ a b, by simpa using r, by simp⟩
  | out a b c r => exact .inr ⟨_, _, _, .out a b c, by simpa [codeT_len, Nat.add_assoc] using r, by simp⟩
  | stop a r => exact .inr ⟨_, _, _, .stop a, by simpa using r, by simp⟩
  | loop a b c d f r => exact .inr ⟨_, _, _, .loop a b c d f, r.at_ (by simp [codeT_len]; omega), by simp⟩
  | fork a b c d f g i j r => exact .inr ⟨_, _, _, .fork a b c d f g i j, r.at_ (by simp [codeT_len]; omega), by simp⟩
theorem Turn1.lt {ss : List Txt} {k e n : Nat} {cs : List Opv} (h : Turn1 ss k e n cs) : cs.length + k ≤ e ∧ k < e := by
  cases h with
  | set _ b => simp [codeT_len]; omega
  | in_ => simp; omega
  | out _ _ b => simp [codeT_len]; omega
  | stop => simp; omega
  | loop _ _ _ d _ => have := d.len; simp [codeT_len]; omega
  | fork _ _ _ d _ _ i _ => have := d.len; have := i.len; simp [codeT_len]; omega
theorem sg_at {ss : List Txt} {k : Nat} {x : Txt} (h : sg7 ss k = x) (hx : x ≠ []) : ss[k]? = some x := sg7_at h hx

theorem Turn1.head {ss : List Txt} {k e n : Nat} {cs : List Opv} (h : Turn1 ss k e n cs) : headB (sg7 ss k) = true := by
  cases h with
  | set a => rw [a]; decide
  | in_ a => rw [a]; decide
  | out a => rw [a]; decide
  | stop a => rw [a]; decide
  | loop a => rw [a]; decide
  | fork a => rw [a]; decide
theorem head_ne {x : Txt} (h : headB x = true) : ¬ x = wShut ∧ x ≠ [] := ⟨fun e => by rw [e] at h; revert h; decide, fun e => by rw [e] at h; revert h; decide⟩
/-- The sign at a place, in memory, whatever has been made since. -/
theorem sg_cell {ss : List Txt} {k B : Nat} {A : Option Addr} {cv : Nat} {w : World} {x : Txt} (h : SeeV w B (.slice A ss.length cv) (ss.map str)) (hx : sg7 ss k = x) (hk : k < ss.length) :
    ∃ gs os, A = some ⟨gs, os, none⟩ ∧ ∀ W, Below B w W → W.cell? ⟨gs, os + k, none⟩ = some (str x) := by
  have e : ss[k]? = some x := by
    rw [← hx, sg7_some (List.getElem?_eq_getElem hk)]
    exact List.getElem?_eq_getElem hk
  obtain ⟨gs, os, rfl, hg, hc⟩ := strs_at h e
  exact ⟨gs, os, rfl, fun W b => (b.cell (p := ⟨gs, os + k, none⟩) hg).trans hc⟩

section
variable (ss : List Txt) (hS : shortS ss) (hn : ss.length ≤ 1048576)
include hS hn

set_option maxHeartbeats 4000000 in
theorem l8Deed_set (k B g c : Nat) (v : Value) (xs : List Opv) (t : Sum) (w : World) (h1 : sg7 ss k = wSet) (h2 : SumAt ss (k + 2) t) (h : SeeV w B v (ss.map str)) (ho : OwnOp w B 30 (.slice (some ⟨g, 0, none⟩) xs.length c) xs) (hB : B ≤ w.heap.size) (hx : xs.length ≤ k) :
    Calls Tryz.prog 61 #[.slice (some ⟨g, 0, none⟩) xs.length c, v, .int .i64 (k : Int)] w (CodeOut B (xs ++ (codeT t ++ [(4, 0, sg7 ss (k + 1))])) (k + 2 + t.flat.length) w) := by
  obtain ⟨i0, hi, hz0, hz1, hz2⟩ := info_parts Tryz.infoOp
  obtain ⟨A, cv, e⟩ := strs_shape h
  subst e
  have hl := sum_len h2
  have hp := t.pos
  have HD := Lib.hid (l8Sum_good ss hS hn t (k + 2) B g c _ xs w h2 h ho hB (by omega))
  obtain ⟨gs, os, rfl, hc0⟩ := sg_cell h h1 (by omega)
  obtain ⟨gs', os', e, hc1⟩ := sg_cell h (k := k + 1) rfl (by omega)
  cases e
  have hk0 := hc0 w (Below.refl _ _)
  have hlt := codeT_len t
  generalize sg7 ss (k + 1) = x at hc1 ⊢
  generalize hct : codeT t = ct at HD hlt ⊢
  generalize t.flat.length = lt at *
  clear h ho hct h1 h2 hc0
  go_enter Tryz.func61, Tryz.ntmps61
  go_wp2_with fail
  refine HD.out.mono ?_
  rintro e w1 ⟨g1, c1, rfl, o1, b1⟩
  have hk1 := hc1 w1 b1
  have hs1 := b1.size
  have hl1 : (xs ++ ct).length ≤ xs.length + lt := by simp; omega
  generalize hx1 : xs ++ ct = x1 at o1 hl1
  have HX1 := Lib.hid hx1
  clear hx1
  go_wp2_with first
    |
(at_builtin; refine wpList_append_own _ rfl _ _ 26 rfl B 30 i0 (.agg #[.int .i64 0, .int .i64 0, .string ⟨#[]⟩]) 3 32 Tryz.underlying26 hi hz0 hz1 hz2 rfl (by decide) _ _ _ rfl (OwnOp.alloc o1 _).row ⟨(w1).heap.size, 0, none⟩ 1 1 (opV (4, 0, x)) rfl rfl (op_new _ _ _ _ _) (op_one (4, 0, x)) (by unfold maxLen; omega) (by omega) (by simp; omega) ?_; intro v9 w9 hown9 hgr9 hnil9; obtain ⟨g2, c2, rfl, o2, b2⟩ := op_more (OwnOp.alloc o1 _) hown9 hgr9 (by simp; omega); clear hown9 hgr9 hnil9)
  go_ret2
  obtain rfl := HX1.out
  rw [← List.append_assoc]
  exact ⟨g2, c2, code_ret (by simp <;> omega) (by go_num), o2, (b1.alloc (by omega) _).trans b2⟩

set_option maxHeartbeats 4000000 in
theorem l8Deed_stop (k B g c : Nat) (v : Value) (xs : List Opv) (w : World) (h1 : sg7 ss k = wStop) (h : SeeV w B v (ss.map str)) (ho : OwnOp w B 30 (.slice (some ⟨g, 0, none⟩) xs.length c) xs) (hB : B ≤ w.heap.size) (hx : xs.length ≤ k) :
    Calls Tryz.prog 61 #[.slice (some ⟨g, 0, none⟩) xs.length c, v, .int .i64 (k : Int)] w (CodeOut B (xs ++ [(9, 0, [])]) (k + 1) w) := by
  obtain ⟨i0, hi, hz0, hz1, hz2⟩ := info_parts Tryz.infoOp
  obtain ⟨A, cv, e⟩ := strs_shape h
  subst e
  have hk := sg7_in (ss := ss) (k := k) (by rw [h1]; simp)
  obtain ⟨gs, os, rfl, hc0⟩ := sg_cell h h1 hk
  have hk0 := hc0 w (Below.refl _ _)
  clear h h1 hc0
  go_enter Tryz.func61, Tryz.ntmps61
  go_wp2_with first
    |
(at_builtin; refine wpList_append_own _ rfl _ _ 26 rfl B 30 i0 (.agg #[.int .i64 0, .int .i64 0, .string ⟨#[]⟩]) 3 32 Tryz.underlying26 hi hz0 hz1 hz2 rfl (by decide) _ _ _ rfl (OwnOp.alloc ho _).row ⟨(w).heap.size, 0, none⟩ 1 1 (opV (9, 0, [])) rfl rfl (op_new _ _ _ _ _) (op_one (9, 0, [])) (by unfold maxLen; omega) (by omega) (by simp; omega) ?_; intro v9 w9 hown9 hgr9 hnil9; obtain ⟨g2, c2, rfl, o2, b2⟩ := op_more (OwnOp.alloc ho _) hown9 hgr9 (by simp; omega); clear hown9 hgr9 hnil9)
  go_ret2
  exact ⟨g2, c2, code_ret (by simp <;> omega) (by go_num), o2, ((Below.refl _ w).alloc (by omega) _).trans b2⟩

set_option maxHeartbeats 4000000 in
theorem l8Deed_out (k B g c j : Nat) (v : Value) (xs : List Opv) (t : Sum) (w : World) (h1 : sg7 ss k = wOut) (hj : gateN (sg7 ss (k + 1)) = some j) (h2 : SumAt ss (k + 2) t) (h : SeeV w B v (ss.map str)) (ho : OwnOp w B 30 (.slice (some ⟨g, 0, none⟩) xs.length c) xs) (hB : B ≤ w.heap.size) (hx : xs.length ≤ k) :
    Calls Tryz.prog 61 #[.slice (some ⟨g, 0, none⟩) xs.length c, v, .int .i64 (k : Int)] w (CodeOut B (xs ++ (codeT t ++ [(6, (j : Int), [])])) (k + 2 + t.flat.length) w) := by
  obtain ⟨i0, hi, hz0, hz1, hz2⟩ := info_parts Tryz.infoOp
  obtain ⟨A, cv, e⟩ := strs_shape h
  subst e
  have hl := sum_len h2
  have hp := t.pos
  have HD := Lib.hid (l8Sum_good ss hS hn t (k + 2) B g c _ xs w h2 h ho hB (by omega))
  obtain ⟨gs, os, rfl, hc0⟩ := sg_cell h h1 (by omega)
  obtain ⟨gs', os', e, hc1⟩ := sg_cell h (k := k + 1) rfl (by omega)
  cases e
  have hk0 := hc0 w (Below.refl _ _)
  have hlt := codeT_len t
  have HG := Lib.hid (fun w => l7Gate_any (sg7 ss (k + 1)) w)
  rw [gateI_some hj] at HG
  generalize sg7 ss (k + 1) = x at hc1 HG
  generalize hct : codeT t = ct at HD hlt ⊢
  generalize t.flat.length = lt at *
  clear h ho hct h1 h2 hc0 hj
  go_enter Tryz.func61, Tryz.ntmps61
  go_wp2_with fail
  refine HD.out.mono ?_
  rintro e w1 ⟨g1, c1, rfl, o1, b1⟩
  have hk1 := hc1 w1 b1
  have hs1 := b1.size
  have hl1 : (xs ++ ct).length ≤ xs.length + lt := by simp; omega
  generalize hx1 : xs ++ ct = x1 at o1 hl1
  have HX1 := Lib.hid hx1
  clear hx1
  go_wp2_with fail
  refine (HG.out w1).mono ?_
  rintro e w2 ⟨rfl, b2⟩
  have hs2 := b2.size
  have o2 := o1.later b2
  go_wp2_with first
    |
(at_builtin; refine wpList_append_own _ rfl _ _ 26 rfl B 30 i0 (.agg #[.int .i64 0, .int .i64 0, .string ⟨#[]⟩]) 3 32 Tryz.underlying26 hi hz0 hz1 hz2 rfl (by decide) _ _ _ rfl (OwnOp.alloc o2 _).row ⟨(w2).heap.size, 0, none⟩ 1 1 (opV (6, (j : Int), [])) rfl rfl (op_new _ _ _ _ _) (op_one (6, (j : Int), [])) (by unfold maxLen; omega) (by omega) (by simp; omega) ?_; intro v9 w9 hown9 hgr9 hnil9; obtain ⟨g3, c3, rfl, o3, b3⟩ := op_more (OwnOp.alloc o2 _) hown9 hgr9 (by simp; omega); clear hown9 hgr9 hnil9)
  go_ret2
  obtain rfl := HX1.out
  rw [← List.append_assoc]
  exact ⟨g3, c3, code_ret (by simp <;> omega) (by go_num), o3, ((b1.trans (b2.mono (by omega))).alloc (by omega) _).trans b3⟩

set_option maxRecDepth 100000 in
set_option maxHeartbeats 8000000 in
theorem l8Deed_in (k B g c j : Nat) (v : Value) (xs : List Opv) (w : World) (h1 : sg7 ss k = wIn) (hj : gateN (sg7 ss (k + 2)) = some j) (h : SeeV w B v (ss.map str)) (ho : OwnOp w B 30 (.slice (some ⟨g, 0, none⟩) xs.length c) xs) (hB : B ≤ w.heap.size) (hx : xs.length ≤ k) :
    Calls Tryz.prog 61 #[.slice (some ⟨g, 0, none⟩) xs.length c, v, .int .i64 (k : Int)] w (CodeOut B (xs ++ [(5, (j : Int), sg7 ss (k + 1))]) (k + 3) w) := by
  obtain ⟨i0, hi, hz0, hz1, hz2⟩ := info_parts Tryz.infoOp
  obtain ⟨A, cv, e⟩ := strs_shape h
  subst e
  have hk := sg7_in (ss := ss) (k := k + 2) (fun q => by rw [q, gateN_nil] at hj; cases hj)
  obtain ⟨gs, os, rfl, hc0⟩ := sg_cell h h1 (by omega)
  obtain ⟨gs', os', e, hc1⟩ := sg_cell h (k := k + 1) rfl (by omega)
  cases e
  obtain ⟨gs', os', e, hc2⟩ := sg_cell h (k := k + 2) rfl hk
  cases e
  have hk0 := hc0 w (Below.refl _ _)
  have hk1 := hc1 w (Below.refl _ _)
  have hk2 := hc2 w (Below.refl _ _)
  have HG := Lib.hid (fun w => l7Gate_any (sg7 ss (k + 2)) w)
  rw [gateI_some hj] at HG
  generalize sg7 ss (k + 1) = x at hc1 hk1 ⊢
  generalize sg7 ss (k + 2) = y at hc2 hk2 HG
  have hi1 : (0 : Int) ≤ (k : Int) + 1 ∧ (k : Int) + 1 < ss.length := by omega
  have hi2 : (0 : Int) ≤ (k : Int) + 2 ∧ (k : Int) + 2 < ss.length := by omega
  have hw1 : IntKind.i64.wrap ((k : Int) + 1) = (k : Int) + 1 := by rw [IntKind.wrap_i64]; omega
  have hw2 : IntKind.i64.wrap ((k : Int) + 2) = (k : Int) + 2 := by rw [IntKind.wrap_i64]; omega
  have hw3 : IntKind.i64.wrap ((k : Int) + 3) = (k : Int) + 3 := by rw [IntKind.wrap_i64]; omega
  have ht1 : ((k : Int) + 1).toNat = k + 1 := by omega
  have ht2 : ((k : Int) + 2).toNat = k + 2 := by omega
  have HM1 : Hid (xs.length + 1 ≤ maxLen) := Lib.hid (by unfold maxLen; omega)
  have HM2 : Hid ((xs.length + 1) * 32 ≤ 140737488355328) := Lib.hid (by omega)
  clear h h1 hc0 hj
  go_enter Tryz.func61, Tryz.ntmps61
  go_wp2_with fail
  go_region_law (first
    | (go_simp; refine (HG.out _).mono ?_; rintro e w1 ⟨rfl, b0⟩; have b1 : Below w.heap.size w w1 := (below_drewN (Below.refl w.heap.size w) 1).trans b0; have hk1' := hc1 w1 (b1.mono hB); have hk2' := hc2 w1 (b1.mono hB); have hs1 := b1.size; have HR1 : Hid ((w1.alloc (.cells #[.int .i64 5, .int .i64 (j : Int), str x] 30)).ownsRow B 30 3 (.slice (some ⟨g, 0, none⟩) xs.length c) xs.length (xs.map opV).flatten) := Lib.hid (OwnOp.alloc (OwnOp.later ho b1) _).row; have HN1 : Hid (∀ i u, (opV (5, (j : Int), x))[i]? = some u → (w1.alloc (.cells #[.int .i64 5, .int .i64 (j : Int), str x] 30)).cell? ((⟨w1.heap.size, 0, none⟩ : Addr).add i) = some u) := Lib.hid (op_new _ _ _ _ _); have HB1 : Hid (B ≤ (w1.alloc (.cells #[.int .i64 5, .int .i64 (j : Int), str x] 30)).heap.size) := Lib.hid (by simp; omega); dsimp only)
    | (refine step_append_own _ (by rfl) _ _ _ (by rfl) B 30 i0 (.agg #[.int .i64 0, .int .i64 0, .string ⟨#[]⟩]) 3 32 Tryz.underlying26 hi hz0 hz1 hz2 rfl (by decide) _ _ _ (by rfl) HR1.out ⟨w1.heap.size, 0, none⟩ 1 1 (opV (5, (j : Int), x)) (by rfl) (by rfl) HN1.out (op_one (5, (j : Int), x)) HM1.out HM2.out HB1.out ?_; intro v9 w9 hown9 hgr9 hnil9))
  all_goals (
    obtain ⟨g2, c2, rfl, o2, b2⟩ := op_more (OwnOp.alloc (OwnOp.later ho b1) _) hown9 hgr9 (by simp; omega)
    clear hown9 hgr9 hnil9
    go_wp2_with fail
    go_ret2
    exact ⟨g2, c2, code_ret (by simp <;> omega) (by go_num), o2, ((b1.mono hB).alloc (by omega) _).trans b2⟩)
end

end Go.Proofs.YtjcmfdgphhonhaaGreatDoor

namespace Go.Proofs.YtjcmfdgphhonhaaGreatDoor
open Go.RowKit
set_option linter.unusedVariables false
set_option linter.unusedSectionVars false

theorem ops_set : ∀ (cs : List Opv) (k : Nat) (o : Opv) (z : Int), cs[k]? = some o → ((cs.map opV).flatten).set (k * 3 + 1) (.int .i64 z) = ((cs.set k (o.1, z, o.2.2)).map opV).flatten
  | [], k, o, z, h => by simp at h
  | c :: r, 0, o, z, h => by
    obtain rfl : c = o := by simpa using h
    rfl
  | c :: r, k + 1, o, z, h => by
    have ih := ops_set r k o z (by simpa using h)
    rw [List.set_cons_succ, List.map_cons, List.map_cons, List.flatten_cons, List.flatten_cons, ← ih, show (k + 1) * 3 + 1 = (k * 3 + 1) + 3 by omega]
    rfl
/-- A number stored into an op of a row of one's own. -/
theorem OwnOp.setNum {w : World} {B g n c : Nat} {e : TypeId} {cs p q : List Opv} {o : Opv} (h : OwnOp w B e (.slice (some ⟨g, 0, none⟩) n c) cs) (hc : cs = p ++ o :: q) (z : Int) :
    OwnOp (w.setCell ⟨g, p.length * 3 + 1, none⟩ (.int .i64 z)) B e (.slice (some ⟨g, 0, none⟩) n c) (p ++ (o.1, z, o.2.2) :: q) := by
  have hk : cs[p.length]? = some o := by rw [hc]; simp
  have hs : cs.set p.length (o.1, z, o.2.2) = p ++ (o.1, z, o.2.2) :: q := by rw [hc]; simp
  have hf := ops_set cs p.length o z hk
  rw [hs] at hf
  have hr := h.row
  have hlen : (p ++ (o.1, z, o.2.2) :: q).length = cs.length := by rw [← hs, List.length_set]
  refine OwnOp.of_row (n := cs.length) ?_ hlen.symm
  rw [← hf]
  obtain ⟨hl, hr⟩ := hr
  rcases hr with ⟨q, _⟩ | ⟨g2, c2, cur, q, h1, h2, h3, h4, h5, h6⟩
  · cases q
  · injection q with q1 q2 q3
    injection q1 with q1
    injection q1 with q1
    subst q1 q3
    refine ⟨by rw [List.length_set]; exact hl, .inr ⟨g, c, cur.setIfInBounds (p.length * 3 + 1) (.int .i64 z), by rw [q2], h1, heap_set h2 _, h3, h4, by rw [Array.size_setIfInBounds]; exact h5, ?_⟩⟩
    rw [Array.toList_setIfInBounds, List.take_set, h6]
theorem OwnOp.cellAt {w : World} {B g n c : Nat} {e : TypeId} {cs p q : List Opv} {o : Opv} (h : OwnOp w B e (.slice (some ⟨g, 0, none⟩) n c) cs) (hc : cs = p ++ o :: q) :
    w.cell? ⟨g, p.length * 3 + 1, none⟩ = some (.int .i64 o.2.1) ∧ w.frozen? ⟨g, p.length * 3 + 1, none⟩ = false := by
  have hk : cs[p.length]? = some o := by rw [hc]; simp
  obtain ⟨g', o', e1, _, _, h2, _⟩ := h.see.at_ hk
  cases e1
  refine ⟨by rw [Nat.zero_add] at h2; exact h2, ?_⟩
  rcases h.row.2 with ⟨q, _⟩ | ⟨g2, c2, cur, q, _, hb, _⟩
  · cases q
  · injection q with q1
    injection q1 with q1
    injection q1 with q1
    subst q1
    exact frozen_row hb
theorem Below.setAbove {B : Nat} {w w' : World} (h : Below B w w') {g o : Nat} (hg : B ≤ g) (u : Value) : Below B w (w'.setCell ⟨g, o, none⟩ u) := h.setCell hg u
theorem Turn1.le_len {ss : List Txt} {k e n : Nat} {cs : List Opv} (h : Turn1 ss k e n cs) : e ≤ ss.length := by
  cases h with
  | set _ b => exact sum_len b
  | in_ _ b =>
    have := sg7_in (ss := ss) (k := k + 2) (fun q => by rw [q, gateN_nil] at b; cases b)
    omega
  | out _ _ b => exact sum_len b
  | stop a => have := sg7_in (ss := ss) (k := k) (by rw [a]; simp); omega
  | loop _ _ _ _ f => have := sg7_in (by rw [f]; simp : sg7 ss _ ≠ []); omega
  | fork _ _ _ _ _ _ _ f => have := sg7_in (by rw [f]; simp : sg7 ss _ ≠ []); omega
theorem turn_end {ss : List Txt} {k m n : Nat} {cs : List Opv} (h : Turn ss k m n cs) (hm : headB (sg7 ss m) = false) : k ≤ m ∧ (k = m → cs = []) := by
  have hl := h.len
  refine ⟨by omega, fun e => ?_⟩
  subst e
  cases cs with
  | nil => rfl
  | cons => simp at hl; omega

/-- The model's l8Deed is right at deeds of at most L signs. -/
def DeedGood (ss : List Txt) (L : Nat) : Prop := ∀ (k e B g c : Nat) (v : Value) (xs cs : List Opv) (w : World), e ≤ k + L → Turn1 ss k e xs.length cs → SeeV w B v (ss.map str) → OwnOp w B 30 (.slice (some ⟨g, 0, none⟩) xs.length c) xs → B ≤ w.heap.size → xs.length ≤ k →
  Calls Tryz.prog 61 #[.slice (some ⟨g, 0, none⟩) xs.length c, v, .int .i64 (k : Int)] w (CodeOut B (xs ++ cs) e w)
def BlockGood (ss : List Txt) (L : Nat) : Prop := ∀ (k m B g c : Nat) (v : Value) (xs cs : List Opv) (w : World), m ≤ k + 1 + L → sg7 ss m = wShut → Turn ss (k + 1) m xs.length cs → SeeV w B v (ss.map str) → OwnOp w B 30 (.slice (some ⟨g, 0, none⟩) xs.length c) xs → B ≤ w.heap.size → xs.length ≤ k →
  Calls Tryz.prog 125 #[.slice (some ⟨g, 0, none⟩) xs.length c, v, .int .i64 (k : Int)] w (CodeOut B (xs ++ cs) (m + 1) w)

section
variable (ss : List Txt) (hS : shortS ss) (hn : ss.length ≤ 1048576)
include hS hn

/-- Where l8Block is. -/
def BlkAt (ss : List Txt) (B k m : Nat) (all : List Opv) (w : World) (o i : Value) (wr : World) : Prop :=
  ∃ p g' c', ∃ ys rest : List Opv, o = .slice (some ⟨g', 0, none⟩) ys.length c' ∧ i = .int .i64 ((p : Nat) : Int) ∧ OwnOp wr B 30 (.slice (some ⟨g', 0, none⟩) ys.length c') ys ∧ Below B w wr ∧ Turn ss p m ys.length rest ∧ Hid (ys ++ rest = all) ∧ ys.length ≤ p ∧ k + 1 ≤ p

set_option maxHeartbeats 4000000 in
theorem l8Block_good (L : Nat) (hd : DeedGood ss L) : BlockGood ss L := by
  intro k m B g c v xs cs w hm hs ht h ho hB hx
  obtain ⟨A, cv, e⟩ := strs_shape h
  subst e
  have hmn := sg7_in (ss := ss) (k := m) (by rw [hs]; simp)
  have hle := ht.len
  have hsh := shut_head hs
  have HT := Lib.hid ht
  obtain ⟨gs, os, rfl, hcm⟩ := sg_cell h hs hmn
  have HS := Lib.hid hs
  clear ht hs
  go_enter Tryz.func125, Tryz.ntmps125
  go_wp2_with fail
  go_loopw [0, 2] (BlkAt ss B k m (xs ++ cs) w) (fun _ i _ => m - (intOf i).toNat)
  case atStart => exact ⟨k + 1, g, c, xs, cs, rfl, by go_num, ho, Below.refl _ _, HT.out, Lib.hid rfl, by omega, Nat.le_refl _⟩
  case round =>
    clear ho
    obtain ⟨p, g', c', ys, rest, rfl, rfl, ho, hbw, hT, hH, hyp, hkp⟩ := hrel
    have hsz := hbw.size
    have hpm := turn_end hT hsh
    by_cases hp : p = m
    · subst hp
      have hr := hpm.2 rfl
      subst hr
      have hcell := hcm wr hbw
      have HH : Hid (ys = xs ++ cs) := Lib.hid (by have := hH.out; rwa [List.append_nil] at this)
      clear hH hT
      go_wp2_with fail
      go_ret2
      obtain rfl := HH.out
      exact ⟨g', c', code_ret rfl (by go_num), ho, hbw⟩
    · rcases hT.inv with ⟨q, _⟩ | ⟨p1, ds, bs, h1, h2, rfl⟩
      · exact absurd q hp
      have hlt := h1.lt
      have hp1 := turn_end h2 hsh
      obtain ⟨hne0, hnn⟩ := head_ne h1.head
      have hpn := sg7_in hnn
      obtain ⟨gs', os', e, hcp⟩ := sg_cell h (k := p) rfl hpn
      cases e
      have hcell := hcp wr hbw
      have hne : (sg7 ss p == [93]) = false := by simpa using hne0
      have HD := Lib.hid (hd p p1 B g' c' _ ys ds wr (by omega) h1 (h.below hbw) ho (by omega) hyp)
      have H2 := Lib.hid h2
      have hl1 := hlt.1
      generalize sg7 ss p = x at hcell hne
      clear hT h1 h2 hne0 hnn hcp ho
      go_wp2_with fail
      refine HD.out.mono ?_
      rintro e w2 ⟨g2, c2, rfl, o2, b2⟩
      generalize hyz : ys ++ ds = zs at o2
      have HZ := Lib.hid hyz
      have hzl : zs.length = ys.length + ds.length := by rw [← hyz]; simp
      have HZL := Lib.hid hzl
      have hz1 : zs.length ≤ p1 := by omega
      clear hyz hzl
      go_wp2_with fail
      go_roundw
      case rel => exact ⟨p1, g2, c2, zs, bs, rfl, rfl, o2, hbw.trans b2, by rw [HZL.out]; exact H2.out, Lib.hid (by rw [← HZ.out, List.append_assoc]; exact hH.out), hz1, by omega⟩
      case measure => simp [intOf]; omega
end

end Go.Proofs.YtjcmfdgphhonhaaGreatDoor

namespace Go.Proofs.YtjcmfdgphhonhaaGreatDoor
open Go.RowKit
set_option linter.unusedVariables false
set_option linter.unusedSectionVars false

theorem sg_low {ss : List Txt} {B gs os cv : Nat} {w : World} (h : SeeV w B (.slice (some ⟨gs, os, none⟩) ss.length cv) (ss.map str)) (hk : 0 < ss.length) : gs < B := by
  obtain ⟨g', o', e, hg, _⟩ := strs_at h (List.getElem?_eq_getElem hk)
  cases e
  exact hg

section
variable (ss : List Txt) (hS : shortS ss) (hn : ss.length ≤ 1048576)
include hS hn

set_option maxHeartbeats 8000000 in
theorem l8Deed_loop (L : Nat) (hb : BlockGood ss L) (k m B g c : Nat) (v : Value) (xs ds : List Opv) (t : Sum) (w : World) (hm : m ≤ k + 1 + L) (h1 : sg7 ss k = wWhile) (h2 : SumAt ss (k + 1) t) (ht : Turn ss (k + 1 + t.flat.length + 1) m (xs.length + t.flat.length + 1) ds) (hs : sg7 ss m = wShut)
    (h : SeeV w B v (ss.map str)) (ho : OwnOp w B 30 (.slice (some ⟨g, 0, none⟩) xs.length c) xs) (hB : B ≤ w.heap.size) (hx : xs.length ≤ k) :
    Calls Tryz.prog 61 #[.slice (some ⟨g, 0, none⟩) xs.length c, v, .int .i64 (k : Int)] w (CodeOut B (xs ++ (codeT t ++ (8, ((xs.length + t.flat.length + 1 + ds.length + 1 : Nat) : Int), []) :: (ds ++ [(7, (xs.length : Int), [])]))) (m + 1) w) := by
  obtain ⟨i0, hi, hz0, hz1, hz2⟩ := info_parts Tryz.infoOp
  obtain ⟨A, cv, e⟩ := strs_shape h
  subst e
  have hl := sum_len h2
  have hp := t.pos
  have HD := Lib.hid (l8Sum_good ss hS hn t (k + 1) B g c _ xs w h2 h ho hB (by omega))
  have hmn := sg7_in (ss := ss) (k := m) (by rw [hs]; simp)
  have hdl := ht.len
  obtain ⟨gs, os, rfl, hc0⟩ := sg_cell h h1 (by omega)
  have hlow := sg_low h (by omega)
  have hk0 := hc0 w (Below.refl _ _)
  have HC0 := Lib.hid hc0
  have hlt := codeT_len t
  have HB := Lib.hid (fun g c x W (e : x.length = xs.length + t.flat.length + 1) y1 y2 y3 => hb (k + 1 + t.flat.length) m B g c (.slice (some ⟨gs, os, none⟩) ss.length cv) x ds W (by omega) hs (ht.at_ e.symm) (h.below y1) y2 y3 (by omega))
  have HNIF : Hid ((wWhile == [105, 102]) = false) := Lib.hid (by decide)
  generalize hct : codeT t = ct at HD hlt ⊢
  generalize t.flat.length = lt at *
  obtain ⟨R, HR⟩ : ∃ R, Hid (R = xs ++ (ct ++ (8, ((xs.length + lt + 1 + ds.length + 1 : Nat) : Int), []) :: (ds ++ [((7 : Int), (xs.length : Int), ([] : Txt))]))) := ⟨_, Lib.hid rfl⟩
  rw [← HR.out]
  clear h hct h1 h2 ht hs hc0 ho
  go_enter Tryz.func61, Tryz.ntmps61
  go_wp2_with fail
  refine HD.out.mono ?_
  rintro e w1 ⟨g1, c1, rfl, o1, b1⟩
  have hs1 := b1.size
  have hl1 : (xs ++ ct).length ≤ xs.length + lt := by simp; omega
  have HL1 : Hid ((xs ++ ct).length = xs.length + lt) := Lib.hid (by simp; omega)
  generalize hx1 : xs ++ ct = x1 at o1 hl1 HL1
  have HX1 := Lib.hid hx1
  clear hx1
  have B1 := Lib.hid b1
  clear b1
  go_wp2_with first
    |
(at_builtin; refine wpList_append_own _ rfl _ _ 26 rfl B 30 i0 (.agg #[.int .i64 0, .int .i64 0, .string ⟨#[]⟩]) 3 32 Tryz.underlying26 hi hz0 hz1 hz2 rfl (by decide) _ _ _ rfl (OwnOp.alloc o1 _).row ⟨(w1).heap.size, 0, none⟩ 1 1 (opV (8, 0, [])) rfl rfl (op_new _ _ _ _ _) (op_one (8, 0, [])) (by unfold maxLen; omega) (by omega) (by simp; omega) ?_; intro v9 w9 hown9 hgr9 hnil9; obtain ⟨g2, c2, rfl, o2, b2⟩ := op_more (OwnOp.alloc o1 _) hown9 hgr9 (by simp; omega); clear hown9 hgr9 hnil9)
  have B2 := Lib.hid ((B1.out.alloc (by omega) (.cells #[.int .i64 8, .int .i64 0, str []] 30)).trans b2)
  have hs2 := B2.out.size
  clear b2
  generalize hx2 : x1 ++ [((8 : Int), (0 : Int), ([] : Txt))] = x2 at o2
  have HX2 := Lib.hid hx2
  have HL2 : Hid (x2.length = xs.length + lt + 1) := Lib.hid (by rw [← hx2]; simp [HL1.out])
  have HQ2 : Hid (x1.length + 1 = x2.length) := Lib.hid (by rw [← hx2]; simp)
  have hl2 : x2.length ≤ xs.length + lt + 1 := by rw [HL2.out]; omega
  clear hx2
  try rw [HQ2.out]
  refine (HB.out g2 c2 x2 _ HL2.out B2.out o2 (by omega)).mono ?_
  rintro e w3 ⟨g3, c3, rfl, o3, b3⟩
  have B3 := Lib.hid (B2.out.trans b3)
  have hs3 := B3.out.size
  clear b3 o2
  generalize hx3 : x2 ++ ds = x3 at o3
  have HX3 := Lib.hid hx3
  have HL3 : Hid (x3.length = xs.length + lt + 1 + ds.length) := Lib.hid (by rw [← hx3]; simp [HL2.out])
  have hl3 : x3.length ≤ xs.length + lt + 1 + ds.length := by rw [HL3.out]; omega
  clear hx3
  have HE : Hid (x3 ++ [((7 : Int), (xs.length : Int), ([] : Txt))] = x1 ++ (8, 0, []) :: (ds ++ [((7 : Int), (xs.length : Int), ([] : Txt))])) := Lib.hid (by rw [← HX3.out, ← HX2.out]; simp)
  have HZ : Hid (xs ++ (ct ++ (8, ((xs.length + lt + 1 + ds.length + 1 : Nat) : Int), []) :: (ds ++ [(7, (xs.length : Int), [])])) = x1 ++ (8, ((x3.length + 1 : Nat) : Int), []) :: (ds ++ [((7 : Int), (xs.length : Int), ([] : Txt))])) := Lib.hid (by rw [← HX1.out, HL3.out]; simp)
  have HRZ := Lib.hid (HR.out.trans HZ.out)
  have hq3 : x1.length < x3.length + 1 := by rw [HL1.out, HL3.out]; omega
  have hi1 : (0 : Int) ≤ (x1.length : Int) ∧ (x1.length : Int) < (x3.length : Int) + 1 := by omega
  clear HZ HX1 HX2 HX3 HR
  go_wp2_with first
    |
(at_builtin; refine wpList_append_own _ rfl _ _ 26 rfl B 30 i0 (.agg #[.int .i64 0, .int .i64 0, .string ⟨#[]⟩]) 3 32 Tryz.underlying26 hi hz0 hz1 hz2 rfl (by decide) _ _ _ rfl (OwnOp.alloc o3 _).row ⟨(w3).heap.size, 0, none⟩ 1 1 (opV (7, (xs.length : Int), [])) rfl rfl (op_new _ _ _ _ _) (op_one (7, (xs.length : Int), [])) (by unfold maxLen; omega) (by omega) (by simp; omega) ?_; intro v9 w9 hown9 hgr9 hnil9; obtain ⟨g4, c4, rfl, o4, b4⟩ := op_more (OwnOp.alloc o3 _) hown9 hgr9 (by simp; omega); clear hown9 hgr9 hnil9; have B4 := Lib.hid ((B3.out.alloc (by omega) (.cells #[.int .i64 7, .int .i64 (xs.length : Int), str []] 30)).trans b4); have hk4 := HC0.out _ B4.out; have hcA := (OwnOp.cellAt o4 HE.out).1; have hcF := (OwnOp.cellAt o4 HE.out).2; have hg4 := (o4.lt g4 rfl).1; have hne : ¬ gs = g4 := (by omega); have hne2 : ¬ g4 = gs := (by omega); have O4 := Lib.hid o4; clear o4 b4)
  go_ret2
  rw [HRZ.out]
  have hlen : (x3 ++ [((7 : Int), (xs.length : Int), ([] : Txt))]).length = (x1 ++ ((8 : Int), ((x3.length + 1 : Nat) : Int), ([] : Txt)) :: (ds ++ [((7 : Int), (xs.length : Int), ([] : Txt))])).length := by rw [HE.out]; simp
  have hlen2 : x3.length + 1 = (x1 ++ ((8 : Int), ((x3.length + 1 : Nat) : Int), ([] : Txt)) :: (ds ++ [((7 : Int), (xs.length : Int), ([] : Txt))])).length := by rw [← hlen]; simp
  have q := O4.out.setNum HE.out ((x3.length + 1 : Nat) : Int)
  rw [hlen] at q
  exact ⟨g4, c4, code_ret hlen2 (by go_num), q, B4.out.setCell hg4 _⟩

set_option maxHeartbeats 8000000 in
theorem l8Deed_fork (L : Nat) (hb : BlockGood ss L) (k m m2 B g c : Nat) (v : Value) (xs ds bs : List Opv) (t : Sum) (w : World) (hm : m ≤ k + 1 + L) (hm2 : m2 ≤ m + 2 + L) (h1 : sg7 ss k = wIf) (h2 : SumAt ss (k + 1) t) (ht : Turn ss (k + 1 + t.flat.length + 1) m (xs.length + t.flat.length + 1) ds) (hs : sg7 ss m = wShut)
    (ht2 : Turn ss (m + 2) m2 (xs.length + t.flat.length + 1 + ds.length + 1) bs) (hs2 : sg7 ss m2 = wShut)
    (h : SeeV w B v (ss.map str)) (ho : OwnOp w B 30 (.slice (some ⟨g, 0, none⟩) xs.length c) xs) (hB : B ≤ w.heap.size) (hx : xs.length ≤ k) :
    Calls Tryz.prog 61 #[.slice (some ⟨g, 0, none⟩) xs.length c, v, .int .i64 (k : Int)] w (CodeOut B (xs ++ (codeT t ++ (8, ((xs.length + t.flat.length + 1 + ds.length + 1 : Nat) : Int), []) :: (ds ++ (7, ((xs.length + t.flat.length + 1 + ds.length + 1 + bs.length : Nat) : Int), []) :: bs))) (m2 + 1) w) := by
  obtain ⟨i0, hi, hz0, hz1, hz2⟩ := info_parts Tryz.infoOp
  obtain ⟨A, cv, e⟩ := strs_shape h
  subst e
  have hl := sum_len h2
  have hp := t.pos
  have HD := Lib.hid (l8Sum_good ss hS hn t (k + 1) B g c _ xs w h2 h ho hB (by omega))
  have hmn := sg7_in (ss := ss) (k := m) (by rw [hs]; simp)
  have hdl := ht.len
  obtain ⟨gs, os, rfl, hc0⟩ := sg_cell h h1 (by omega)
  have hlow := sg_low h (by omega)
  have hk0 := hc0 w (Below.refl _ _)
  have HC0 := Lib.hid hc0
  have hlt := codeT_len t
  have HB := Lib.hid (fun g c x W (e : x.length = xs.length + t.flat.length + 1) y1 y2 y3 => hb (k + 1 + t.flat.length) m B g c (.slice (some ⟨gs, os, none⟩) ss.length cv) x ds W (by omega) hs (ht.at_ e.symm) (h.below y1) y2 y3 (by omega))
  have hm2n := sg7_in (ss := ss) (k := m2) (by rw [hs2]; simp)
  have hbl := ht2.len
  have HB2 : Hid (∀ (g c n : Nat) (x : List Opv) (W : World), x.length = n → n = xs.length + t.flat.length + 1 + ds.length + 1 → Below B w W → OwnOp W B 30 (.slice (some ⟨g, 0, none⟩) n c) x → B ≤ W.heap.size →
      Calls Tryz.prog 125 #[.slice (some ⟨g, 0, none⟩) n c, .slice (some ⟨gs, os, none⟩) ss.length cv, .int .i64 ((m + 1 : Nat) : Int)] W (CodeOut B (x ++ bs) (m2 + 1) W)) := Lib.hid (by
    intro g c n x W e e2 y1 y2 y3
    subst e
    exact hb (m + 1) m2 B g c _ x bs W (by omega) hs2 (ht2.at_ e2.symm) (h.below y1) y2 y3 (by omega))
  generalize hct : codeT t = ct at HD hlt ⊢
  generalize t.flat.length = lt at *
  obtain ⟨R, HR⟩ : ∃ R, Hid (R = xs ++ (ct ++ (8, ((xs.length + lt + 1 + ds.length + 1 : Nat) : Int), []) :: (ds ++ ((7 : Int), ((xs.length + lt + 1 + ds.length + 1 + bs.length : Nat) : Int), ([] : Txt)) :: bs))) := ⟨_, Lib.hid rfl⟩
  rw [← HR.out]
  clear h hct h1 h2 ht hs hc0 ho ht2 hs2
  go_enter Tryz.func61, Tryz.ntmps61
  go_wp2_with fail
  refine HD.out.mono ?_
  rintro e w1 ⟨g1, c1, rfl, o1, b1⟩
  have hs1 := b1.size
  have hl1 : (xs ++ ct).length ≤ xs.length + lt := by simp; omega
  have HL1 : Hid ((xs ++ ct).length = xs.length + lt) := Lib.hid (by simp; omega)
  generalize hx1 : xs ++ ct = x1 at o1 hl1 HL1
  have HX1 := Lib.hid hx1
  clear hx1
  have B1 := Lib.hid b1
  clear b1
  go_wp2_with first
    |
(at_builtin; refine wpList_append_own _ rfl _ _ 26 rfl B 30 i0 (.agg #[.int .i64 0, .int .i64 0, .string ⟨#[]⟩]) 3 32 Tryz.underlying26 hi hz0 hz1 hz2 rfl (by decide) _ _ _ rfl (OwnOp.alloc o1 _).row ⟨(w1).heap.size, 0, none⟩ 1 1 (opV (8, 0, [])) rfl rfl (op_new _ _ _ _ _) (op_one (8, 0, [])) (by unfold maxLen; omega) (by omega) (by simp; omega) ?_; intro v9 w9 hown9 hgr9 hnil9; obtain ⟨g2, c2, rfl, o2, b2⟩ := op_more (OwnOp.alloc o1 _) hown9 hgr9 (by simp; omega); clear hown9 hgr9 hnil9)
  have B2 := Lib.hid ((B1.out.alloc (by omega) (.cells #[.int .i64 8, .int .i64 0, str []] 30)).trans b2)
  have hs2 := B2.out.size
  clear b2
  generalize hx2 : x1 ++ [((8 : Int), (0 : Int), ([] : Txt))] = x2 at o2
  have HX2 := Lib.hid hx2
  have HL2 : Hid (x2.length = xs.length + lt + 1) := Lib.hid (by rw [← hx2]; simp [HL1.out])
  have HQ2 : Hid (x1.length + 1 = x2.length) := Lib.hid (by rw [← hx2]; simp)
  have hl2 : x2.length ≤ xs.length + lt + 1 := by rw [HL2.out]; omega
  clear hx2
  try rw [HQ2.out]
  refine (HB.out g2 c2 x2 _ HL2.out B2.out o2 (by omega)).mono ?_
  rintro e w3 ⟨g3, c3, rfl, o3, b3⟩
  have B3 := Lib.hid (B2.out.trans b3)
  have hs3 := B3.out.size
  clear b3 o2
  generalize hx3 : x2 ++ ds = x3 at o3
  have HX3 := Lib.hid hx3
  have HL3 : Hid (x3.length = xs.length + lt + 1 + ds.length) := Lib.hid (by rw [← hx3]; simp [HL2.out])
  have hl3 : x3.length ≤ xs.length + lt + 1 + ds.length := by rw [HL3.out]; omega
  clear hx3
  have HE : Hid (x3 ++ [((7 : Int), (xs.length : Int), ([] : Txt))] = x1 ++ (8, 0, []) :: (ds ++ [((7 : Int), (xs.length : Int), ([] : Txt))])) := Lib.hid (by rw [← HX3.out, ← HX2.out]; simp)
  have HXX := Lib.hid (show x3.length = (x1 ++ ((8 : Int), ((x3.length + 1 : Nat) : Int), ([] : Txt)) :: ds).length by rw [HL3.out]; simp [HL1.out]; omega)
  have hq3 : x1.length < x3.length + 1 := by rw [HL1.out, HL3.out]; omega
  have hi1 : (0 : Int) ≤ (x1.length : Int) ∧ (x1.length : Int) < (x3.length : Int) + 1 := by omega
  clear HX2 HX3
  go_wp2_with first
    |
(at_builtin; refine wpList_append_own _ rfl _ _ 26 rfl B 30 i0 (.agg #[.int .i64 0, .int .i64 0, .string ⟨#[]⟩]) 3 32 Tryz.underlying26 hi hz0 hz1 hz2 rfl (by decide) _ _ _ rfl (OwnOp.alloc o3 _).row ⟨(w3).heap.size, 0, none⟩ 1 1 (opV (7, (xs.length : Int), [])) rfl rfl (op_new _ _ _ _ _) (op_one (7, (xs.length : Int), [])) (by unfold maxLen; omega) (by omega) (by simp; omega) ?_; intro v9 w9 hown9 hgr9 hnil9; obtain ⟨g4, c4, rfl, o4, b4⟩ := op_more (OwnOp.alloc o3 _) hown9 hgr9 (by simp; omega); clear hown9 hgr9 hnil9; have B4 := Lib.hid ((B3.out.alloc (by omega) (.cells #[.int .i64 7, .int .i64 (xs.length : Int), str []] 30)).trans b4); have hk4 := HC0.out _ B4.out; have hcA := (OwnOp.cellAt o4 HE.out).1; have hcF := (OwnOp.cellAt o4 HE.out).2; have hg4 := (o4.lt g4 rfl).1; have hne : ¬ gs = g4 := (by omega); have hne2 : ¬ g4 = gs := (by omega); have O4 := Lib.hid o4; clear o4 b4)
  have hlen2 : Hid ((x1 ++ ((8 : Int), ((x3.length + 1 : Nat) : Int), ([] : Txt)) :: (ds ++ [((7 : Int), (xs.length : Int), ([] : Txt))])).length = x3.length + 1) := Lib.hid (by have := congrArg List.length HE.out; simp at this ⊢; omega)
  have O5 : Hid (OwnOp (w9.setCell ⟨g4, x1.length * 3 + 1, none⟩ (.int .i64 ((x3.length + 1 : Nat) : Int))) B 30 (.slice (some ⟨g4, 0, none⟩) (x3.length + 1) c4) (x1 ++ ((8 : Int), ((x3.length + 1 : Nat) : Int), ([] : Txt)) :: (ds ++ [((7 : Int), (xs.length : Int), ([] : Txt))]))) := Lib.hid (by
    have q := O4.out.setNum HE.out ((x3.length + 1 : Nat) : Int)
    have e : (x3 ++ [((7 : Int), (xs.length : Int), ([] : Txt))]).length = x3.length + 1 := by simp
    rw [e] at q
    exact q)
  have B5 := Lib.hid (B4.out.setCell (p := ⟨g4, x1.length * 3 + 1, none⟩) hg4 (.int .i64 ((x3.length + 1 : Nat) : Int)))
  refine (HB2.out g4 c4 (x3.length + 1) _ _ hlen2.out (by rw [HL3.out]) B5.out O5.out (by have := B5.out.size; omega)).mono ?_
  rintro e w6 ⟨g6, c6, rfl, o6, b6⟩
  have HE6 : Hid (x1 ++ ((8 : Int), ((x3.length + 1 : Nat) : Int), ([] : Txt)) :: (ds ++ [((7 : Int), (xs.length : Int), ([] : Txt))]) ++ bs = (x1 ++ ((8 : Int), ((x3.length + 1 : Nat) : Int), ([] : Txt)) :: ds) ++ ((7 : Int), (xs.length : Int), ([] : Txt)) :: bs) := Lib.hid (by simp)
  have HL6 : Hid ((x1 ++ ((8 : Int), ((x3.length + 1 : Nat) : Int), ([] : Txt)) :: (ds ++ [((7 : Int), (xs.length : Int), ([] : Txt))]) ++ bs).length = x3.length + 1 + bs.length) := Lib.hid (by rw [List.length_append, hlen2.out])
  have HZ : Hid (R = (x1 ++ ((8 : Int), ((x3.length + 1 : Nat) : Int), ([] : Txt)) :: ds) ++ ((7 : Int), ((x3.length + 1 + bs.length : Nat) : Int), ([] : Txt)) :: bs) := Lib.hid (by rw [HR.out, ← HX1.out, HL3.out]; simp)
  generalize x1 ++ ((8 : Int), ((x3.length + 1 : Nat) : Int), ([] : Txt)) :: ds = y5 at HXX HE6 HZ
  generalize x1 ++ ((8 : Int), ((x3.length + 1 : Nat) : Int), ([] : Txt)) :: (ds ++ [((7 : Int), (xs.length : Int), ([] : Txt))]) ++ bs = x6 at o6 HE6 HL6
  have hl6 : x3.length < x6.length := by rw [HL6.out]; omega
  have hl7 : x6.length ≤ x3.length + 1 + bs.length := by rw [HL6.out]; omega
  have hi6 : (0 : Int) ≤ (x3.length : Int) ∧ (x3.length : Int) < (x6.length : Int) := by omega
  have hcA6 := (OwnOp.cellAt o6 HE6.out).1
  have hcF6 := (OwnOp.cellAt o6 HE6.out).2
  rw [← HXX.out] at hcA6 hcF6
  have hg6 := (o6.lt g6 rfl).1
  have O6 := Lib.hid o6
  have B6 := Lib.hid (B5.out.trans b6)
  clear o6 b6 O5 B5 B4 O4 hk4 hcA hcF
  go_wp2_with fail
  go_ret2
  have q := O6.out.setNum HE6.out (x6.length : Int)
  rw [← HXX.out] at q
  rw [HZ.out]
  have e6 : x6.length = (y5 ++ ((7 : Int), ((x3.length + 1 + bs.length : Nat) : Int), ([] : Txt)) :: bs).length := by rw [HE6.out]; simp
  have e7 := HL6.out
  dsimp only at q
  rw [e7] at q e6 ⊢
  obtain ⟨z, hz⟩ : ∃ z : Int, z = ((x3.length + 1 + bs.length : Nat) : Int) := ⟨_, rfl⟩
  rw [← hz] at q e6
  rw [e6] at q
  subst hz
  exact ⟨g6, c6, code_ret e6 (by go_num), q, B6.out.setCell hg6 _⟩

theorem deed_good : ∀ L : Nat, DeedGood ss L
  | 0 => fun k e B g c v xs cs w he ht => by have := ht.lt; omega
  | L + 1 => by
    have hb := l8Block_good ss hS hn L (deed_good L)
    intro k e B g c v xs cs w he ht h ho hB hx
    cases ht with
    | set a b => exact l8Deed_set ss hS hn k B g c v xs _ w a b h ho hB hx
    | in_ a b => exact l8Deed_in ss hS hn k B g c _ v xs w a b h ho hB hx
    | out a b d => exact l8Deed_out ss hS hn k B g c _ v xs _ w a b d h ho hB hx
    | stop a => exact l8Deed_stop ss hS hn k B g c v xs w a h ho hB hx
    | loop a b d f i => exact l8Deed_loop ss hS hn L hb k _ B g c v xs _ _ w (by omega) a b f i h ho hB hx
    | fork a b d f i j p q =>
      have := f.len
      have := p.len
      exact l8Deed_fork ss hS hn L hb k _ _ B g c v xs _ _ _ w (by omega) (by omega) a b f i p q h ho hB hx
end

end Go.Proofs.YtjcmfdgphhonhaaGreatDoor
