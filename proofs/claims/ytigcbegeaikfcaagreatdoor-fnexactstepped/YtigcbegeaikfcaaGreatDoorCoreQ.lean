/- Layer 9 (the player): what the model's l9Do does, op by op. No conditions but those typed. Layer 9 (the player): what the model's l9Do does at push and load. No conditions but those typed. -/
import Derived.Test.YtigcbegeaikfcaaGreatDoorCoreP
import Derived.Deep.CutRange
import Derived.Maps.AppendAt
namespace Go.Proofs.YtigcbegeaikfcaaGreatDoor
open Go.RowKit
set_option linter.unusedVariables false

theorem cells8 {w : World} {g : Nat} {a b c d e f h i : Value} {T : TypeId} (r : w.heap[g]? = some (.cells #[a, b, c, d, e, f, h, i] T (0, 0))) :
    w.cell? ⟨g, 0, none⟩ = some a ∧ w.cell? ⟨g, 1, none⟩ = some b ∧ w.cell? ⟨g, 2, none⟩ = some c ∧ w.cell? ⟨g, 3, none⟩ = some d ∧ w.cell? ⟨g, 4, none⟩ = some e ∧ w.cell? ⟨g, 5, none⟩ = some f ∧ w.cell? ⟨g, 6, none⟩ = some h ∧ w.cell? ⟨g, 7, none⟩ = some i :=
  ⟨by rw [cell_of_row _ _ 0 _ _ (0, 0) r]; rfl, by rw [cell_of_row _ _ 1 _ _ (0, 0) r]; rfl, by rw [cell_of_row _ _ 2 _ _ (0, 0) r]; rfl, by rw [cell_of_row _ _ 3 _ _ (0, 0) r]; rfl, by rw [cell_of_row _ _ 4 _ _ (0, 0) r]; rfl,
   by rw [cell_of_row _ _ 5 _ _ (0, 0) r]; rfl, by rw [cell_of_row _ _ 6 _ _ (0, 0) r]; rfl, by rw [cell_of_row _ _ 7 _ _ (0, 0) r]; rfl⟩
theorem cells3 {w : World} {g : Nat} {a b c : Value} {T : TypeId} (r : w.heap[g]? = some (.cells #[a, b, c] T (0, 0))) :
    w.cell? ⟨g, 0, none⟩ = some a ∧ w.cell? ⟨g, 1, none⟩ = some b ∧ w.cell? ⟨g, 2, none⟩ = some c :=
  ⟨by rw [cell_of_row _ _ 0 _ _ (0, 0) r]; rfl, by rw [cell_of_row _ _ 1 _ _ (0, 0) r]; rfl, by rw [cell_of_row _ _ 2 _ _ (0, 0) r]; rfl⟩
def set8 (W : World) (N : Nat) (x0 x1 x2 x3 x4 x5 x6 x7 : Value) : World := (((((((W.setCell ⟨N, 0, none⟩ x0).setCell ⟨N, 1, none⟩ x1).setCell ⟨N, 2, none⟩ x2).setCell ⟨N, 3, none⟩ x3).setCell ⟨N, 4, none⟩ x4).setCell ⟨N, 5, none⟩ x5).setCell ⟨N, 6, none⟩ x6).setCell ⟨N, 7, none⟩ x7
theorem set8_blk {W : World} {N : Nat} {t : TypeId} {y0 y1 y2 y3 y4 y5 y6 y7 : Value} (h : W.heap[N]? = some (.cells #[y0, y1, y2, y3, y4, y5, y6, y7] t (0, 0))) (x0 x1 x2 x3 x4 x5 x6 x7 : Value) : (set8 W N x0 x1 x2 x3 x4 x5 x6 x7).heap[N]? = some (.cells #[x0, x1, x2, x3, x4, x5, x6, x7] t (0, 0)) := by
  unfold set8
  rw [heap_set (heap_set (heap_set (heap_set (heap_set (heap_set (heap_set (heap_set h x0) x1) x2) x3) x4) x5) x6) x7]
  simp
theorem set8_below {w W : World} {B N : Nat} (h : Below B w W) (hN : B ≤ N) (x0 x1 x2 x3 x4 x5 x6 x7 : Value) : Below B w (set8 W N x0 x1 x2 x3 x4 x5 x6 x7) :=
  (((((((h.setCell hN _).setCell hN _).setCell hN _).setCell hN _).setCell hN _).setCell hN _).setCell hN _).setCell hN _
/-- A store into a block that is none of a core's rows. -/
theorem OwnC.set {W : World} {B : Nat} {u1 u2 u3 : Value} {zs : List Int} {bs : List Bx} {rs : List Int} (h : OwnC W B u1 u2 u3 zs bs rs) {p : Addr} (hp : ¬ rowsC u1 u2 u3 p.block) (u : Value) : OwnC (W.setCell p u) B u1 u2 u3 zs bs rs :=
  h.only (S := fun g => g = p.block) ⟨rfl, rfl, rfl, by simp [World.setCell], fun k _ hn => Below.heap_setCell _ _ _ _ hn⟩ (fun g hg e => hp (e ▸ hg))
theorem OwnC.set8 {W : World} {B N : Nat} {u1 u2 u3 : Value} {zs : List Int} {bs : List Bx} {rs : List Int} (h : OwnC W B u1 u2 u3 zs bs rs) (hp : ¬ rowsC u1 u2 u3 N) (x0 x1 x2 x3 x4 x5 x6 x7 : Value) : OwnC (set8 W N x0 x1 x2 x3 x4 x5 x6 x7) B u1 u2 u3 zs bs rs :=
  (((((((h.set hp _).set hp _).set hp _).set hp _).set hp _).set hp _).set hp _).set hp _
theorem OwnC.set5 {W : World} {B N : Nat} {u1 u2 u3 : Value} {zs : List Int} {bs : List Bx} {rs : List Int} (h : OwnC W B u1 u2 u3 zs bs rs) (hp : ¬ rowsC u1 u2 u3 N) (x0 x1 x2 x3 x4 : Value) : OwnC (set5 W N x0 x1 x2 x3 x4) B u1 u2 u3 zs bs rs :=
  ((((h.set hp _).set hp _).set hp _).set hp _).set hp _
/-- Where rows are below the first of some blocks, they are none of those. -/
theorem rows_not {u1 u2 u3 : Value} {n k : Nat} (h : ∀ g, rowsC u1 u2 u3 g → g < n) (hk : n ≤ k) : ¬ rowsC u1 u2 u3 k := fun q => by have := h k q; omega

def StepOut (B : Nat) (st : St) (w : World) (e : Ending) (w' : World) : Prop :=
  ∃ g1 g2 g3 c1 c2 c3, e = .returned (stepVal st.c.pl (.slice (some ⟨g1, 0, none⟩) st.c.pile.length c1) (.slice (some ⟨g2, 0, none⟩) st.c.bxs.length c2) (.slice (some ⟨g3, 0, none⟩) st.c.rds.length c3) st.c.cd st.says st.gate st.val) ∧
    OwnC w' B (.slice (some ⟨g1, 0, none⟩) st.c.pile.length c1) (.slice (some ⟨g2, 0, none⟩) st.c.bxs.length c2) (.slice (some ⟨g3, 0, none⟩) st.c.rds.length c3) st.c.pile st.c.bxs st.c.rds ∧ Below B w w'

theorem StepOut.mk {B : Nat} {st : St} {w w' : World} {g1 g2 g3 c1 c2 c3 n1 n2 n3 : Nat} (h1 : st.c.pile.length = n1) (h2 : st.c.bxs.length = n2) (h3 : st.c.rds.length = n3)
    (o : OwnC w' B (.slice (some ⟨g1, 0, none⟩) n1 c1) (.slice (some ⟨g2, 0, none⟩) n2 c2) (.slice (some ⟨g3, 0, none⟩) n3 c3) st.c.pile st.c.bxs st.c.rds) (b : Below B w w') :
    StepOut B st w (.returned (stepVal st.c.pl (.slice (some ⟨g1, 0, none⟩) n1 c1) (.slice (some ⟨g2, 0, none⟩) n2 c2) (.slice (some ⟨g3, 0, none⟩) n3 c3) st.c.cd st.says st.gate st.val)) w' := by
  subst h1 h2 h3
  exact ⟨g1, g2, g3, c1, c2, c3, rfl, o, b⟩

/-- The four blocks of l9Do: the core, the op, the answer, the step. -/
structure Four (W : World) (N : Nat) (k0 k1 k2 k3 k4 o0 o1 o2 s0 s1 s2 s3 s4 s5 s6 s7 : Value) : Prop where
  k : W.heap[N]? = some (.cells #[k0, k1, k2, k3, k4] 27 (0, 0))
  o : W.heap[N + 1]? = some (.cells #[o0, o1, o2] 41 (0, 0))
  r : W.heap[N + 1 + 1]? = some (.cells #[.int .i64 0, .slice none 0 0, .slice none 0 0, .slice none 0 0, .int .i64 0, .bool false, .int .i64 0, .int .i64 0] 33 (0, 0))
  s : W.heap[N + 1 + 1 + 1]? = some (.cells #[s0, s1, s2, s3, s4, s5, s6, s7] 33 (0, 0))
theorem Four.later {W W' : World} {N : Nat} {k0 k1 k2 k3 k4 o0 o1 o2 s0 s1 s2 s3 s4 s5 s6 s7 : Value} (h : Four W N k0 k1 k2 k3 k4 o0 o1 o2 s0 s1 s2 s3 s4 s5 s6 s7) (b : Below W.heap.size W W') : Four W' N k0 k1 k2 k3 k4 o0 o1 o2 s0 s1 s2 s3 s4 s5 s6 s7 :=
  ⟨row_later h.k b, row_later h.o b, row_later h.r b, row_later h.s b⟩

set_option maxHeartbeats 4000000 in
theorem below4 (w : World) (a b c d : Obj) : Below w.heap.size w ((((w.alloc a).alloc b).alloc c).alloc d) :=
  ((((Below.refl _ _).alloc (Nat.le_refl _) _).alloc (by simp) _).alloc (by simp; omega) _).alloc (by simp; omega) _
theorem OwnI.cut {w : World} {B g n c k : Nat} {e : TypeId} {zs : List Int} (h : OwnI w B e (.slice (some ⟨g, 0, none⟩) n c) zs) (hk : k ≤ zs.length) : OwnI w B e (.slice (some ⟨g, 0, none⟩) k c) (zs.take k) := by
  obtain ⟨hl, hr⟩ := h
  rcases hr with ⟨q, _⟩ | ⟨g2, c2, cur, q, h1, h2, h3, h4, h5, h6⟩
  · cases q
  · injection q with q1 q2 q3
    injection q1 with q1
    injection q1 with q1
    subst q1 q3
    have hlen : (zs.take k).length = k := by rw [List.length_take]; omega
    refine ⟨by rw [List.length_map, hlen]; omega, .inr ⟨g, c, cur, by rw [hlen], h1, h2, by omega, h4, h5, ?_⟩⟩
    rw [hlen, List.map_take, ← h6, List.take_take]
    congr 1
    omega
theorem OwnI.cap {w : World} {B g n c : Nat} {e : TypeId} {zs : List Int} (h : OwnI w B e (.slice (some ⟨g, 0, none⟩) n c) zs) : zs.length ≤ c ∧ c ≤ maxLen := by
  rcases h.2 with ⟨q, _⟩ | ⟨g2, c2, cur, q, _, _, h3, h4, _⟩
  · cases q
  · injection q with q1 q2 q3
    subst q3
    exact ⟨h3, h4⟩
theorem OwnC.cut {w : World} {B g n c k : Nat} {u2 u3 : Value} {zs : List Int} {bs : List Bx} {rs : List Int} (h : OwnC w B (.slice (some ⟨g, 0, none⟩) n c) u2 u3 zs bs rs) (hk : k ≤ zs.length) : OwnC w B (.slice (some ⟨g, 0, none⟩) k c) u2 u3 (zs.take k) bs rs :=
  ⟨h.o1.cut hk, h.o2, h.o3, fun q a b => h.a12 q (by simpa [Value.ownBlock] using a) b, fun q a b => h.a13 q (by simpa [Value.ownBlock] using a) b, h.a23⟩

set_option maxHeartbeats 4000000 in
set_option maxRecDepth 100000 in
theorem do7_any
(B : Nat) (x m : Int) (s : List UInt8) (g1 g2 g3 c1 c2 c3 : Nat) (zs : List Int) (bs : List Bx) (rs : List Int) (y : Int) (v : Value) (w : World)
    (h : OwnC w B (.slice (some ⟨g1, 0, none⟩) zs.length c1) (.slice (some ⟨g2, 0, none⟩) bs.length c2) (.slice (some ⟨g3, 0, none⟩) rs.length c3) zs bs rs) (hB : B ≤ w.heap.size) (hx : 0 ≤ x ∧ x ≤ 300)
    :
    Calls Tryz.prog 107 #[.agg #[.int .i64 x, .slice (some ⟨g1, 0, none⟩) zs.length c1, .slice (some ⟨g2, 0, none⟩) bs.length c2, .slice (some ⟨g3, 0, none⟩) rs.length c3, .int .i64 y], .agg #[.int .i64 7, .int .i64 m, str s], v] w
      (StepOut B (onS ⟨m, zs, bs, rs, y⟩) w) := by
  have H := Lib.hid h
  have HB := Lib.hid hB
  clear h hB
  obtain ⟨hx0, hx1⟩ := hx
  go_enter Tryz.func107, Tryz.ntmps107
  go_wp2_with fail
  exact bodyPost_ret (v := stepVal m (.slice (some ⟨g1, 0, none⟩) zs.length c1) (.slice (some ⟨g2, 0, none⟩) bs.length c2) (.slice (some ⟨g3, 0, none⟩) rs.length c3) y false 0 0) (by simp [results, Tryz.results107, go_sem]) rfl ⟨g1, g2, g3, c1, c2, c3, rfl, H.out.later (below4 _ _ _ _ _), (below4 _ _ _ _ _).mono HB.out⟩

set_option maxHeartbeats 4000000 in
set_option maxRecDepth 100000 in
theorem do9_any
(B : Nat) (x m : Int) (s : List UInt8) (g1 g2 g3 c1 c2 c3 : Nat) (zs : List Int) (bs : List Bx) (rs : List Int) (y : Int) (v : Value) (w : World)
    (h : OwnC w B (.slice (some ⟨g1, 0, none⟩) zs.length c1) (.slice (some ⟨g2, 0, none⟩) bs.length c2) (.slice (some ⟨g3, 0, none⟩) rs.length c3) zs bs rs) (hB : B ≤ w.heap.size) (hx : 0 ≤ x ∧ x ≤ 300)
    :
    Calls Tryz.prog 107 #[.agg #[.int .i64 x, .slice (some ⟨g1, 0, none⟩) zs.length c1, .slice (some ⟨g2, 0, none⟩) bs.length c2, .slice (some ⟨g3, 0, none⟩) rs.length c3, .int .i64 y], .agg #[.int .i64 9, .int .i64 m, str s], v] w
      (StepOut B (endS ⟨x, zs, bs, rs, y⟩ 2) w) := by
  have H := Lib.hid h
  have HB := Lib.hid hB
  clear h hB
  obtain ⟨hx0, hx1⟩ := hx
  go_enter Tryz.func107, Tryz.ntmps107
  go_wp2_with fail
  exact bodyPost_ret (v := stepVal x (.slice (some ⟨g1, 0, none⟩) zs.length c1) (.slice (some ⟨g2, 0, none⟩) bs.length c2) (.slice (some ⟨g3, 0, none⟩) rs.length c3) 2 false 0 0) (by simp [results, Tryz.results107, go_sem]) rfl ⟨g1, g2, g3, c1, c2, c3, rfl, H.out.later (below4 _ _ _ _ _), (below4 _ _ _ _ _).mono HB.out⟩

set_option maxHeartbeats 4000000 in
set_option maxRecDepth 100000 in
theorem do10_any
(B : Nat) (x m : Int) (s : List UInt8) (g1 g2 g3 c1 c2 c3 : Nat) (zs : List Int) (bs : List Bx) (rs : List Int) (y : Int) (v : Value) (w : World)
    (h : OwnC w B (.slice (some ⟨g1, 0, none⟩) zs.length c1) (.slice (some ⟨g2, 0, none⟩) bs.length c2) (.slice (some ⟨g3, 0, none⟩) rs.length c3) zs bs rs) (hB : B ≤ w.heap.size) (hx : 0 ≤ x ∧ x ≤ 300)
    :
    Calls Tryz.prog 107 #[.agg #[.int .i64 x, .slice (some ⟨g1, 0, none⟩) zs.length c1, .slice (some ⟨g2, 0, none⟩) bs.length c2, .slice (some ⟨g3, 0, none⟩) rs.length c3, .int .i64 y], .agg #[.int .i64 10, .int .i64 m, str s], v] w
      (StepOut B (endS ⟨x, zs, bs, rs, y⟩ 1) w) := by
  have H := Lib.hid h
  have HB := Lib.hid hB
  clear h hB
  obtain ⟨hx0, hx1⟩ := hx
  go_enter Tryz.func107, Tryz.ntmps107
  go_wp2_with fail
  exact bodyPost_ret (v := stepVal x (.slice (some ⟨g1, 0, none⟩) zs.length c1) (.slice (some ⟨g2, 0, none⟩) bs.length c2) (.slice (some ⟨g3, 0, none⟩) rs.length c3) 1 false 0 0) (by simp [results, Tryz.results107, go_sem]) rfl ⟨g1, g2, g3, c1, c2, c3, rfl, H.out.later (below4 _ _ _ _ _), (below4 _ _ _ _ _).mono HB.out⟩

set_option maxHeartbeats 4000000 in
set_option maxRecDepth 100000 in
theorem do8_any
(B : Nat) (x m : Int) (s : List UInt8) (g1 g2 g3 c1 c2 c3 : Nat) (zs : List Int) (bs : List Bx) (rs : List Int) (y : Int) (v : Value) (w : World)
    (h : OwnC w B (.slice (some ⟨g1, 0, none⟩) zs.length c1) (.slice (some ⟨g2, 0, none⟩) bs.length c2) (.slice (some ⟨g3, 0, none⟩) rs.length c3) zs bs rs) (hB : B ≤ w.heap.size) (hx : 0 ≤ x ∧ x ≤ 300)
    (hn : 1 ≤ zs.length) (hn2 : zs.length ≤ 60) :
    Calls Tryz.prog 107 #[.agg #[.int .i64 x, .slice (some ⟨g1, 0, none⟩) zs.length c1, .slice (some ⟨g2, 0, none⟩) bs.length c2, .slice (some ⟨g3, 0, none⟩) rs.length c3, .int .i64 y], .agg #[.int .i64 8, .int .i64 m, str s], v] w
      (StepOut B (onS ⟨if topS zs 1 = 0 then m else x + 1, cutS zs 1, bs, rs, y⟩) w) := by
  have H := Lib.hid h
  have HB := Lib.hid hB
  obtain ⟨g, o, u, e, -, hu, hc⟩ := h.o1.see.at_ (k := zs.length - 1) (by omega)
  injection e with e
  injection e with e1 e2
  subst e1 e2
  obtain ⟨n, hln⟩ : ∃ n, zs.length = n + 1 := ⟨zs.length - 1, by omega⟩
  rw [hln] at hc hu H ⊢
  rw [Nat.add_sub_cancel] at hc hu
  have HT : Hid (topS zs 1 = u) := Lib.hid (by unfold topS; rw [hln, Nat.add_sub_cancel, List.getD_eq_getElem?_getD, hu]; rfl)
  have hlt := World.block_lt_of_cell? _ _ hc
  have HN := Lib.hid hln
  have HL : Hid (cutS zs 1 = zs.take n) := Lib.hid (by unfold cutS; rw [hln, Nat.add_sub_cancel])
  have HM : Hid ((zs.take n).length = n) := Lib.hid (by rw [List.length_take]; omega)
  have hn60 : n < 60 := by omega
  have hcap : (n : Int) ≤ (c1 : Int) := by have := h.o1.cap.1; omega
  have hcap2 : (c1 : Int) ≤ 9223372036854775807 := by have := h.o1.cap.2; unfold maxLen at this; omega
  have hc4 := fun a b d e => ((below4 w a b d e).cell (p := ⟨g1, 0 + n, none⟩) hlt).trans hc
  simp only [Nat.zero_add] at hc4
  clear h hB hu hn hn2 hln
  obtain ⟨hx0, hx1⟩ := hx
  rw [HT.out, HL.out]
  by_cases hz : u = 0
  · subst hz
    rw [if_pos rfl]
    go_enter Tryz.func107, Tryz.ntmps107
    go_wp2_with fail
    exact bodyPost_ret (v := stepVal m (.slice (some ⟨g1, 0, none⟩) n c1) (.slice (some ⟨g2, 0, none⟩) bs.length c2) (.slice (some ⟨g3, 0, none⟩) rs.length c3) y false 0 0) (by simp [results, Tryz.results107, go_sem]) rfl (StepOut.mk HM.out rfl rfl ((H.out.cut (by have := HN.out; omega)).later (below4 _ _ _ _ _)) ((below4 _ _ _ _ _).mono HB.out))
  · have hz2 : (u == 0) = false := by simpa using hz
    rw [if_neg hz]
    clear hz
    go_enter Tryz.func107, Tryz.ntmps107
    go_wp2_with fail
    exact bodyPost_ret (v := stepVal (x + 1) (.slice (some ⟨g1, 0, none⟩) n c1) (.slice (some ⟨g2, 0, none⟩) bs.length c2) (.slice (some ⟨g3, 0, none⟩) rs.length c3) y false 0 0) (by simp [results, Tryz.results107, go_sem]) rfl (StepOut.mk HM.out rfl rfl ((H.out.cut (by have := HN.out; omega)).later (below4 _ _ _ _ _)) ((below4 _ _ _ _ _).mono HB.out))

end Go.Proofs.YtigcbegeaikfcaaGreatDoor

namespace Go.Proofs.YtigcbegeaikfcaaGreatDoor
open Go.RowKit
set_option linter.unusedVariables false

theorem alloc_at (w : World) (o : Obj) {n : Nat} (h : w.heap.size = n) {cs : Array Value} {t : TypeId} (e : o = .cells cs t) : (w.alloc o).heap[n]? = some (.cells cs t (0, 0)) := by
  subst h e; exact heap_alloc_new _ _
theorem four_new (w : World) (k0 k1 k2 k3 k4 o0 o1 o2 : Value) : Four ((((w.alloc (.cells #[k0, k1, k2, k3, k4] 27)).alloc (.cells #[o0, o1, o2] 41)).alloc
    (.cells #[.int .i64 0, .slice none 0 0, .slice none 0 0, .slice none 0 0, .int .i64 0, .bool false, .int .i64 0, .int .i64 0] 33)).alloc
    (.cells #[.int .i64 0, .slice none 0 0, .slice none 0 0, .slice none 0 0, .int .i64 0, .bool false, .int .i64 0, .int .i64 0] 33)) w.heap.size k0 k1 k2 k3 k4 o0 o1 o2
    (.int .i64 0) (.slice none 0 0) (.slice none 0 0) (.slice none 0 0) (.int .i64 0) (.bool false) (.int .i64 0) (.int .i64 0) :=
  ⟨alloc_old (alloc_old (alloc_old (heap_alloc_new _ _) _) _) _, alloc_old (alloc_old (alloc_at _ _ (by simp) rfl) _) _, alloc_old (alloc_at _ _ (by simp) rfl) _, alloc_at _ _ (by simp) rfl⟩
theorem Four.setk {W : World} {N : Nat} {k0 k1 k2 k3 k4 o0 o1 o2 s0 s1 s2 s3 s4 s5 s6 s7 : Value} (h : Four W N k0 k1 k2 k3 k4 o0 o1 o2 s0 s1 s2 s3 s4 s5 s6 s7) (u : Value) : Four (W.setCell ⟨N, 0, none⟩ u) N u k1 k2 k3 k4 o0 o1 o2 s0 s1 s2 s3 s4 s5 s6 s7 :=
  ⟨by rw [heap_set h.k]; simp, by rw [Below.heap_setCell _ _ _ _ (by show N + 1 ≠ N; omega)]; exact h.o, by rw [Below.heap_setCell _ _ _ _ (by show N + 1 + 1 ≠ N; omega)]; exact h.r, by rw [Below.heap_setCell _ _ _ _ (by show N + 1 + 1 + 1 ≠ N; omega)]; exact h.s⟩
theorem Four.setk1 {W : World} {N : Nat} {k0 k1 k2 k3 k4 o0 o1 o2 s0 s1 s2 s3 s4 s5 s6 s7 : Value} (h : Four W N k0 k1 k2 k3 k4 o0 o1 o2 s0 s1 s2 s3 s4 s5 s6 s7) (u : Value) : Four (W.setCell ⟨N, 1, none⟩ u) N k0 u k2 k3 k4 o0 o1 o2 s0 s1 s2 s3 s4 s5 s6 s7 :=
  ⟨by rw [heap_set h.k]; simp, by rw [Below.heap_setCell _ _ _ _ (by show N + 1 ≠ N; omega)]; exact h.o, by rw [Below.heap_setCell _ _ _ _ (by show N + 1 + 1 ≠ N; omega)]; exact h.r, by rw [Below.heap_setCell _ _ _ _ (by show N + 1 + 1 + 1 ≠ N; omega)]; exact h.s⟩
theorem Four.setk2 {W : World} {N : Nat} {k0 k1 k2 k3 k4 o0 o1 o2 s0 s1 s2 s3 s4 s5 s6 s7 : Value} (h : Four W N k0 k1 k2 k3 k4 o0 o1 o2 s0 s1 s2 s3 s4 s5 s6 s7) (u : Value) : Four (W.setCell ⟨N, 2, none⟩ u) N k0 k1 u k3 k4 o0 o1 o2 s0 s1 s2 s3 s4 s5 s6 s7 :=
  ⟨by rw [heap_set h.k]; simp, by rw [Below.heap_setCell _ _ _ _ (by show N + 1 ≠ N; omega)]; exact h.o, by rw [Below.heap_setCell _ _ _ _ (by show N + 1 + 1 ≠ N; omega)]; exact h.r, by rw [Below.heap_setCell _ _ _ _ (by show N + 1 + 1 + 1 ≠ N; omega)]; exact h.s⟩
theorem Four.setk4 {W : World} {N : Nat} {k0 k1 k2 k3 k4 o0 o1 o2 s0 s1 s2 s3 s4 s5 s6 s7 : Value} (h : Four W N k0 k1 k2 k3 k4 o0 o1 o2 s0 s1 s2 s3 s4 s5 s6 s7) (u : Value) : Four (W.setCell ⟨N, 4, none⟩ u) N k0 k1 k2 k3 u o0 o1 o2 s0 s1 s2 s3 s4 s5 s6 s7 :=
  ⟨by rw [heap_set h.k]; simp, by rw [Below.heap_setCell _ _ _ _ (by show N + 1 ≠ N; omega)]; exact h.o, by rw [Below.heap_setCell _ _ _ _ (by show N + 1 + 1 ≠ N; omega)]; exact h.r, by rw [Below.heap_setCell _ _ _ _ (by show N + 1 + 1 + 1 ≠ N; omega)]; exact h.s⟩
theorem set5_other {W : World} {N k : Nat} {x0 x1 x2 x3 x4 : Value} (h : k ≠ N) : (set5 W N x0 x1 x2 x3 x4).heap[k]? = W.heap[k]? := by
  unfold set5
  rw [Below.heap_setCell _ _ _ _ h, Below.heap_setCell _ _ _ _ h, Below.heap_setCell _ _ _ _ h, Below.heap_setCell _ _ _ _ h, Below.heap_setCell _ _ _ _ h]
theorem Four.sets {W : World} {N : Nat} {k0 k1 k2 k3 k4 o0 o1 o2 s0 s1 s2 s3 s4 s5 s6 s7 : Value} (h : Four W N k0 k1 k2 k3 k4 o0 o1 o2 s0 s1 s2 s3 s4 s5 s6 s7) (x0 x1 x2 x3 x4 : Value) : Four (set5 W (N + 1 + 1 + 1) x0 x1 x2 x3 x4) N k0 k1 k2 k3 k4 o0 o1 o2 x0 x1 x2 x3 x4 s5 s6 s7 :=
  ⟨by rw [set5_other (by omega)]; exact h.k, by rw [set5_other (by omega)]; exact h.o, by rw [set5_other (by omega)]; exact h.r, by
    unfold set5
    rw [heap_set (heap_set (heap_set (heap_set (heap_set h.s x0) x1) x2) x3) x4]
    simp⟩
/-- A word more on the pile. -/
theorem OwnC.push {W w1 : World} {B g1 c1 : Nat} {v' u2 u3 : Value} {zs : List Int} {bs : List Bx} {rs : List Int} {m : Int} (h : OwnC W B (.slice (some ⟨g1, 0, none⟩) zs.length c1) u2 u3 zs bs rs) (hB : B ≤ W.heap.size)
    (own : w1.ownsRow B 2 1 v' (zs.length + 1) (zs.map (Value.int .i64) ++ [.int .i64 m])) (gr : W.grownBy w1 (some g1)) (hnn : ¬ v' = .slice none 0 0) (hat : v'.ownBlock = some g1 ∨ v'.ownBlock = some W.heap.size) :
    ∃ g c, v' = .slice (some ⟨g, 0, none⟩) (zs.length + 1) c ∧ OwnC w1 B (.slice (some ⟨g, 0, none⟩) (zs.length + 1) c) u2 u3 (zs ++ [m]) bs rs ∧ (g = g1 ∨ g = W.heap.size) := by
  obtain ⟨g, c, rfl⟩ := own_base own hnn
  have hg : g = g1 ∨ g = W.heap.size := by
    rcases hat with q | q <;> simp [Value.ownBlock] at q
    · exact .inl q
    · exact .inr q
  have hon : Only (fun k => k = g1) W w1 := Only.of_grown gr (fun k e => by injection e with e; exact e.symm)
  have hb2 := OwnN.lt h.o2
  have hb3 := h.o3.lt
  have o2 := OwnBx.of_row0 (own_only h.o2.row0 hon (fun k hk e => h.a12 k (by rw [e]; rfl) hk))
  have o3 : OwnI w1 B 2 u3 rs := own_only h.o3 hon (fun k hk e => h.a13 k (by rw [e]; rfl) hk)
  refine ⟨g, c, rfl, ⟨by unfold OwnI; rw [List.map_append, List.length_append]; exact own, o2, o3, fun k a b => ?_, fun k a b => ?_, h.a23⟩, hg⟩
  · simp [Value.ownBlock] at a
    subst a
    rcases hg with rfl | rfl
    · exact h.a12 _ rfl b
    · have := (hb2 _ b).2; omega
  · simp [Value.ownBlock] at a
    subst a
    rcases hg with rfl | rfl
    · exact h.a13 _ rfl b
    · have := (hb3 _ b).2; omega
theorem Four.grown {W W' : World} {N : Nat} {r : Option Nat} {k0 k1 k2 k3 k4 o0 o1 o2 s0 s1 s2 s3 s4 s5 s6 s7 : Value} (h : Four W N k0 k1 k2 k3 k4 o0 o1 o2 s0 s1 s2 s3 s4 s5 s6 s7) (gr : W.grownBy W' r) (hr : ∀ g, r = some g → g < N) : Four W' N k0 k1 k2 k3 k4 o0 o1 o2 s0 s1 s2 s3 s4 s5 s6 s7 :=
  ⟨(gr.block _ (heap_lt h.k) (fun e => by have := hr _ e.symm; omega)).trans h.k, (gr.block _ (heap_lt h.o) (fun e => by have := hr _ e.symm; omega)).trans h.o, (gr.block _ (heap_lt h.r) (fun e => by have := hr _ e.symm; omega)).trans h.r, (gr.block _ (heap_lt h.s) (fun e => by have := hr _ e.symm; omega)).trans h.s⟩

theorem OwnC.drewN {w : World} {B : Nat} {u1 u2 u3 : Value} {zs : List Int} {bs : List Bx} {rs : List Int} (h : OwnC w B u1 u2 u3 zs bs rs) (n : Nat) : OwnC (w.drewN n) B u1 u2 u3 zs bs rs := ⟨h.o1, h.o2, h.o3, h.a12, h.a13, h.a23⟩
theorem Four.drewN {W : World} {N : Nat} {k0 k1 k2 k3 k4 o0 o1 o2 s0 s1 s2 s3 s4 s5 s6 s7 : Value} (h : Four W N k0 k1 k2 k3 k4 o0 o1 o2 s0 s1 s2 s3 s4 s5 s6 s7) (n : Nat) : Four (W.drewN n) N k0 k1 k2 k3 k4 o0 o1 o2 s0 s1 s2 s3 s4 s5 s6 s7 := ⟨h.k, h.o, h.r, h.s⟩

set_option maxHeartbeats 4000000 in
set_option maxRecDepth 100000 in
theorem do1_any
(B : Nat) (x m : Int) (s : List UInt8) (g1 g2 g3 c1 c2 c3 : Nat) (zs : List Int) (bs : List Bx) (rs : List Int) (y : Int) (v : Value) (w : World)
    (h : OwnC w B (.slice (some ⟨g1, 0, none⟩) zs.length c1) (.slice (some ⟨g2, 0, none⟩) bs.length c2) (.slice (some ⟨g3, 0, none⟩) rs.length c3) zs bs rs) (hB : B ≤ w.heap.size) (hx : 0 ≤ x ∧ x ≤ 300)
    (hn : zs.length < 60) :
    Calls Tryz.prog 107 #[.agg #[.int .i64 x, .slice (some ⟨g1, 0, none⟩) zs.length c1, .slice (some ⟨g2, 0, none⟩) bs.length c2, .slice (some ⟨g3, 0, none⟩) rs.length c3, .int .i64 y], .agg #[.int .i64 1, .int .i64 m, str s], v] w
      (StepOut B (onS ⟨x + 1, zs ++ [m], bs, rs, y⟩) w) := by
  obtain ⟨i0, hi, hz0, hz1, hz2⟩ := info_parts Tryz.infoI64
  have HB := Lib.hid hB
  have HR := Lib.hid h.lt
  have HL : Hid ((zs ++ [m]).length = zs.length + 1) := Lib.hid (by simp)
  have F := four_new w (.int .i64 x) (.slice (some ⟨g1, 0, none⟩) zs.length c1) (.slice (some ⟨g2, 0, none⟩) bs.length c2) (.slice (some ⟨g3, 0, none⟩) rs.length c3) (.int .i64 y) (.int .i64 1) (.int .i64 m) (str s)
  have OC := h.later (below4 w (.cells #[.int .i64 x, .slice (some ⟨g1, 0, none⟩) zs.length c1, .slice (some ⟨g2, 0, none⟩) bs.length c2, .slice (some ⟨g3, 0, none⟩) rs.length c3, .int .i64 y] 27) (.cells #[.int .i64 1, .int .i64 m, str s] 41)
    (.cells #[.int .i64 0, .slice none 0 0, .slice none 0 0, .slice none 0 0, .int .i64 0, .bool false, .int .i64 0, .int .i64 0] 33) (.cells #[.int .i64 0, .slice none 0 0, .slice none 0 0, .slice none 0 0, .int .i64 0, .bool false, .int .i64 0, .int .i64 0] 33))
  have bW := (below4 w (.cells #[.int .i64 x, .slice (some ⟨g1, 0, none⟩) zs.length c1, .slice (some ⟨g2, 0, none⟩) bs.length c2, .slice (some ⟨g3, 0, none⟩) rs.length c3, .int .i64 y] 27) (.cells #[.int .i64 1, .int .i64 m, str s] 41)
    (.cells #[.int .i64 0, .slice none 0 0, .slice none 0 0, .slice none 0 0, .int .i64 0, .bool false, .int .i64 0, .int .i64 0] 33) (.cells #[.int .i64 0, .slice none 0 0, .slice none 0 0, .slice none 0 0, .int .i64 0, .bool false, .int .i64 0, .int .i64 0] 33)).mono hB
  obtain ⟨hx0, hx1⟩ := hx
  clear h hB
  go_enter Tryz.func107, Tryz.ntmps107
  go_upto_region 6 with fail
  generalize World.alloc _ _ = W at *
  have hlt := heap_lt F.s
  have hBW : B ≤ W.heap.size := by have := HB.out; omega
  have bA := below_new W (.cells #[.int .i64 m] 2)
  have OA := OC.later bA
  have FA := F.later bA
  obtain ⟨p0, p1, p2, p3, p4⟩ := cells5 F.k
  obtain ⟨q0, q1, q2⟩ := cells3 F.o
  go_upto_region 45 with (at_builtin; refine wpList_append_own_at _ rfl _ _ 24 rfl B 2 i0 (.int .i64 0) 1 8 Tryz.underlying24 hi hz0 hz1 hz2 rfl (by decide) _ _ _ rfl OA.o1 ⟨W.heap.size, 0, none⟩ 1 1 [.int .i64 m] rfl rfl (cell_one_new _ _ _) (by intro u hu; simp at hu; subst hu; rfl) (by unfold maxLen; omega) (by omega) (Nat.le_trans hBW bA.size) ?_; intro v1 w1 hown hgr hnil hat; (obtain ⟨g, c, rfl, OD, hg⟩ := OA.push (Nat.le_trans hBW bA.size) hown hgr (fun q => by have := (hnil.1 q).1; cases this) hat); have FD := FA.grown hgr (fun k e => by injection e with e; subst e; exact (HR.out _ (.inl rfl)).2); obtain ⟨z0, z1, z2, z3, z4⟩ := cells5 FD.k; have fz := frozen_row (k := 1) FD.k)
  replace bW := (bW.alloc hBW (.cells #[.int .i64 m] 2)).grown hgr (Nat.le_trans hBW bA.size) (fun k e => by injection e with e; subst e; exact (HR.out _ (.inl rfl)).1)
  have hr : ∀ k, rowsC (.slice (some ⟨g, 0, none⟩) (zs.length + 1) c) (.slice (some ⟨g2, 0, none⟩) bs.length c2) (.slice (some ⟨g3, 0, none⟩) rs.length c3) k → k < w.heap.size ∨ w.heap.size + 4 ≤ k := fun k q => by
    rcases q with q | q
    · simp [Value.ownBlock] at q
      subst q
      rcases hg with rfl | rfl
      · exact .inl (HR.out _ (.inl rfl)).2
      · right; simp; omega
    · exact .inl (HR.out _ (.inr q)).2
  clear p0 p1 p2 p3 p4 q0 q1 q2 z0 z1 z2 z3 z4 fz F FA OC OA hown hgr hnil hat bA hg hlt hBW
  replace FD := FD.setk1 (.slice (some ⟨g, 0, none⟩) (zs.length + 1) c)
  replace OD := OD.set (p := ⟨w.heap.size, 1, none⟩) (fun q => by have := hr _ q; simp at this; omega) (.slice (some ⟨g, 0, none⟩) (zs.length + 1) c)
  replace bW := bW.setCell (show B ≤ (⟨w.heap.size, 1, none⟩ : Addr).block by exact HB.out) (.slice (some ⟨g, 0, none⟩) (zs.length + 1) c)
  generalize w1.setCell _ _ = Wd at *
  have F := FD
  have OC := OD
  clear FD OD
  have f0 := frozen_row (k := 0) F.k
  obtain ⟨p0, p1, p2, p3, p4⟩ := cells5 F.k
  go_upto_region 46 with fail
  replace F := F.setk (.int .i64 (x + 1))
  replace OC := OC.set (p := ⟨w.heap.size, 0, none⟩) (fun q => by have := hr _ q; simp at this; omega) (.int .i64 (x + 1))
  replace bW := bW.setCell (show B ≤ (⟨w.heap.size, 0, none⟩ : Addr).block by exact HB.out) (.int .i64 (x + 1))
  clear p0 p1 p2 p3 p4 f0
  generalize World.setCell _ _ _ = Wa at *
  obtain ⟨p0, p1, p2, p3, p4⟩ := cells5 F.k
  obtain ⟨q0, q1, q2, q3, q4, q5, q6, q7⟩ := cells8 F.s
  have f0 := frozen_row (k := 0) F.s
  have f1 := frozen_row (k := 1) F.s
  have f2 := frozen_row (k := 2) F.s
  have f3 := frozen_row (k := 3) F.s
  have f4 := frozen_row (k := 4) F.s
  go_upto_region 47 with fail
  replace F := F.sets (.int .i64 (x + 1)) (.slice (some ⟨g, 0, none⟩) (zs.length + 1) c) (.slice (some ⟨g2, 0, none⟩) bs.length c2) (.slice (some ⟨g3, 0, none⟩) rs.length c3) (.int .i64 (y))
  replace OC := OC.set5 (N := w.heap.size + 1 + 1 + 1) (fun q => by have := hr _ q; omega) (.int .i64 (x + 1)) (.slice (some ⟨g, 0, none⟩) (zs.length + 1) c) (.slice (some ⟨g2, 0, none⟩) bs.length c2) (.slice (some ⟨g3, 0, none⟩) rs.length c3) (.int .i64 (y))
  replace bW := set5_below bW (show B ≤ w.heap.size + 1 + 1 + 1 by have := HB.out; omega) (.int .i64 (x + 1)) (.slice (some ⟨g, 0, none⟩) (zs.length + 1) c) (.slice (some ⟨g2, 0, none⟩) bs.length c2) (.slice (some ⟨g3, 0, none⟩) rs.length c3) (.int .i64 (y))
  unfold set5 at F OC bW
  clear p0 p1 p2 p3 p4 q0 q1 q2 q3 q4 q5 q6 q7 f0 f1 f2 f3 f4
  generalize World.setCell _ _ _ = Wb at *
  obtain ⟨q0, q1, q2, q3, q4, q5, q6, q7⟩ := cells8 F.s
  obtain ⟨r0, r1, r2, r3, r4, r5, r6, r7⟩ := cells8 F.r
  have f0 := frozen_row (k := 0) F.r
  have f1 := frozen_row (k := 1) F.r
  have f2 := frozen_row (k := 2) F.r
  have f3 := frozen_row (k := 3) F.r
  have f4 := frozen_row (k := 4) F.r
  have f5 := frozen_row (k := 5) F.r
  have f6 := frozen_row (k := 6) F.r
  have f7 := frozen_row (k := 7) F.r
  have ZB := Lib.hid (set8_blk F.r (.int .i64 (x + 1)) (.slice (some ⟨g, 0, none⟩) (zs.length + 1) c) (.slice (some ⟨g2, 0, none⟩) bs.length c2) (.slice (some ⟨g3, 0, none⟩) rs.length c3) (.int .i64 (y)) (.bool false) (.int .i64 0) (.int .i64 0))
  have OZ := Lib.hid (OC.set8 (N := w.heap.size + 1 + 1) (fun q => by have := hr _ q; omega) (.int .i64 (x + 1)) (.slice (some ⟨g, 0, none⟩) (zs.length + 1) c) (.slice (some ⟨g2, 0, none⟩) bs.length c2) (.slice (some ⟨g3, 0, none⟩) rs.length c3) (.int .i64 (y)) (.bool false) (.int .i64 0) (.int .i64 0))
  have BZ := Lib.hid (set8_below bW (show B ≤ w.heap.size + 1 + 1 by have := HB.out; omega) (.int .i64 (x + 1)) (.slice (some ⟨g, 0, none⟩) (zs.length + 1) c) (.slice (some ⟨g2, 0, none⟩) bs.length c2) (.slice (some ⟨g3, 0, none⟩) rs.length c3) (.int .i64 (y)) (.bool false) (.int .i64 0) (.int .i64 0))
  unfold set8 at ZB OZ BZ
  clear F OC bW
  go_wp2_with fail
  generalize World.setCell _ _ _ = Wc at *
  obtain ⟨y0, y1, y2, y3, y4, y5, y6, y7⟩ := cells8 ZB.out
  exact bodyPost_ret (v := .agg #[.int .i64 (x + 1), .slice (some ⟨g, 0, none⟩) (zs.length + 1) c, .slice (some ⟨g2, 0, none⟩) bs.length c2, .slice (some ⟨g3, 0, none⟩) rs.length c3, .int .i64 (y), .bool false, .int .i64 0, .int .i64 0]) (by simp [results, Tryz.results107, go_sem, y0, y1, y2, y3, y4, y5, y6, y7]) rfl (StepOut.mk HL.out rfl rfl OZ.out BZ.out)

end Go.Proofs.YtigcbegeaikfcaaGreatDoor
