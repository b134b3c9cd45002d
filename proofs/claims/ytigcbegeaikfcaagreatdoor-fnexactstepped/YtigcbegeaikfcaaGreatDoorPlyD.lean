/- Layer 9 (the player): the program's copied and ended. No conditions but those typed. -/
import Derived.Test.YtigcbegeaikfcaaGreatDoorProgA
import Derived.Test.YtigcbegeaikfcaaGreatDoorCoreQ
import Derived.Deep.RegionWith
import Derived.Deep.CutRange
namespace Go.Proofs.YtigcbegeaikfcaaGreatDoor
open Go.RowKit
set_option linter.unusedVariables false

theorem Only.setc {S : Nat → Prop} {w X : World} (h : Only S w X) {n k : Nat} (hn : S n) (u : Value) : Only S w (X.setCell ⟨n, k, none⟩ u) :=
  h.trans ⟨rfl, rfl, rfl, by simp [World.setCell], fun i _ hi => Below.heap_setCell _ _ _ _ (fun e => hi (e ▸ hn))⟩

/-- A copy of a core: nothing of it is anybody else's; nil of nil. -/
def CopOut (w : World) (x : Int) (zs : List Int) (bs : List Bx) (rs : List Int) (y : Int) (e : Ending) (w' : World) : Prop :=
  ∃ u1 u2 u3, e = .returned (.agg #[.int .i64 x, u1, u2, u3, .int .i64 y]) ∧ OwnC w' w.heap.size u1 u2 u3 zs bs rs ∧ Below w.heap.size w w' ∧ nilOk u1 ∧ nilOk u2 ∧ nilOk u3

/-- Behind the three stores. -/
def MidC (w : World) (x : Int) (zs : List Int) (bs : List Bx) (rs : List Int) (y : Int) (wc : World) : Prop :=
  ∃ u1 u2 u3, (wc.heap[w.heap.size]? = some (.cells #[.int .i64 x, u1, u2, u3, .int .i64 y] 27 (0, 0)) ∧ wc.heap[w.heap.size + 1]? = some (.cells #[.int .i64 0, .slice none 0 0, .slice none 0 0, .slice none 0 0, .int .i64 0] 27 (0, 0))) ∧
    OwnC wc (w.heap.size + 2) u1 u2 u3 zs bs rs ∧ Below w.heap.size w wc ∧ nilOk u1 ∧ nilOk u2 ∧ nilOk u3
theorem mid_of {w w0 w1 w2 w3 : World} {x y : Int} {v1 v2 v3 u1 u2 u3 : Value} {zs : List Int} {bs : List Bx} {rs : List Int} (hs : w0.heap.size = w.heap.size + 2) (bD : Below w.heap.size w w0)
    (hD : w0.heap[w.heap.size]? = some (.cells #[.int .i64 x, v1, v2, v3, .int .i64 y] 27 (0, 0)) ∧ w0.heap[w.heap.size + 1]? = some (.cells #[.int .i64 0, .slice none 0 0, .slice none 0 0, .slice none 0 0, .int .i64 0] 27 (0, 0)))
    (h1 : OwnI w1 w0.heap.size 2 u1 zs ∧ nilOk u1 ∧ Below w0.heap.size w0 w1) (h2 : OwnBx w2 w1.heap.size 92 u2 bs ∧ nilOk u2 ∧ Below w1.heap.size w1 w2) (h3 : OwnI w3 w2.heap.size 2 u3 rs ∧ nilOk u3 ∧ Below w2.heap.size w2 w3) :
    MidC w x zs bs rs y (((w3.setCell ⟨w.heap.size, 1, none⟩ u1).setCell ⟨w.heap.size, 2, none⟩ u2).setCell ⟨w.heap.size, 3, none⟩ u3) := by
  obtain ⟨o1, k1, b1⟩ := h1
  obtain ⟨o2, k2, b2⟩ := h2
  obtain ⟨o3, k3, b3⟩ := h3
  have l1 := o1.lt
  have l2 := OwnN.lt o2
  have l3 := o3.lt
  have s1 := b1.size
  have s2 := b2.size
  have r3 := two_later (two_later (two_later hD b1) b2) b3
  have bW := below_then (below_then (below_then bD b1 (Nat.le_refl _)) b2 (Nat.le_refl _)) b3 (Nat.le_refl _)
  have hown : OwnC w3 (w.heap.size + 2) u1 u2 u3 zs bs rs := ⟨own_less ((own_later (own_later o1 b2) b3)) (by omega), .of_row0 (own_less (own_later (OwnBx.row0 o2) b3) (by omega)), own_less o3 (by omega),
    fun g a b => by have := l1 g a; have := l2 g b; omega, fun g a b => by have := l1 g a; have := l3 g b; omega, fun g a b => by have := l2 g a; have := l3 g b; omega⟩
  have hno : ∀ g, rowsC u1 u2 u3 g → ¬ g = w.heap.size := fun g q e => by
    rcases q with q | q | q
    · have := l1 g q; omega
    · have := l2 g q; omega
    · have := l3 g q; omega
  have hon : Only (fun g => g = w.heap.size) w3 (((w3.setCell ⟨w.heap.size, 1, none⟩ u1).setCell ⟨w.heap.size, 2, none⟩ u2).setCell ⟨w.heap.size, 3, none⟩ u3) :=
    Only.setc (Only.setc (Only.setc (Only.refl (fun g => g = w.heap.size) w3) (n := w.heap.size) (k := 1) rfl _) (n := w.heap.size) (k := 2) rfl _) (n := w.heap.size) (k := 3) rfl _
  exact ⟨u1, u2, u3, ⟨by rw [heap_set (heap_set (heap_set r3.1 _) _) _]; simp, by
    rw [Below.heap_setCell _ _ _ _ (by show w.heap.size + 1 ≠ w.heap.size; omega), Below.heap_setCell _ _ _ _ (by show w.heap.size + 1 ≠ w.heap.size; omega), Below.heap_setCell _ _ _ _ (by show w.heap.size + 1 ≠ w.heap.size; omega)]; exact r3.2⟩,
    hown.only hon hno, ((bW.setCell (Nat.le_refl _) _).setCell (Nat.le_refl _) _).setCell (Nat.le_refl _) _, k1, k2, k3⟩

set_option maxHeartbeats 8000000 in
set_option maxRecDepth 100000 in
theorem iCopied_any (B : Nat) (x y : Int) (v1 v2 v3 : Value) (zs : List Int) (bs : List Bx) (rs : List Int) (w : World) (s1 : SeeI w B v1 zs) (s2 : SeeBx w B v2 bs) (s3 : SeeI w B v3 rs) (hB : B ≤ w.heap.size)
    (n1 : nilOk v1) (n2 : nilOk v2) (n3 : nilOk v3) (hz : zs.length ≤ 1048576) (hb : bs.length ≤ 1048576) (hr : rs.length ≤ 1048576) :
    Calls Tryz.prog 43 #[.agg #[.int .i64 x, v1, v2, v3, .int .i64 y]] w (CopOut w x zs bs rs y) := by
  obtain ⟨A1, c1, rfl⟩ := s1.shape
  obtain ⟨A2, c2, rfl⟩ := s2.shape
  obtain ⟨A3, c3, rfl⟩ := s3.shape
  have H0 : Hid (∃ W, W = (w.alloc (.cells #[.int .i64 x, .slice A1 zs.length c1, .slice A2 bs.length c2, .slice A3 rs.length c3, .int .i64 y] 27)).alloc
      (.cells #[.int .i64 0, .slice none 0 0, .slice none 0 0, .slice none 0 0, .int .i64 0] 27) ∧
      (W.heap[w.heap.size]? = some (.cells #[.int .i64 x, .slice A1 zs.length c1, .slice A2 bs.length c2, .slice A3 rs.length c3, .int .i64 y] 27 (0, 0)) ∧
      W.heap[w.heap.size + 1]? = some (.cells #[.int .i64 0, .slice none 0 0, .slice none 0 0, .slice none 0 0, .int .i64 0] 27 (0, 0))) ∧ Below w.heap.size w W ∧ W.heap.size = w.heap.size + 2) :=
    Lib.hid ⟨_, rfl, ⟨alloc_old (heap_alloc_new _ _) _, by have := heap_alloc_new (w.alloc (.cells #[.int .i64 x, .slice A1 zs.length c1, .slice A2 bs.length c2, .slice A3 rs.length c3, .int .i64 y] 27)) (.cells #[.int .i64 0, .slice none 0 0, .slice none 0 0, .slice none 0 0, .int .i64 0] 27); rwa [World.size_alloc] at this⟩,
      ((Below.refl _ _).alloc (Nat.le_refl _) _).alloc (by simp) _, by simp⟩
  go_enter Tryz.func43, Tryz.ntmps43
  go_upto_region 1 with fail
  obtain ⟨W, hW, h2, bW, hsz⟩ := H0.out
  rw [← hW]
  clear hW H0
  have HN := Lib.hid hsz
  clear hsz
  have bD : Below w.heap.size w W.drew := ⟨bW.os, bW.tape, bW.output, bW.size, bW.block⟩
  have HD := Lib.hid (show Below w.heap.size w W.drew ∧ (W.drew.heap[w.heap.size]? = some (.cells #[.int .i64 x, .slice A1 zs.length c1, .slice A2 bs.length c2, .slice A3 rs.length c3, .int .i64 y] 27 (0, 0)) ∧
      W.drew.heap[w.heap.size + 1]? = some (.cells #[.int .i64 0, .slice none 0 0, .slice none 0 0, .slice none 0 0, .int .i64 0] 27 (0, 0))) from ⟨bD, h2⟩)
  have HS := Lib.hid (And.intro (And.intro s1 n1) (And.intro (And.intro s2 n2) (And.intro s3 n3)))
  have HL := Lib.hid (And.intro hz (And.intro hb hr))
  have HB := Lib.hid hB
  obtain ⟨p0, p1, p2, p3, p4⟩ := cells5 h2.1
  clear bD bW h2 s1 s2 s3 n1 n2 n3 hz hb hr hB
  go_cut [3] from 3 to 14 (fun s wc => MidC w x zs bs rs y wc)
  case first =>
    go_region_with first
      | (go_at_call 93; refine (cloneI_any B _ zs _ (HS.out.1.1.below (HD.out.1.mono HB.out)) (Nat.le_trans HB.out HD.out.1.size) HS.out.1.2 HL.out.1).mono ?_; rintro e w1 ⟨u1, rfl, o1, k1, b1⟩; (obtain ⟨D1, q1, rfl⟩ := o1.see.shape); have H1 := Lib.hid (And.intro o1 (And.intro k1 b1)); obtain ⟨d0, d1', d2', d3', d4⟩ := cells5 (two_later HD.out.2 b1).1; clear p0 p1 p2 p3 p4 o1 k1 b1)
      | (go_at_call 94; refine (cloneBx_any B _ bs _ (HS.out.2.1.1.below ((below_then HD.out.1 H1.out.2.2 (Nat.le_refl _)).mono HB.out)) (Nat.le_trans HB.out (below_then HD.out.1 H1.out.2.2 (Nat.le_refl _)).size) HS.out.2.1.2 HL.out.2.1).mono ?_; rintro e w2 ⟨u2, rfl, o2, k2, b2⟩; (obtain ⟨D2, q2, rfl⟩ := o2.see.shape); have H2 := Lib.hid (And.intro o2 (And.intro k2 b2)); obtain ⟨a0, a1, a2, a3, a4⟩ := cells5 (two_later (two_later HD.out.2 H1.out.2.2) b2).1; clear d0 d1' d2' d3' d4 o2 k2 b2)
      | (go_at_call 93; refine (cloneI_any B _ rs _ (HS.out.2.2.1.below ((below_then (below_then HD.out.1 H1.out.2.2 (Nat.le_refl _)) H2.out.2.2 (Nat.le_refl _)).mono HB.out)) (Nat.le_trans HB.out (below_then (below_then HD.out.1 H1.out.2.2 (Nat.le_refl _)) H2.out.2.2 (Nat.le_refl _)).size) HS.out.2.2.2 HL.out.2.2).mono ?_; rintro e w3 ⟨u3, rfl, o3, k3, b3⟩; (obtain ⟨D3, q3, rfl⟩ := o3.see.shape); have H3 := Lib.hid (And.intro o3 (And.intro k3 b3)); have r3 := (two_later (two_later (two_later HD.out.2 H1.out.2.2) H2.out.2.2) b3).1; have f31 := frozen_row (k := 1) r3; have f32 := frozen_row (k := 2) r3; have f33 := frozen_row (k := 3) r3; obtain ⟨c0, c1', c2', c3', c4⟩ := cells5 r3; clear a0 a1 a2 a3 a4 r3 o3 k3 b3)
    all_goals (
      go_wp2_with fail
      go_meet
      exact mid_of (w0 := W.drew) HN.out HD.out.1 HD.out.2 H1.out H2.out H3.out)
  case rest =>
    obtain ⟨u1, u2, u3, r, oC, bC, k1, k2, k3⟩ := hcut
    obtain ⟨D1, q1, e1⟩ := oC.o1.see.shape
    obtain ⟨D2, q2, e2⟩ := oC.o2.see.shape
    obtain ⟨D3, q3, e3⟩ := oC.o3.see.shape
    subst e1 e2 e3
    obtain ⟨p0, p1, p2, p3, p4⟩ := cells5 r.1
    obtain ⟨q0, q1', q2', q3', q4⟩ := cells5 r.2
    have f0 := frozen_row (k := 0) r.2
    have f1 := frozen_row (k := 1) r.2
    have f2 := frozen_row (k := 2) r.2
    have f3 := frozen_row (k := 3) r.2
    have f4 := frozen_row (k := 4) r.2
    have hno : ¬ rowsC (.slice D1 zs.length q1) (.slice D2 bs.length q2) (.slice D3 rs.length q3) (w.heap.size + 1) := fun q => by have := (oC.lt _ q).1; omega
    have ZB := Lib.hid (set5_blk r.2 (.int .i64 x) (.slice D1 zs.length q1) (.slice D2 bs.length q2) (.slice D3 rs.length q3) (.int .i64 y))
    have BB := Lib.hid (set5_below bC (show w.heap.size ≤ w.heap.size + 1 by omega) (.int .i64 x) (.slice D1 zs.length q1) (.slice D2 bs.length q2) (.slice D3 rs.length q3) (.int .i64 y))
    have OO := Lib.hid ((oC.set5 (N := w.heap.size + 1) hno (.int .i64 x) (.slice D1 zs.length q1) (.slice D2 bs.length q2) (.slice D3 rs.length q3) (.int .i64 y)).less (show w.heap.size ≤ w.heap.size + 2 by omega))
    unfold set5 at ZB BB OO
    have HK := Lib.hid (And.intro k1 (And.intro k2 k3))
    clear r oC bC k1 k2 k3 hno
    go_wp2_with fail
    generalize World.setCell _ _ _ = W6 at *
    obtain ⟨y0, y1, y2, y3, y4⟩ := cells5 ZB.out
    exact bodyPost_ret (v := .agg #[.int .i64 x, .slice D1 zs.length q1, .slice D2 bs.length q2, .slice D3 rs.length q3, .int .i64 y]) (by simp [results, Tryz.results43, go_sem, y0, y1, y2, y3, y4]) rfl
      ⟨_, _, _, rfl, OO.out, BB.out, HK.out.1, HK.out.2.1, HK.out.2.2⟩

end Go.Proofs.YtigcbegeaikfcaaGreatDoor
