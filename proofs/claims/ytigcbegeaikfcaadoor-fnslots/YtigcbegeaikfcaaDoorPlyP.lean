/- Layer 9 (the player): the draws of slots that may be none. No conditions but those typed. -/
import Derived.Test.YtigcbegeaikfcaaDoorPlyN
import Derived.Test.YtigcbegeaikfcaaDoorCoreS
namespace Go.Proofs.YtigcbegeaikfcaaDoor
open Go.RowKit
set_option linter.unusedVariables false

theorem Only.st {S : Nat → Prop} {w X : World} (h : Only S w X) {n k : Nat} (hn : S n) (u : Value) : Only S w (X.setCell ⟨n, k, none⟩ u) :=
  h.trans ⟨rfl, rfl, rfl, by simp [World.setCell], fun i _ hi => Below.heap_setCell _ _ _ _ (fun e => hi (e ▸ hn))⟩
/-- Slots whose blocks lie from B on, below H. -/
def SR (W : World) (B H : Nat) (v : Value) (ss : List (List Int)) : Prop := ∃ us : List Value, W.ownsRow B 40 1 v us.length us ∧ us.length = ss.length ∧ (∀ (k : Nat) (u : Value) (s : List Int), us[k]? = some u → ss[k]? = some s → OwnI W B 2 u s) ∧
  (∀ q, v.ownBlock = some q → q < H) ∧ (∀ q, rowsSS us q → q < H)
theorem SR.keep {W W' : World} {B H : Nat} {v : Value} {ss : List (List Int)} {S : Nat → Prop} (h : SR W B H v ss) (on : Only S W W') (hS : ∀ g, S g → g < B ∨ H ≤ g) : SR W' B H v ss := by
  obtain ⟨us, h1, h2, h3, h4, h5⟩ := h
  exact ⟨us, own_only h1 on (fun g q e => by have := (World.ownsRow.lt h1 g q).1; have := h4 g q; have := hS g e; omega), h2, fun k u s hu hs => own_only (h3 k u s hu hs) on (fun g q e => by have := ((h3 k u s hu hs).lt g q).1; have := h5 g ⟨k, u, hu, q⟩; have := hS g e; omega), h4, h5⟩
theorem SR.more {W : World} {B H H' : Nat} {v : Value} {ss : List (List Int)} (h : SR W B H v ss) (hH : H ≤ H') : SR W B H' v ss := by
  obtain ⟨us, h1, h2, h3, h4, h5⟩ := h
  exact ⟨us, h1, h2, h3, fun q e => by have := h4 q e; omega, fun q e => by have := h5 q e; omega⟩
theorem SR.less {W : World} {B B' H : Nat} {v : Value} {ss : List (List Int)} (h : SR W B H v ss) (hB : B' ≤ B) : SR W B' H v ss := by
  obtain ⟨us, h1, h2, h3, h4, h5⟩ := h
  exact ⟨us, own_less h1 hB, h2, fun k u s hu hs => own_less (h3 k u s hu hs) hB, h4, h5⟩
theorem SR.see {W : World} {B H : Nat} {v : Value} {ss : List (List Int)} (h : SR W B H v ss) : SeeSS W W.heap.size v ss := by
  obtain ⟨us, h1, h2, h3, h4, h5⟩ := h
  exact ⟨us, OwnV.see h1, h2, fun k u s hu hs => (h3 k u s hu hs).see⟩
theorem OwnSS.sr {W : World} {B : Nat} {v : Value} {us : List Value} {ss : List (List Int)} (h : OwnSS W B v us ss) : SR W B W.heap.size v ss := ⟨us, h.row, h.len, h.inn, fun q e => (World.ownsRow.lt h.row q e).2, fun q e => (h.blocks q e).2⟩

def SlAny (w : World) (g : Nat) (e : Ending) (w' : World) : Prop := ∃ (r c : Nat) (ss : List (List Int)), e = .returned (.slice (some ⟨r, 0, none⟩) ss.length c) ∧ SR w' w.heap.size w'.heap.size (.slice (some ⟨r, 0, none⟩) ss.length c) ss ∧ 1 ≤ ss.length ∧ ss.length ≤ 8 ∧ (∀ s ∈ ss, s.length ≤ 41) ∧ Cur w' g ∧ w.grownBy w' (some g)

/-- The first slot replaced by another row. -/
theorem OwnSS.set0 {W X : World} {B H r n c : Nat} {us : List Value} {ss : List (List Int)} (h : OwnSS W B (.slice (some ⟨r, 0, none⟩) n c) us ss) (hn : 0 < ss.length) {u : Value} {s : List Int} (hon : ∀ (k : Nat) (v : Value) (t : List Int), 0 < k → us[k]? = some v → ss[k]? = some t → OwnI X B 2 v t)
    (hrow : OwnV X B 40 (.slice (some ⟨r, 0, none⟩) n c) (us.set 0 u)) (hu : OwnI X B 2 u s) (hH : W.heap.size ≤ H) (hub : ∀ q, u.ownBlock = some q → q < H) : SR X B H (.slice (some ⟨r, 0, none⟩) n c) (ss.set 0 s) := by
  have hlen := h.len
  refine ⟨us.set 0 u, ?_, by simp [hlen], fun k v t hv ht => ?_, fun q e => by have := (World.ownsRow.lt h.row q e).2; omega, fun q e => ?_⟩
  · exact hrow
  · cases k with
    | zero =>
      rw [List.getElem?_set, if_pos rfl, if_pos (by omega)] at hv ht
      injection hv with hv
      injection ht with ht
      subst hv ht
      exact hu
    | succ k =>
      rw [List.getElem?_set, if_neg (by omega)] at hv ht
      exact hon _ v t (by omega) hv ht
  · obtain ⟨k, v, hv, hq⟩ := e
    cases k with
    | zero =>
      rw [List.getElem?_set, if_pos rfl, if_pos (by omega)] at hv
      injection hv with hv
      subst hv
      exact hub q hq
    | succ k =>
      rw [List.getElem?_set, if_neg (by omega)] at hv
      have := (h.blocks q ⟨_, v, hv, hq⟩).2
      omega
theorem set0_len {ss : List (List Int)} {s : List Int} {m : Nat} (h : ∀ t ∈ ss, t.length ≤ m) (hs : s.length ≤ m) : ∀ t ∈ ss.set 0 s, t.length ≤ m := fun t ht => by
  rcases List.mem_or_eq_of_mem_set ht with q | q
  · exact h t q
  · subst q; exact hs
theorem OwnI.made (w : World) (k : Nat) (B : Nat) (hB : B ≤ w.heap.size) (hk : k ≤ maxLen) : OwnI (w.alloc (.cells (madeCells #[.int .i64 0] k) 2)) B 2 (.slice (some ⟨w.heap.size, 0, none⟩) k k) (List.replicate k 0) := by
  unfold OwnI
  refine ⟨by simp, .inr ⟨w.heap.size, k, madeCells #[.int .i64 0] k, by simp, hB, heap_alloc_new _ _, by simp, hk, by rw [size_madeCells]; simp, ?_⟩⟩
  apply List.ext_getElem?
  intro j
  rw [List.length_replicate]
  by_cases hj : j < k
  · rw [List.getElem?_take, if_pos (by omega)]
    simp [madeCells, hj, Nat.mod_one]
  · rw [List.getElem?_take, if_neg (by omega)]
    simp
    omega

theorem grown_undrew {W w5 : World} {r : Option Nat} (h : W.drew.grownBy w5 r) : W.grownBy w5 r := ⟨h.os, h.tape, h.output, h.size, h.block⟩
theorem app0 {W w5 : World} {B g r : Nat} {u v : Value} {zs : List Int} {y : Int} (h : OwnI W B 2 v zs) (g5 : W.grownBy w5 (some g)) (hr : r < W.heap.size) (hB : g < B) (hgr : g ≠ r) (hc : W.cell? ⟨r, 0, none⟩ = some u) (hf : W.frozen? ⟨r, 0, none⟩ = false) :
    w5.cell? ⟨r, 0, none⟩ = some u ∧ w5.frozen? ⟨r, 0, none⟩ = false ∧ W.heap.size ≤ w5.heap.size ∧ OwnI (w5.alloc (.cells #[.int .i64 y] 2)) B 2 v zs :=
  ⟨(World.cell?_of_block (g5.block r hr (fun q => by injection q with q; omega))).trans hc, (World.frozen?_of_block (g5.block r hr (fun q => by injection q with q; omega))).trans hf, g5.size, own_later (own_only h (Only.of_grown (S := fun q => q = g) g5 (fun k e => by injection e with e; exact e.symm)) (fun q e => by have := (h.lt q e).1; show ¬ q = g; omega)) (below_new _ _)⟩
theorem app1 {w5 w6 : World} {r : Nat} {u v : Value} {o : Obj} (hc : w5.cell? ⟨r, 0, none⟩ = some u) (hf : w5.frozen? ⟨r, 0, none⟩ = false) (hr : r < w5.heap.size) (gr : (w5.alloc o).grownBy w6 v.ownBlock) (hne : ¬ v.ownBlock = some r) : w6.cell? ⟨r, 0, none⟩ = some u ∧ w6.frozen? ⟨r, 0, none⟩ = false := by
  have e : w6.heap[r]? = w5.heap[r]? := (gr.block r (by simp; omega) (fun q => hne q.symm)).trans ((below_new w5 o).block r hr)
  exact ⟨(World.cell?_of_block e).trans hc, (World.frozen?_of_block e).trans hf⟩

theorem app2 {W w5 w6 : World} {B g r n c : Nat} {us : List Value} {ss : List (List Int)} {v0 v6 : Value} {s0 : List Int} {y : Int} {o : Obj} (h : OwnSS W B (.slice (some ⟨r, 0, none⟩) n c) us ss) (hgB : g < B) (hu : us[0]? = some v0) (hs : ss[0]? = some s0)
    (g5 : W.grownBy w5 (some g)) (g6 : (w5.alloc o).grownBy w6 v0.ownBlock) (own6 : w6.ownsRow B 2 1 v6 (s0.length + 1) (s0.map (Value.int .i64) ++ [.int .i64 y])) (hat : v6.ownBlock = v0.ownBlock ∨ v6.ownBlock = some (w5.alloc o).heap.size) :
    SR (w6.setCell ⟨r, 0, none⟩ v6) B w6.heap.size (.slice (some ⟨r, 0, none⟩) n c) (ss.set 0 (s0 ++ [y])) := by
  have hB := World.ownsRow.lt h.row r rfl
  have h5 := h.keep (Only.of_grown (S := fun q => q = g) g5 (fun k e => by injection e with e; exact e.symm)) (fun q e => by have := (World.ownsRow.lt h.row q e).1; show ¬ q = g; omega) (fun q e => by have := (h.blocks q e).1; show ¬ q = g; omega)
  have hA := h5.later (below_new w5 o)
  have on6 : Only (fun q => v0.ownBlock = some q) (w5.alloc o) w6 := Only.of_grown g6 (fun k e => e)
  have hout := h.out 0 v0 hu
  have hrow6 : OwnV w6 B 40 (.slice (some ⟨r, 0, none⟩) n c) us := own_only hA.row on6 (fun q e f => hout q e f)
  have hss0 : 0 < ss.length := (List.getElem?_eq_some_iff.1 hs).1
  have hr6 : r < (w5.alloc o).heap.size := (World.ownsRow.lt hA.row r rfl).2
  have hne : ∀ q, v6.ownBlock = some q → ¬ q = r := fun q e f => by
    subst f
    rcases hat with a | a
    · exact hout q rfl (a ▸ e)
    · rw [a] at e; injection e with e; omega
  have hon : Only (fun q => q = r) w6 (w6.setCell ⟨r, 0, none⟩ v6) := Only.st (Only.refl (fun q => q = r) w6) (n := r) (k := 0) rfl v6
  refine h.set0 hss0 (fun k v t hk hv ht => own_only (own_only (hA.inn k v t hv ht) on6 (fun q e f => h.ap 0 k v0 v (by omega) hu hv q f e)) hon (fun q e f => h.out k v hv q (by rw [f]; rfl) e)) (hrow6.set (by rw [h.len]; exact hss0) v6) ?_ ?_ (fun q e => (World.ownsRow.lt own6 q e).2)
  · exact own_only (show OwnI w6 B 2 v6 (s0 ++ [y]) from by unfold OwnI; rw [List.map_append, List.length_append]; exact own6) hon (fun q e f => hne q e f)
  · have h1 := g5.size
    have h2 := g6.size
    rw [World.size_alloc] at h2
    omega

set_option maxHeartbeats 8000000 in
set_option maxRecDepth 100000 in
theorem l9DrawAnySlots_any (g : Nat) (w : World) (hc : Cur w g) : Calls Tryd.prog 20 #[.pointer (some ⟨g, 0, none⟩)] w (SlAny w g) := by
  obtain ⟨i0, hi, hz0, hz1, hz2⟩ := info_parts Tryd.infoI64
  obtain ⟨j0, hj, hy0, hy1, hy2⟩ := info_parts Tryd.infoSl
  have hgw := hc.lt
  go_enter Tryd.func20, Tryd.ntmps20
  go_wp2_with fail
  refine (l1Below_any g _ (by decide) (by decide) _ hc).mono ?_
  rintro e w1 ⟨y, rfl, hya, hyb, c1, g1⟩
  have hs1 := g1.size
  obtain ⟨n, hn⟩ : ∃ n : Nat, 1 + y = n := ⟨(1 + y).toNat, by omega⟩
  have hn4 : n ≤ 4 := by omega
  have hn1 : 1 ≤ n := by omega
  have hw1 : IntKind.i64.wrap (1 + y) = (n : Int) := by rw [IntKind.wrap_i64]; omega
  clear hn
  go_wp2_with fail
  refine (l9DrawSlots_any g n hn4 w1 c1).mono ?_
  rintro e w2 ⟨r, c, us, ss, rfl, hO, hss, hl5, c2, g2⟩
  replace hO : OwnSS w2 w1.heap.size (.slice (some ⟨r, 0, none⟩) ss.length c) us ss := hO
  have hs2 := g2.size
  replace g2 := grown_trans g1 g2
  have hss1 : 1 ≤ ss.length := by omega
  have hss4 : ss.length ≤ 4 := by omega
  clear c1 g1 hw1 hss hn4 hn1
  go_wp2_with fail
  refine (l1Once_any g _ (by decide) (by decide) _ c2).mono ?_
  rintro e w3 ⟨b, rfl, c3, g3⟩
  have on3 : Only (fun q => q = g) w2 w3 := Only.of_grown g3 (fun k e => by injection e with e; exact e.symm)
  have hO3 := hO.keep on3 (fun q e => by have := (World.ownsRow.lt hO.row q e).1; show ¬ q = g; omega) (fun q e => by have := (hO.blocks q e).1; show ¬ q = g; omega)
  have hs3 := g3.size
  replace g3 := grown_trans g2 g3
  clear c2 g2 hO on3
  cases b
  · go_wp2_with fail
    go_ret
    exact ⟨r, c, ss, rfl, hO3.sr.less hs1, hss1, by omega, fun s hs => by have := hl5 s hs; omega, c3, g3⟩
  go_wp2_with fail
  refine (l1Below_any g _ (by decide) (by decide) _ c3).mono ?_
  rintro e w4 ⟨z, rfl, hza, hzb, c4, g4⟩
  have on4 : Only (fun q => q = g) w3 w4 := Only.of_grown g4 (fun k e => by injection e with e; exact e.symm)
  have hO4 := hO3.keep on4 (fun q e => by have := (World.ownsRow.lt hO3.row q e).1; show ¬ q = g; omega) (fun q e => by have := (hO3.blocks q e).1; show ¬ q = g; omega)
  have hs4 := g4.size
  replace g4 := grown_trans g3 g4
  clear c3 g3 hO3 on4
  have hlen := hO4.len
  have hu0 : 0 < us.length := by omega
  obtain ⟨u0, hu0e⟩ : ∃ u, us[0]? = some u := ⟨_, List.getElem?_eq_getElem hu0⟩
  obtain ⟨s0, hs0e⟩ : ∃ s, ss[0]? = some s := ⟨_, List.getElem?_eq_getElem (by omega)⟩
  have hin := hO4.inn 0 u0 s0 hu0e hs0e
  have hap := hO4.out 0 u0 hu0e
  have hs05 := hl5 s0 (List.mem_of_getElem? hs0e)
  have HO := Lib.hid hO4
  have H5 := Lib.hid hl5
  have HL := Lib.hid hlen
  have hrB := (World.ownsRow.lt hO4.row r rfl).1
  have hcell : w4.cell? ⟨r, 0, none⟩ = some u0 := by
    obtain ⟨hm, A, c', e', -, hat⟩ := OwnV.see (show OwnV w4 w1.heap.size 40 (.slice (some ⟨r, 0, none⟩) ss.length c) us from hO4.row)
    injection e' with e1 e2 e3
    obtain ⟨g5, o5, hA, -, hcl⟩ := hat 0 u0 hu0e
    rw [hA] at e1
    injection e1 with e1
    injection e1 with q1 q2 q3
    subst q1 q2
    simpa using hcl
  have hfz : w4.frozen? ⟨r, 0, none⟩ = false := by
    rcases hO4.row.2 with ⟨q, _⟩ | ⟨g2', c2', cur, q, _, hb, _⟩
    · cases q
    · injection q with q
      injection q with q
      injection q with q
      subst q
      exact frozen_row hb
  clear hO4 hl5 hlen hu0
  by_cases h0 : z = 0
  · subst h0
    obtain ⟨A0, q0, e0⟩ := hin.see.shape
    subst e0
    have hr4 : r < w4.heap.size := (World.ownsRow.lt HO.out.row r rfl).2
    have C4 := Lib.hid (show Cur w4.drew g from c4)
    have bD : Below w4.heap.size w4 w4.drew := (Below.refl _ _).drew
    have HAP := Lib.hid hap
    have HIN := Lib.hid (show OwnI w4.drew w1.heap.size 2 (.slice A0 s0.length q0) s0 from hin)
    have HNX := Lib.hid (show ∀ (w5 : World) (y5 : Int), w4.drew.grownBy w5 (some g) → w5.cell? ⟨r, 0, none⟩ = some (.slice A0 s0.length q0) ∧ w5.frozen? ⟨r, 0, none⟩ = false ∧ w4.heap.size ≤ w5.heap.size ∧ OwnI (w5.alloc (.cells #[.int .i64 y5] 2)) w1.heap.size 2 (.slice A0 s0.length q0) s0 from
      fun w5 y5 g5 => app0 (W := w4.drew) (g := g) (r := r) HIN.out g5 hr4 (by omega) (by omega) hcell hfz)
    have HNY := Lib.hid (show ∀ (w5 w6 : World) (y5 : Int), w5.cell? ⟨r, 0, none⟩ = some (.slice A0 s0.length q0) → w5.frozen? ⟨r, 0, none⟩ = false → w4.heap.size ≤ w5.heap.size → (w5.alloc (.cells #[.int .i64 y5] 2)).grownBy w6 (Value.slice A0 s0.length q0).ownBlock → w6.cell? ⟨r, 0, none⟩ = some (.slice A0 s0.length q0) ∧ w6.frozen? ⟨r, 0, none⟩ = false from
      fun w5 w6 y5 h1 h2 h3 h4 => app1 h1 h2 (by omega) h4 (fun q => HAP.out r rfl q))
    have HCE := Lib.hid (And.intro hcell hfz)
    have hcD : w4.drew.cell? ⟨r, 0, none⟩ = some (.slice A0 s0.length q0) := hcell
    clear hap hin hcell hfz
    have hpos : 0 < ss.length := by omega
    go_upto_region 5 with fail
    go_region_law (first
      | (go_simp; refine (l5DrawAny_any g w4.drew C4.out).mono ?_; rintro e w5 ⟨y5, rfl, -, -, c5, g5⟩; dsimp only; obtain ⟨hc5, hf5, hs5, hown⟩ := HNX.out w5 y5 g5; have hr5 : r < w5.heap.size := Nat.lt_of_lt_of_le hr4 hs5)
      | (refine step_append_at _ (by rfl) _ _ _ (by rfl) w1.heap.size 2 i0 (.int .i64 0) 1 8 Tryd.underlying40 hi hz0 hz1 hz2 rfl (by decide) _ _ _ (by rfl) hown ⟨w5.heap.size, 0, none⟩ 1 1 [.int .i64 y5] (by rfl) (by rfl) (cell_one_new _ _ _) (by intro u hu; simp at hu; subst hu; rfl) (by unfold maxLen; omega) (by omega) (by simp; omega) ?_; intro v6 w6 hown6 hgr6 hnil6 hat6; obtain ⟨hc6, hf6⟩ := HNY.out w5 w6 y5 hc5 hf5 hs5 hgr6; (obtain ⟨g6, k6, rfl⟩ := own_base hown6 (fun q => by have := (hnil6.1 q).2; cases this))))
    all_goals (
      have hsr := app2 (W := w4) (g := g) HO.out (by omega) hu0e hs0e (grown_undrew g5) hgr6 hown6 hat6
      have hs6 := hgr6.size
      have C5 : Cur w6 g := (c5.alloc (.cells #[.int .i64 y5] 2)).apart hgr6 (fun j hj => by have := (HIN.out.lt j hj).1; omega)
      have G6 : w.grownBy w6 (some g) := grown_onN (grown_trans g4 (grown_undrew g5)) (((Below.refl w.heap.size w5).alloc (by omega) (.cells #[.int .i64 y5] 2)).grown hgr6 (by simp; omega) (fun j hj => by have := (HIN.out.lt j hj).1; omega))
      go_wp2_with fail
      go_ret
      refine ⟨r, c, ss.set 0 (s0 ++ [y5]), by rw [List.length_set]; rfl, ?_, by rw [List.length_set]; omega, by rw [List.length_set]; omega, set0_len (fun t ht => by have := H5.out t ht; omega) (by simp; omega), C5.far (p := ⟨r, 0, none⟩) (by show g < r; omega) _, grown_onN G6 ((Below.refl _ _).setCell (show w.heap.size ≤ r by omega) _)⟩
      rw [List.length_set]
      exact (hsr.less hs1).more (by simp [World.setCell]))
  by_cases h1 : z = 1
  · subst h1
    clear hcell hfz hin hap hs05 hs0e
    have hrow := HO.out.row
    rw [HL.out] at hrow
    have hnews : ∀ j u, us[j]? = some u → w4.cell? ((⟨r, 0, none⟩ : Addr).add j) = some u := fun j u hu => by
      obtain ⟨hm, A, c', e', -, hat⟩ := OwnV.see (show OwnV w4 w1.heap.size 40 (.slice (some ⟨r, 0, none⟩) ss.length c) us from HO.out.row)
      injection e' with e1 e2 e3
      obtain ⟨g5, o5, hA, -, hcl⟩ := hat j u hu
      rw [hA] at e1
      injection e1 with e1
      injection e1 with q1 q2 q3
      subst q1 q2
      rw [add_at8]
      exact hcl
    have hone : ∀ u ∈ us, u.oneCell' = true := fun u hu => by
      obtain ⟨k, hk, e⟩ := List.getElem_of_mem hu
      have hk2 : us[k]? = some u := by rw [List.getElem?_eq_getElem hk, e]
      obtain ⟨A, c', e'⟩ := (HO.out.inn k u _ hk2 (List.getElem?_eq_getElem (by rw [← HL.out]; exact hk))).see.shape
      rw [e']; rfl
    have hus : us.length = ss.length * 1 := by rw [HL.out]; omega
    have HUS := Lib.hid hus
    clear hus
    go_wp2_with (at_builtin; refine wpList_append_own_at _ rfl _ _ 24 rfl w1.heap.size 40 j0 (.slice none 0 0) 1 24 Tryd.underlying24 hj hy0 hy1 hy2 rfl (by decide) _ _ _ rfl hrow ⟨r, 0, none⟩ ss.length c us rfl HUS.out hnews hone (by unfold maxLen; omega) (by omega) (by omega) ?_; intro v5 w5 hown5 hgr5 hnil5 hat5; (obtain ⟨g5, c5, rfl⟩ := own_base hown5 (fun q => by have := (hnil5.1 q).1; cases this)))
    replace hgr5 : w4.grownBy w5 (some r) := hgr5
    have on5 : Only (fun q => q = r) w4 w5 := Only.of_grown hgr5 (fun k e => by injection e with e; exact e.symm)
    have hsz5 := hgr5.size
    have HSR := Lib.hid (show SR w5 w.heap.size w5.heap.size (.slice (some ⟨g5, 0, none⟩) (ss.length + ss.length) c5) (ss ++ ss) from by
      have hat : ∀ (k : Nat) (u : Value) (t : List Int), (us ++ us)[k]? = some u → (ss ++ ss)[k]? = some t → ∃ i : Nat, us[i]? = some u ∧ ss[i]? = some t := fun k u t hu ht => by
        by_cases hk : k < us.length
        · rw [List.getElem?_append_left hk] at hu
          rw [List.getElem?_append_left (by rw [← HL.out]; exact hk)] at ht
          exact ⟨k, hu, ht⟩
        · rw [List.getElem?_append_right (by omega)] at hu
          rw [List.getElem?_append_right (by rw [← HL.out]; omega), ← HL.out] at ht
          exact ⟨_, hu, ht⟩
      refine ⟨us ++ us, ?_, by simp [HL.out], fun k u t hu ht => ?_, fun q e => (World.ownsRow.lt hown5 q e).2, fun q e => ?_⟩
      · have := own_less hown5 hs1
        rwa [show (us ++ us).length = ss.length + ss.length by rw [List.length_append, HL.out]]
      · obtain ⟨i, q1, q2⟩ := hat k u t hu ht
        exact own_less (own_only (HO.out.inn i u t q1 q2) on5 (fun q e f => HO.out.out i u q1 q (by rw [f]; rfl) e)) hs1
      · obtain ⟨k, u, hu, hq⟩ := e
        have hm : u ∈ us := by rcases List.mem_append.1 (List.mem_of_getElem? hu) with q | q <;> exact q
        obtain ⟨i, hi', e'⟩ := List.getElem_of_mem hm
        have := (HO.out.blocks q ⟨i, u, by rw [List.getElem?_eq_getElem hi', e'], hq⟩).2
        omega)
    have HC5 := Lib.hid (show Cur w5 g ∧ w.grownBy w5 (some g) from ⟨c4.apart hgr5 (fun j hj => by injection hj with hj; omega), grown_onN g4 ((Below.refl _ _).grown hgr5 (by omega) (fun j hj => by injection hj with hj; omega))⟩)
    clear hown5 hgr5 hnil5 hat5 on5 hrow hnews hone c4 g4
    go_wp2_with fail
    go_ret
    exact ⟨g5, c5, ss ++ ss, by rw [List.length_append]; rfl, by rw [List.length_append]; exact HSR.out, by simp; omega, by simp; omega, fun s hs => (by
      have : s ∈ ss := by rcases List.mem_append.1 hs with q | q <;> exact q
      have := H5.out s this
      omega), HC5.out.1, HC5.out.2⟩
  · obtain rfl : z = 2 := by omega
    go_wp2_with fail
    refine (l1Below_any g _ (by decide) (by decide) _ c4).mono ?_
    rintro e w5 ⟨y5, rfl, hy5a, hy5b, c5, g5⟩
    have on5 : Only (fun q => q = g) w4 w5 := Only.of_grown g5 (fun k e => by injection e with e; exact e.symm)
    have hO5 := HO.out.keep on5 (fun q e => by have := (World.ownsRow.lt HO.out.row q e).1; show ¬ q = g; omega) (fun q e => by have := (HO.out.blocks q e).1; show ¬ q = g; omega)
    have hcell5 : w5.cell? ⟨r, 0, none⟩ = some u0 := (World.cell?_of_block (g5.block r (World.ownsRow.lt HO.out.row r rfl).2 (fun q => by injection q with q; omega))).trans hcell
    have hfz5 : w5.frozen? ⟨r, 0, none⟩ = false := (World.frozen?_of_block (g5.block r (World.ownsRow.lt HO.out.row r rfl).2 (fun q => by injection q with q; omega))).trans hfz
    have hs5 := g5.size
    replace g5 := grown_trans g4 g5
    obtain ⟨k, hk⟩ : ∃ k : Nat, 40 + y5 = k := ⟨(40 + y5).toNat, by omega⟩
    have hk41 : k ≤ 41 := by omega
    have hw5 : IntKind.i64.wrap (40 + y5) = (k : Int) := by rw [IntKind.wrap_i64]; omega
    clear c4 g4 hcell hfz hk hap hs05
    have hmk := fun W => run_make_row' (P := Tryd.prog) 40 2 (.int .i64 0) 8 Tryd.underlying40 Tryd.infoI64 rfl .i64 .i64 k (by omega) (by omega) W
    have hr5 : r < w5.heap.size := by have := (World.ownsRow.lt HO.out.row r rfl).2; omega
    have HO5 := Lib.hid hO5
    clear hO5 hin hu0e hs0e
    have hB5 : w.heap.size ≤ w5.heap.size := by omega
    go_wp2_with fail
    go_ret
    have hYs : (w5.setCell ⟨r, 0, none⟩ (.slice (some ⟨w5.heap.size, 0, none⟩) k k)).heap.size = w5.heap.size := by simp [World.setCell]
    have hon := Only.st (Only.refl (fun q => q = r) w5) (n := r) (k := 0) rfl (.slice (some ⟨w5.heap.size, 0, none⟩) k k)
    have hrow := OwnV.set (k := 0) (show OwnV w5 w1.heap.size 40 (.slice (some ⟨r, 0, none⟩) ss.length c) us from HO5.out.row) (by rw [HO5.out.len]; omega) (.slice (some ⟨w5.heap.size, 0, none⟩) k k)
    have hmd := OwnI.made (w5.setCell ⟨r, 0, none⟩ (.slice (some ⟨w5.heap.size, 0, none⟩) k k)) k w1.heap.size (by rw [hYs]; omega) (by unfold maxLen; omega)
    have bx := below_new (w5.setCell ⟨r, 0, none⟩ (.slice (some ⟨w5.heap.size, 0, none⟩) k k)) (.cells (madeCells #[.int .i64 0] k) 2)
    rw [hYs] at hmd
    have hsr := HO5.out.set0 (H := w5.heap.size + 1) (X := (w5.setCell ⟨r, 0, none⟩ (.slice (some ⟨w5.heap.size, 0, none⟩) k k)).alloc (.cells (madeCells #[.int .i64 0] k) 2)) hss1 (fun i v t h0 hv ht => own_later (own_only (HO5.out.inn i v t hv ht) hon (fun q e f => HO5.out.out i v hv q (by rw [f]; rfl) e)) bx) (hrow.later bx) hmd (by omega) (fun q e => by have := ob_eq e; omega)
    refine ⟨r, c, ss.set 0 (List.replicate k 0), by rw [List.length_set]; rfl, ?_, by rw [List.length_set]; omega, by rw [List.length_set]; omega, set0_len (fun t ht => by have := H5.out t ht; omega) (by rw [List.length_replicate]; omega), (c5.far (p := ⟨r, 0, none⟩) (by show g < r; omega) _).alloc _,
      grown_onN g5 (((Below.refl _ _).setCell (show w.heap.size ≤ r by omega) _).alloc (by rw [hYs]; omega) _)⟩
    rw [List.length_set]
    exact (hsr.less hs1).more (by rw [World.size_alloc, hYs]; exact Nat.le_refl _)

end Go.Proofs.YtigcbegeaikfcaaDoor
