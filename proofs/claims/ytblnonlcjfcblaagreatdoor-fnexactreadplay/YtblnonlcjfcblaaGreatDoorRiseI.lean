/- Layer 7 (plays): numbers put in order, each once: the program's rising at []int64. No conditions but those typed. -/
import Derived.Test.YtblnonlcjfcblaaGreatDoorDeedC
namespace Go.Proofs.YtblnonlcjfcblaaGreatDoor
open Go.RowKit Go.Sort
set_option linter.unusedVariables false

theorem up_eqI : ∀ {xs ys : List Int}, xs.Pairwise (· < ·) → ys.Pairwise (· < ·) → (∀ s, s ∈ xs ↔ s ∈ ys) → xs = ys
  | [], [], _, _, _ => rfl
  | [], y :: ys, _, _, h => absurd ((h y).2 (by simp)) (by simp)
  | x :: xs, [], _, _, h => absurd ((h x).1 (by simp)) (by simp)
  | x :: xs, y :: ys, hx, hy, h => by
    obtain ⟨x1, x2⟩ := List.pairwise_cons.1 hx
    obtain ⟨y1, y2⟩ := List.pairwise_cons.1 hy
    have e : x = y := by
      rcases List.mem_cons.1 ((h x).1 (by simp)) with q | q
      · exact q
      · rcases List.mem_cons.1 ((h y).2 (by simp)) with p | p
        · exact p.symm
        · have := y1 x q
          have := x1 y p
          omega
    subst e
    congr 1
    refine up_eqI x2 y2 fun s => ⟨fun q => ?_, fun q => ?_⟩
    · rcases List.mem_cons.1 ((h s).1 (List.mem_cons_of_mem _ q)) with rfl | p
      · have := x1 s q
        omega
      · exact p
    · rcases List.mem_cons.1 ((h s).2 (List.mem_cons_of_mem _ q)) with rfl | p
      · have := y1 s q
        omega
      · exact p
theorem comp_upI (d : Array Int) : ∀ m, m ≤ d.size → (∀ i j, i < j → j < m → ¬ d[j]! < d[i]!) → (Lib.compactUpTo d m).Pairwise (· < ·) ∧ ∀ s, s ∈ Lib.compactUpTo d m ↔ ∃ j, j < m ∧ d[j]! = s
  | 0, _, _ => ⟨by simp [Lib.compactUpTo], fun s => by simp [Lib.compactUpTo]⟩
  | m + 1, hm, h => by
    obtain ⟨h1, h2⟩ := comp_upI d m (by omega) (fun i j hi hj => h i j hi (by omega))
    rw [Lib.compactUpTo_succ]
    cases hk : Lib.keeps d m
    · have hk' : ¬ (m = 0 ∨ d[m]! ≠ d[m - 1]!) := by simpa [Lib.keeps] using hk
      have hm0 : m ≠ 0 := fun e => hk' (.inl e)
      have he : d[m]! = d[m - 1]! := Classical.byContradiction fun q => hk' (.inr q)
      rw [if_neg (by simp), List.append_nil]
      refine ⟨h1, fun s => (h2 s).trans ⟨fun ⟨j, a, b⟩ => ⟨j, by omega, b⟩, fun ⟨j, a, b⟩ => ?_⟩⟩
      by_cases q : j = m
      · subst q; exact ⟨j - 1, by omega, by rw [← he]; exact b⟩
      · exact ⟨j, by omega, b⟩
    · have hk' : m = 0 ∨ d[m]! ≠ d[m - 1]! := by simpa [Lib.keeps] using hk
      rw [if_pos rfl]
      refine ⟨List.pairwise_append.2 ⟨h1, by simp, fun a ha b hb => ?_⟩, fun s => ?_⟩
      · have hb' : b = d[m]! := by simpa using hb
        obtain ⟨j, hj, rfl⟩ := (h2 a).1 ha
        subst hb'
        have hm0 : m ≠ 0 := by omega
        have hne : d[m]! ≠ d[m - 1]! := hk'.resolve_left hm0
        have hle := h (m - 1) m (by omega) (by omega)
        by_cases q : j = m - 1
        · rw [q]; omega
        · have := h j (m - 1) (by omega) (by omega)
          omega
      · rw [List.mem_append, h2]
        constructor
        · rintro (⟨j, a, b⟩ | a)
          · exact ⟨j, by omega, b⟩
          · have : s = d[m]! := by simpa using a
            exact ⟨m, by omega, this.symm⟩
        · rintro ⟨j, a, b⟩
          by_cases q : j = m
          · subst q; exact .inr (by simp [b])
          · exact .inl ⟨j, by omega, b⟩
theorem riseG_mem {g : List Nat} {x : Int} : x ∈ riseG g ↔ ∃ k : Nat, k < 4 ∧ k ∈ g ∧ x = (k : Int) := by
  unfold riseG
  simp only [List.mem_map, List.mem_filter, List.mem_range, decide_eq_true_eq]
  constructor
  · rintro ⟨k, ⟨h1, h2⟩, rfl⟩; exact ⟨k, h1, h2, rfl⟩
  · rintro ⟨k, h1, h2, rfl⟩; exact ⟨k, ⟨h1, h2⟩, rfl⟩
theorem riseG_up (g : List Nat) : (riseG g).Pairwise (· < ·) := by
  unfold riseG
  rw [List.pairwise_map]
  refine (List.Pairwise.filter _ List.pairwise_lt_range).imp ?_
  intro a b h
  simpa using h
theorem sort_rise {g : List Nat} (hg : ∀ x ∈ g, x < 4) : Lib.compact ((g.map Int.ofNat).mergeSort fun x y => decide (x ≤ y)) = riseG g := by
  have hs : ((g.map Int.ofNat).mergeSort fun x y => decide (x ≤ y)).Pairwise (fun a b => decide (a ≤ b) = true) := List.pairwise_mergeSort (fun a b c h k => by
      simp only [decide_eq_true_eq] at *
      omega) (fun a b => by
      simp only [Bool.or_eq_true, decide_eq_true_eq]
      omega) _
  have hp := List.mergeSort_perm (g.map Int.ofNat) (fun x y => decide (x ≤ y))
  generalize (g.map Int.ofNat).mergeSort (fun x y => decide (x ≤ y)) = ys at hs hp
  obtain ⟨h1, h2⟩ := comp_upI ys.toArray ys.length (by simp) (fun i j hi hj => by
    have := List.pairwise_iff_getElem.1 hs i j (by omega) hj hi
    simp only [decide_eq_true_eq] at this
    have e1 : ys.toArray[j]! = ys[j] := by simp [hj]
    have e2 : ys.toArray[i]! = ys[i] := by simp [show i < ys.length by omega]
    rw [e1, e2]
    omega)
  refine up_eqI h1 (riseG_up g) fun s => ?_
  unfold Lib.compact
  rw [h2, riseG_mem]
  constructor
  · rintro ⟨j, hj, e⟩
    have e1 : ys.toArray[j]! = ys[j] := by simp [hj]
    rw [e1] at e
    have := hp.mem_iff.1 (show s ∈ ys by rw [← e]; exact List.getElem_mem hj)
    obtain ⟨k, hk, rfl⟩ := List.mem_map.1 this
    exact ⟨k, hg k hk, hk, rfl⟩
  · rintro ⟨k, h1, h2, rfl⟩
    obtain ⟨j, hj, e⟩ := List.getElem_of_mem (hp.mem_iff.2 (List.mem_map.2 ⟨k, h2, rfl⟩))
    exact ⟨j, hj, by simp [hj, e]⟩

theorem holdsI {w : World} {g : Nat} {cur : Array Value} {e : TypeId} {zs : List Int} (hb : w.heap[g]? = some (.cells cur e (0, 0))) (ht : cur.toList.take zs.length = zs.map (Value.int .i64)) : Holds (Value.int .i64) w g 0 zs.toArray := by
  intro j hj
  have hj' : j < zs.length := by simpa using hj
  refine ⟨?_, frozen_row hb⟩
  rw [Nat.zero_add, cell_of_row _ _ j _ _ (0, 0) hb]
  have h1 : (cur.toList.take zs.length)[j]? = (zs.map (Value.int .i64))[j]? := by rw [ht]
  rw [List.getElem?_take_of_lt hj'] at h1
  rw [← Array.getElem?_toList, h1]
  simp [hj']
theorem heapI {w : World} {g n : Nat} {os : Array Obj} {cur : Array Value} {e : TypeId} {fr : Nat × Nat} (d : Array Int) (hb : w.heap[g]? = some (.cells cur e fr)) :
    (grow (putRow (Value.int .i64) (Sort.ahead w n) g 0 d) os).heap[g]? = some (.cells (putCells (Value.int .i64) 0 d cur) e fr) := by
  have hg : g < w.heap.size := (Array.getElem?_eq_some_iff.1 hb).1
  rw [heap_grow_old _ _ (by simpa using hg)]
  simp [putRow, mapBlock, Sort.ahead, Array.getElem?_modify, hb, onCells]
theorem grownI {w : World} {g n : Nat} {os : Array Obj} (d : Array Int) : w.grownBy (grow (putRow (Value.int .i64) (Sort.ahead w n) g 0 d) os) (some g) := by
  refine ⟨rfl, rfl, rfl, by simp, fun k hk hne => ?_⟩
  rw [heap_grow_old _ _ (by simpa using hk)]
  have : g ≠ k := fun e => hne (by rw [e])
  simp [putRow, mapBlock, Sort.ahead, Array.getElem?_modify, this]
theorem takeI (cur : Array Value) (ts : List Int) (h : ts.length ≤ cur.size) : (putCells (Value.int .i64) 0 ts.toArray cur).toList.take ts.length = ts.map (Value.int .i64) := by
  apply List.ext_getElem?
  intro j
  by_cases hj : j < ts.length
  · rw [List.getElem?_take_of_lt hj, Array.getElem?_toList]
    simp [putCells, hj, show j < cur.size by omega]
  · rw [List.getElem?_take_eq_none (by omega), List.getElem?_eq_none (by simp; omega)]
theorem ownI_sorted {w : World} {base g cap n m : Nat} {e : TypeId} {os : Array Obj} {cur : Array Value} {ts : List Int} (hl : ts.length = m) (hbase : base ≤ g) (hb : w.heap[g]? = some (.cells cur e (0, 0)))
    (h1 : m ≤ cap) (h2 : cap ≤ maxLen) (h3 : cur.size = cap * 1) :
    (grow (putRow (Value.int .i64) (Sort.ahead w n) g 0 ts.toArray) os).ownsRow base e 1 (.slice (some ⟨g, 0, none⟩) m cap) m (ts.map (Value.int .i64)) :=
  ⟨by simp [hl], .inr ⟨g, cap, _, rfl, hbase, heapI _ hb, h1, h2, by simp [putCells, h3], by rw [Nat.mul_one, ← hl]; exact takeI cur ts (by omega)⟩⟩

set_option maxHeartbeats 1000000 in
theorem sortI_any (B g c : Nat) (zs : List Int) (w : World) (h : OwnI w B 2 (.slice (some ⟨g, 0, none⟩) zs.length c) zs) (hB : B ≤ w.heap.size) (hn : zs.length ≤ 4194304) :
    Calls Tryz.prog 118 #[.slice (some ⟨g, 0, none⟩) zs.length c] w fun e w' => e = .returned (.tuple #[]) ∧ OwnI w' B 2 (.slice (some ⟨g, 0, none⟩) zs.length c) (zs.mergeSort fun x y => decide (x ≤ y)) ∧ w.grownBy w' (some g) := by
  cases hx : zs with
  | nil =>
    subst hx
    exact (Tryz.slices_Sort_int_none (some ⟨g, 0, none⟩) c w).mono fun e w' ⟨he, hw⟩ => ⟨he, by rw [hw, List.mergeSort_nil]; exact h, by rw [hw]; exact World.grownBy.refl _ _⟩
  | cons x0 r =>
    rw [← hx]
    clear hx
    have hl := h
    obtain ⟨_, hl⟩ := hl
    rcases hl with ⟨q, _⟩ | ⟨g2, c2, cur, q, hb, hg, h1, h2, h3, h4⟩
    · cases q
    injection q with q1 q2 q3
    injection q1 with q1
    injection q1 with q1
    subst q1 q3
    refine (Tryz.slices_Sort_int g 0 c zs w (holdsI hg (by simpa using h4)) (Array.getElem?_eq_some_iff.1 hg).1 (by omega)).mono ?_
    rintro e w' ⟨rfl, n, os, rfl⟩
    refine ⟨rfl, ?_, grownI _⟩
    have := ownI_sorted (w := w) (n := n) (os := os) (m := zs.length) (ts := zs.mergeSort fun x y => decide (x ≤ y)) (by simp) hb hg h1 h2 h3
    unfold OwnI
    rw [List.length_mergeSort]
    exact this

set_option maxHeartbeats 1000000 in
theorem compactI_any (B g n c : Nat) (zs : List Int) (hzn : zs.length = n) (w : World) (h : OwnI w B 2 (.slice (some ⟨g, 0, none⟩) n c) zs) (hn : zs.length ≤ 4194304) :
    Calls Tryz.prog 119 #[.slice (some ⟨g, 0, none⟩) n c] w fun e w' => e = .returned (.slice (some ⟨g, 0, none⟩) (Lib.compact zs).length c) ∧ OwnI w' B 2 (.slice (some ⟨g, 0, none⟩) (Lib.compact zs).length c) (Lib.compact zs) ∧ w.grownBy w' (some g) := by
  subst hzn
  have hl := h
  obtain ⟨_, hl⟩ := hl
  rcases hl with ⟨q, _⟩ | ⟨g2, c2, cur, q, hb, hg, h1, h2, h3, h4⟩
  · cases q
  injection q with q1 q2 q3
  injection q1 with q1
  injection q1 with q1
  subst q1 q3
  have hcl := Lib.compact_length_le zs
  refine (Tryz.slices_Compact_int g 0 c zs w (holdsI hg (by simpa using h4)) (by omega) h1).mono ?_
  rintro e w' ⟨rfl, q, rfl⟩
  have hg0 := grownI (w := w) (g := g) (n := q) (os := #[]) (Lib.compact zs ++ List.replicate (zs.length - (Lib.compact zs).length) 0).toArray
  rw [grow_empty] at hg0
  refine ⟨rfl, ?_, hg0⟩
  have := ownI_sorted (w := w) (n := q) (os := #[]) (m := zs.length) (ts := Lib.compact zs ++ List.replicate (zs.length - (Lib.compact zs).length) 0) (by simp; omega) hb hg h1 h2 h3
  rw [grow_empty] at this
  have h5 := row_cut this (j := (Lib.compact zs).length) hcl
  rw [List.map_append, List.take_left' (by rw [List.length_map])] at h5
  exact h5

theorem grown_on {a b c : World} {row : Option Nat} (h : a.grownBy b row) (k : b.grownBy c row) : a.grownBy c row :=
  ⟨k.os.trans h.os, k.tape.trans h.tape, k.output.trans h.output, Nat.le_trans h.size k.size, fun i hi hne => (k.block i (Nat.lt_of_lt_of_le hi h.size) hne).trans (h.block i hi hne)⟩
/-- What rising leaves: the same row, its numbers in order, each once. -/
def RisI (B : Nat) (w : World) (v : Value) (zs : List Int) (e : Ending) (w' : World) : Prop := ∃ v', e = .returned v' ∧ OwnI w' B 2 v' zs ∧ w.grownBy w' v.ownBlock

set_option maxHeartbeats 1000000 in
theorem risingI_any (B : Nat) (v : Value) (gs : List Nat) (w : World) (hg : ∀ x ∈ gs, x < 4) (h : OwnI w B 2 v (gs.map Int.ofNat)) (hB : B ≤ w.heap.size) (hn : gs.length ≤ 4194304) :
    Calls Tryz.prog 87 #[v] w (RisI B w v (riseG gs)) := by
  have HSP := Lib.hid (sort_rise hg)
  rcases h.2 with ⟨hv, h0⟩ | ⟨g, c, cur, hv, _⟩
  · subst hv
    have hgs : gs = [] := List.eq_nil_of_length_eq_zero (by simpa using h0)
    subst hgs
    go_enter Tryz.func87, Tryz.ntmps87
    go_wp2_with fail
    refine (Tryz.slices_Sort_int_none none 0 w).mono ?_
    rintro e w4 ⟨rfl, rfl⟩
    go_wp2_with fail
    refine (Tryz.slices_Compact_int_empty none 0 w4).mono ?_
    rintro e w5 ⟨rfl, rfl⟩
    go_wp2_with fail
    go_ret
    exact ⟨_, rfl, OwnI.nil _ _ _, World.grownBy.refl _ _⟩
  · subst hv
    generalize hz : gs.map Int.ofNat = zs at h HSP
    have hzl : zs.length ≤ 4194304 := by rw [← hz, List.length_map]; exact hn
    have HS1 := Lib.hid (sortI_any B g c zs w h hB hzl)
    clear hz h
    generalize riseG gs = R at HSP ⊢
    go_enter Tryz.func87, Tryz.ntmps87
    go_wp2_with fail
    refine HS1.out.mono ?_
    rintro e w4 ⟨rfl, o4, b4⟩
    have HS2 := Lib.hid (compactI_any B g zs.length c (zs.mergeSort fun x y => decide (x ≤ y)) (by simp) w4 o4 (by simp; omega))
    rw [HSP.out] at HS2
    go_wp2_with fail
    refine HS2.out.mono ?_
    rintro e w5 ⟨rfl, o5, b5⟩
    go_wp2_with fail
    go_ret
    exact ⟨_, rfl, o5, grown_on b4 b5⟩

end Go.Proofs.YtblnonlcjfcblaaGreatDoor
