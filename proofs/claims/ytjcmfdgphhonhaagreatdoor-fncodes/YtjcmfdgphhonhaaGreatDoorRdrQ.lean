/- Layer 7 (plays): numbers put in order, each once: the program's rising at []int64. No conditions but those typed. Layer 7 (plays): the program's playRead: a list is read to its end; its names and gates in order, each once. Condition: the listed variables hold what the program's text lays (Vars). Layer 7 (plays): PlayOk, AllNames and GatesIn, of the model and of the program. Condition for the program's: the listed variables hold what the program's text lays (Vars). -/
import Derived.Test.YtjcmfdgphhonhaaGreatDoorDeedC
import Derived.Test.YtjcmfdgphhonhaaGreatDoorRdrE
namespace Go.Proofs.YtjcmfdgphhonhaaGreatDoor
open Go.RowKit Go.Sort
set_option linter.unusedVariables false

theorem up_eqI : ∀ {xs ys : List Int}, xs.Pairwise (· < ·) → ys.Pairwise (· < ·) → (∀ s, s ∈ xs ↔ s ∈ ys) → xs = ys
  | [], [], _, _, _ => rfl
  | [], y :: ys, _, _, h => absurd ((h y).2 (by simp)) (by simp)
  | x :: xs, [], _, _, h => absurd ((h x).1 (by simp)) (by simp)
  | x :: xs, y :: ys, hx, hy, h => by
    obtain ⟨x1, x2⟩ := List.pairwise_cons.1 hx
    obtain ⟨y1, y2⟩ := List.pairwise_cons.1 hy
    have e : x = y := by
      rcases List.mem_cons.1 ((h x).1 (by simp)) with q | q
      · exact q
      · rcases List.mem_cons.1 ((h y).2 (by simp)) with p | p
        · exact p.symm
        · have := y1 x q
          have := x1 y p
          omega
    subst e
    congr 1
    refine up_eqI x2 y2 fun s => ⟨fun q => ?_, fun q => ?_⟩
    · rcases List.mem_cons.1 ((h s).1 (List.mem_cons_of_mem _ q)) with rfl | p
      · have := x1 s q
        omega
      · exact p
    · rcases List.mem_cons.1 ((h s).2 (List.mem_cons_of_mem _ q)) with rfl | p
      · have := y1 s q
        omega
      · exact p
theorem comp_upI (d : Array Int) : ∀ m, m ≤ d.size → (∀ i j, i < j → j < m → ¬ d[j]! < d[i]!) → (Lib.compactUpTo d m).Pairwise (· < ·) ∧ ∀ s, s ∈ Lib.compactUpTo d m ↔ ∃ j, j < m ∧ d[j]! = s
  | 0, _, _ => ⟨by simp [Lib.compactUpTo], fun s => by simp [Lib.compactUpTo]⟩
  | m + 1, hm, h => by
    obtain ⟨h1, h2⟩ := comp_upI d m (by omega) (fun i j hi hj => h i j hi (by omega))
    rw [Lib.compactUpTo_succ]
    cases hk : Lib.keeps d m
    · have hk' : ¬ (m = 0 ∨ d[m]! ≠ d[m - 1]!) := by simpa [Lib.keeps] using hk
      have hm0 : m ≠ 0 := fun e => hk' (.inl e)
      have he : d[m]! = d[m - 1]! := Classical.byContradiction fun q => hk' (.inr q)
      rw [if_neg (by simp), List.append_nil]
      refine ⟨h1, fun s => (h2 s).trans ⟨fun ⟨j, a, b⟩ => ⟨j, by omega, b⟩, fun ⟨j, a, b⟩ => ?_⟩⟩
      by_cases q : j = m
      · subst q; exact ⟨j - 1, by omega, by rw [← he]; exact b⟩
      · exact ⟨j, by omega, b⟩
    · have hk' : m = 0 ∨ d[m]! ≠ d[m - 1]! := by simpa [Lib.keeps] using hk
      rw [if_pos rfl]
      refine ⟨List.pairwise_append.2 ⟨h1, by simp, fun a ha b hb => ?_⟩, fun s => ?_⟩
      · have hb' : b = d[m]! := by simpa using hb
        obtain ⟨j, hj, rfl⟩ := (h2 a).1 ha
        subst hb'
        have hm0 : m ≠ 0 := by omega
        have hne : d[m]! ≠ d[m - 1]! := hk'.resolve_left hm0
        have hle := h (m - 1) m (by omega) (by omega)
        by_cases q : j = m - 1
        · rw [q]; omega
        · have := h j (m - 1) (by omega) (by omega)
          omega
      · rw [List.mem_append, h2]
        constructor
        · rintro (⟨j, a, b⟩ | a)
          · exact ⟨j, by omega, b⟩
          · have : s = d[m]! := by simpa using a
            exact ⟨m, by omega, this.symm⟩
        · rintro ⟨j, a, b⟩
          by_cases q : j = m
          · subst q; exact .inr (by simp [b])
          · exact .inl ⟨j, by omega, b⟩
theorem riseG_mem {g : List Nat} {x : Int} : x ∈ riseG g ↔ ∃ k : Nat, k < 4 ∧ k ∈ g ∧ x = (k : Int) := by
  unfold riseG
  simp only [List.mem_map, List.mem_filter, List.mem_range, decide_eq_true_eq]
  constructor
  · rintro ⟨k, ⟨h1, h2⟩, rfl⟩; exact ⟨k, h1, h2, rfl⟩
  · rintro ⟨k, h1, h2, rfl⟩; exact ⟨k, ⟨h1, h2⟩, rfl⟩
theorem riseG_up (g : List Nat) : (riseG g).Pairwise (· < ·) := by
  unfold riseG
  rw [List.pairwise_map]
  refine (List.Pairwise.filter _ List.pairwise_lt_range).imp ?_
  intro a b h
  simpa using h
theorem sort_rise {g : List Nat} (hg : ∀ x ∈ g, x < 4) : Lib.compact ((g.map Int.ofNat).mergeSort fun x y => decide (x ≤ y)) = riseG g := by
  have hs : ((g.map Int.ofNat).mergeSort fun x y => decide (x ≤ y)).Pairwise (fun a b => decide (a ≤ b) = true) := List.pairwise_mergeSort (fun a b c h k => by
      simp only [decide_eq_true_eq] at *
      omega) (fun a b => by
      simp only [Bool.or_eq_true, decide_eq_true_eq]
      omega) _
  have hp := List.mergeSort_perm (g.map Int.ofNat) (fun x y => decide (x ≤ y))
  generalize (g.map Int.ofNat).mergeSort (fun x y => decide (x ≤ y)) = ys at hs hp
  obtain ⟨h1, h2⟩ := comp_upI ys.toArray ys.length (by simp) (fun i j hi hj => by
    have := List.pairwise_iff_getElem.1 hs i j (by omega) hj hi
    simp only [decide_eq_true_eq] at this
    have e1 : ys.toArray[j]! = ys[j] := by simp [hj]
    have e2 : ys.toArray[i]! = ys[i] := by simp [show i < ys.length by omega]
    rw [e1, e2]
    omega)
  refine up_eqI h1 (riseG_up g) fun s => ?_
  unfold Lib.compact
  rw [h2, riseG_mem]
  constructor
  · rintro ⟨j, hj, e⟩
    have e1 : ys.toArray[j]! = ys[j] := by simp [hj]
    rw [e1] at e
    have := hp.mem_iff.1 (show s ∈ ys by rw [← e]; exact List.getElem_mem hj)
    obtain ⟨k, hk, rfl⟩ := List.mem_map.1 this
    exact ⟨k, hg k hk, hk, rfl⟩
  · rintro ⟨k, h1, h2, rfl⟩
    obtain ⟨j, hj, e⟩ := List.getElem_of_mem (hp.mem_iff.2 (List.mem_map.2 ⟨k, h2, rfl⟩))
    exact ⟨j, hj, by simp [hj, e]⟩

theorem holdsI {w : World} {g : Nat} {cur : Array Value} {e : TypeId} {zs : List Int} (hb : w.heap[g]? = some (.cells cur e (0, 0))) (ht : cur.toList.take zs.length = zs.map (Value.int .i64)) : Holds (Value.int .i64) w g 0 zs.toArray := by
  intro j hj
  have hj' : j < zs.length := by simpa using hj
  refine ⟨?_, frozen_row hb⟩
  rw [Nat.zero_add, cell_of_row _ _ j _ _ (0, 0) hb]
  have h1 : (cur.toList.take zs.length)[j]? = (zs.map (Value.int .i64))[j]? := by rw [ht]
  rw [List.getElem?_take_of_lt hj'] at h1
  rw [← Array.getElem?_toList, h1]
  simp [hj']
theorem heapI {w : World} {g n : Nat} {os : Array Obj} {cur : Array Value} {e : TypeId} {fr : Nat × Nat} (d : Array Int) (hb : w.heap[g]? = some (.cells cur e fr)) :
    (grow (putRow (Value.int .i64) (Sort.ahead w n) g 0 d) os).heap[g]? = some (.cells (putCells (Value.int .i64) 0 d cur) e fr) := by
  have hg : g < w.heap.size := (Array.getElem?_eq_some_iff.1 hb).1
  rw [heap_grow_old _ _ (by simpa using hg)]
  simp [putRow, mapBlock, Sort.ahead, Array.getElem?_modify, hb, onCells]
theorem grownI {w : World} {g n : Nat} {os : Array Obj} (d : Array Int) : w.grownBy (grow (putRow (Value.int .i64) (Sort.ahead w n) g 0 d) os) (some g) := by
  refine ⟨rfl, rfl, rfl, by simp, fun k hk hne => ?_⟩
  rw [heap_grow_old _ _ (by simpa using hk)]
  have : g ≠ k := fun e => hne (by rw [e])
  simp [putRow, mapBlock, Sort.ahead, Array.getElem?_modify, this]
theorem takeI (cur : Array Value) (ts : List Int) (h : ts.length ≤ cur.size) : (putCells (Value.int .i64) 0 ts.toArray cur).toList.take ts.length = ts.map (Value.int .i64) := by
  apply List.ext_getElem?
  intro j
  by_cases hj : j < ts.length
  · rw [List.getElem?_take_of_lt hj, Array.getElem?_toList]
    simp [putCells, hj, show j < cur.size by omega]
  · rw [List.getElem?_take_eq_none (by omega), List.getElem?_eq_none (by simp; omega)]
theorem ownI_sorted {w : World} {base g cap n m : Nat} {e : TypeId} {os : Array Obj} {cur : Array Value} {ts : List Int} (hl : ts.length = m) (hbase : base ≤ g) (hb : w.heap[g]? = some (.cells cur e (0, 0)))
    (h1 : m ≤ cap) (h2 : cap ≤ maxLen) (h3 : cur.size = cap * 1) :
    (grow (putRow (Value.int .i64) (Sort.ahead w n) g 0 ts.toArray) os).ownsRow base e 1 (.slice (some ⟨g, 0, none⟩) m cap) m (ts.map (Value.int .i64)) :=
  ⟨by simp [hl], .inr ⟨g, cap, _, rfl, hbase, heapI _ hb, h1, h2, by simp [putCells, h3], by rw [Nat.mul_one, ← hl]; exact takeI cur ts (by omega)⟩⟩

set_option maxHeartbeats 1000000 in
theorem sortI_any (B g c : Nat) (zs : List Int) (w : World) (h : OwnI w B 2 (.slice (some ⟨g, 0, none⟩) zs.length c) zs) (hB : B ≤ w.heap.size) (hn : zs.length ≤ 4194304) :
    Calls Tryz.prog 210 #[.slice (some ⟨g, 0, none⟩) zs.length c] w fun e w' => e = .returned (.tuple #[]) ∧ OwnI w' B 2 (.slice (some ⟨g, 0, none⟩) zs.length c) (zs.mergeSort fun x y => decide (x ≤ y)) ∧ w.grownBy w' (some g) := by
  cases hx : zs with
  | nil =>
    subst hx
    exact (Tryz.slices_Sort_int_none (some ⟨g, 0, none⟩) c w).mono fun e w' ⟨he, hw⟩ => ⟨he, by rw [hw, List.mergeSort_nil]; exact h, by rw [hw]; exact World.grownBy.refl _ _⟩
  | cons x0 r =>
    rw [← hx]
    clear hx
    have hl := h
    obtain ⟨_, hl⟩ := hl
    rcases hl with ⟨q, _⟩ | ⟨g2, c2, cur, q, hb, hg, h1, h2, h3, h4⟩
    · cases q
    injection q with q1 q2 q3
    injection q1 with q1
    injection q1 with q1
    subst q1 q3
    refine (Tryz.slices_Sort_int g 0 c zs w (holdsI hg (by simpa using h4)) (Array.getElem?_eq_some_iff.1 hg).1 (by omega)).mono ?_
    rintro e w' ⟨rfl, n, os, rfl⟩
    refine ⟨rfl, ?_, grownI _⟩
    have := ownI_sorted (w := w) (n := n) (os := os) (m := zs.length) (ts := zs.mergeSort fun x y => decide (x ≤ y)) (by simp) hb hg h1 h2 h3
    unfold OwnI
    rw [List.length_mergeSort]
    exact this

set_option maxHeartbeats 1000000 in
theorem compactI_any (B g n c : Nat) (zs : List Int) (hzn : zs.length = n) (w : World) (h : OwnI w B 2 (.slice (some ⟨g, 0, none⟩) n c) zs) (hn : zs.length ≤ 4194304) :
    Calls Tryz.prog 211 #[.slice (some ⟨g, 0, none⟩) n c] w fun e w' => e = .returned (.slice (some ⟨g, 0, none⟩) (Lib.compact zs).length c) ∧ OwnI w' B 2 (.slice (some ⟨g, 0, none⟩) (Lib.compact zs).length c) (Lib.compact zs) ∧ w.grownBy w' (some g) := by
  subst hzn
  have hl := h
  obtain ⟨_, hl⟩ := hl
  rcases hl with ⟨q, _⟩ | ⟨g2, c2, cur, q, hb, hg, h1, h2, h3, h4⟩
  · cases q
  injection q with q1 q2 q3
  injection q1 with q1
  injection q1 with q1
  subst q1 q3
  have hcl := Lib.compact_length_le zs
  refine (Tryz.slices_Compact_int g 0 c zs w (holdsI hg (by simpa using h4)) (by omega) h1).mono ?_
  rintro e w' ⟨rfl, q, rfl⟩
  have hg0 := grownI (w := w) (g := g) (n := q) (os := #[]) (Lib.compact zs ++ List.replicate (zs.length - (Lib.compact zs).length) 0).toArray
  rw [grow_empty] at hg0
  refine ⟨rfl, ?_, hg0⟩
  have := ownI_sorted (w := w) (n := q) (os := #[]) (m := zs.length) (ts := Lib.compact zs ++ List.replicate (zs.length - (Lib.compact zs).length) 0) (by simp; omega) hb hg h1 h2 h3
  rw [grow_empty] at this
  have h5 := row_cut this (j := (Lib.compact zs).length) hcl
  rw [List.map_append, List.take_left' (by rw [List.length_map])] at h5
  exact h5

theorem grown_on {a b c : World} {row : Option Nat} (h : a.grownBy b row) (k : b.grownBy c row) : a.grownBy c row :=
  ⟨k.os.trans h.os, k.tape.trans h.tape, k.output.trans h.output, Nat.le_trans h.size k.size, fun i hi hne => (k.block i (Nat.lt_of_lt_of_le hi h.size) hne).trans (h.block i hi hne)⟩
/-- What rising leaves: the same row, its numbers in order, each once. -/
def RisI (B : Nat) (w : World) (v : Value) (zs : List Int) (e : Ending) (w' : World) : Prop := ∃ v', e = .returned v' ∧ OwnI w' B 2 v' zs ∧ w.grownBy w' v.ownBlock

set_option maxHeartbeats 1000000 in
theorem risingI_any (B : Nat) (v : Value) (gs : List Nat) (w : World) (hg : ∀ x ∈ gs, x < 4) (h : OwnI w B 2 v (gs.map Int.ofNat)) (hB : B ≤ w.heap.size) (hn : gs.length ≤ 4194304) :
    Calls Tryz.prog 170 #[v] w (RisI B w v (riseG gs)) := by
  have HSP := Lib.hid (sort_rise hg)
  rcases h.2 with ⟨hv, h0⟩ | ⟨g, c, cur, hv, _⟩
  · subst hv
    have hgs : gs = [] := List.eq_nil_of_length_eq_zero (by simpa using h0)
    subst hgs
    go_enter Tryz.func170, Tryz.ntmps170
    go_wp2_with fail
    refine (Tryz.slices_Sort_int_none none 0 w).mono ?_
    rintro e w4 ⟨rfl, rfl⟩
    go_wp2_with fail
    refine (Tryz.slices_Compact_int_empty none 0 w4).mono ?_
    rintro e w5 ⟨rfl, rfl⟩
    go_wp2_with fail
    go_ret
    exact ⟨_, rfl, OwnI.nil _ _ _, World.grownBy.refl _ _⟩
  · subst hv
    generalize hz : gs.map Int.ofNat = zs at h HSP
    have hzl : zs.length ≤ 4194304 := by rw [← hz, List.length_map]; exact hn
    have HS1 := Lib.hid (sortI_any B g c zs w h hB hzl)
    clear hz h
    generalize riseG gs = R at HSP ⊢
    go_enter Tryz.func170, Tryz.ntmps170
    go_wp2_with fail
    refine HS1.out.mono ?_
    rintro e w4 ⟨rfl, o4, b4⟩
    have HS2 := Lib.hid (compactI_any B g zs.length c (zs.mergeSort fun x y => decide (x ≤ y)) (by simp) w4 o4 (by simp; omega))
    rw [HSP.out] at HS2
    go_wp2_with fail
    refine HS2.out.mono ?_
    rintro e w5 ⟨rfl, o5, b5⟩
    go_wp2_with fail
    go_ret
    exact ⟨_, rfl, o5, grown_on b4 b5⟩

end Go.Proofs.YtjcmfdgphhonhaaGreatDoor

namespace Go.Proofs.YtjcmfdgphhonhaaGreatDoor
open Go.RowKit Go.Sort
set_option linter.unusedVariables false

def RisS (B : Nat) (w : World) (v : Value) (xs : List Txt) (e : Ending) (w' : World) : Prop := ∃ v', e = .returned v' ∧ OwnV w' B 9 v' (xs.map str) ∧ w.grownBy w' v.ownBlock

set_option maxHeartbeats 1000000 in
theorem sortS_any (B g c : Nat) (xs : List Txt) (w : World) (h : OwnV w B 9 (.slice (some ⟨g, 0, none⟩) xs.length c) (xs.map str)) (hn : xs.length ≤ 4194304) :
    Calls Tryz.prog 208 #[.slice (some ⟨g, 0, none⟩) xs.length c] w fun e w' => e = .returned (.tuple #[]) ∧ OwnV w' B 9 (.slice (some ⟨g, 0, none⟩) xs.length c) ((xs.mergeSort fun x y => decide (x ≤ y)).map str) ∧ w.grownBy w' (some g) := by
  cases hx : xs with
  | nil =>
    subst hx
    exact (Tryz.slices_Sort_string_none (some ⟨g, 0, none⟩) c w).mono fun e w' ⟨he, hw⟩ => ⟨he, by rw [hw, List.mergeSort_nil]; exact h, by rw [hw]; exact World.grownBy.refl _ _⟩
  | cons x0 r =>
    rw [← hx]
    clear hx
    have hl := h
    obtain ⟨_, hl⟩ := hl
    rcases hl with ⟨q, _⟩ | ⟨g2, c2, cur, q, hb, hg, h1, h2, h3, h4⟩
    · cases q
    injection q with q1 q2 q3
    injection q1 with q1
    injection q1 with q1
    subst q1 q3
    rw [List.length_map] at h1 h4
    refine (Tryz.slices_Sort_string g 0 c xs w (holds_of_block hg (by simpa using h4)) (Array.getElem?_eq_some_iff.1 hg).1 (by omega)).mono ?_
    rintro e w' ⟨rfl, n, os, rfl⟩
    refine ⟨rfl, ?_, grownBy_sorted _⟩
    have := ownsRow_sorted (w := w) (n := n) (os := os) (ss := xs) (ts := xs.mergeSort fun x y => decide (x ≤ y)) (by simp) hb hg h1 h2 h3
    unfold OwnV
    rw [List.length_map, List.length_mergeSort]
    exact this

set_option maxHeartbeats 1000000 in
theorem compactS_any (B g n c : Nat) (xs : List Txt) (hxn : xs.length = n) (w : World) (h : OwnV w B 9 (.slice (some ⟨g, 0, none⟩) n c) (xs.map str)) (hn : xs.length ≤ 4194304) :
    Calls Tryz.prog 209 #[.slice (some ⟨g, 0, none⟩) n c] w fun e w' => e = .returned (.slice (some ⟨g, 0, none⟩) (Lib.compact xs).length c) ∧ OwnV w' B 9 (.slice (some ⟨g, 0, none⟩) (Lib.compact xs).length c) ((Lib.compact xs).map str) ∧ w.grownBy w' (some g) := by
  subst hxn
  have hl := h
  obtain ⟨_, hl⟩ := hl
  rcases hl with ⟨q, _⟩ | ⟨g2, c2, cur, q, hb, hg, h1, h2, h3, h4⟩
  · cases q
  injection q with q1 q2 q3
  injection q1 with q1
  injection q1 with q1
  subst q1 q3
  rw [List.length_map] at h1 h4
  have hcl := Lib.compact_length_le xs
  refine (Tryz.slices_Compact_string g 0 c xs w (holds_of_block hg (by simpa using h4)) (by omega) h1).mono ?_
  rintro e w' ⟨rfl, q, rfl⟩
  have hg0 := grownBy_sorted (w := w) (g := g) (n := q) (os := #[]) (Lib.compact xs ++ List.replicate (xs.length - (Lib.compact xs).length) []).toArray
  rw [grow_empty] at hg0
  refine ⟨rfl, ?_, hg0⟩
  have := ownsRow_sorted (w := w) (n := q) (os := #[]) (ss := xs) (ts := Lib.compact xs ++ List.replicate (xs.length - (Lib.compact xs).length) []) (by simp; omega) hb hg h1 h2 h3
  rw [grow_empty] at this
  have h5 := row_cut this (j := (Lib.compact xs).length) hcl
  rw [List.map_append, List.take_left' (by rw [List.length_map])] at h5
  unfold OwnV
  rw [List.length_map]
  exact h5

set_option maxHeartbeats 1000000 in
theorem risingS_any (B : Nat) (v : Value) (xs : List Txt) (w : World) (h : OwnV w B 9 v (xs.map str)) (hn : xs.length ≤ 4194304) :
    Calls Tryz.prog 169 #[v] w (RisS B w v (putAll xs)) := by
  have HSP := Lib.hid (sort_put xs)
  rcases h.2 with ⟨hv, h0⟩ | ⟨g, c, cur, hv, _⟩
  · subst hv
    have hgs : xs = [] := List.eq_nil_of_length_eq_zero (by simpa using h0)
    subst hgs
    exact (rising_none w).mono fun e w' ⟨he, hw⟩ => ⟨_, he, by rw [hw]; exact OwnV.nil _ _ _, by rw [hw]; exact World.grownBy.refl _ _⟩
  · rw [List.length_map] at hv
    subst hv
    have HS1 := Lib.hid (sortS_any B g c xs w h hn)
    clear h
    generalize putAll xs = R at HSP ⊢
    go_enter Tryz.func169, Tryz.ntmps169
    go_wp2_with fail
    refine HS1.out.mono ?_
    rintro e w4 ⟨rfl, o4, b4⟩
    have HS2 := Lib.hid (compactS_any B g xs.length c (xs.mergeSort fun x y => decide (x ≤ y)) (by simp) w4 o4 (by simp; omega))
    rw [HSP.out] at HS2
    go_wp2_with fail
    refine HS2.out.mono ?_
    rintro e w5 ⟨rfl, o5, b5⟩
    go_wp2_with fail
    go_ret
    exact ⟨_, rfl, o5, grown_on b4 b5⟩

abbrev rd0 : Array Value := #[.slice none 0 0, .int .i64 0, .slice none 0 0, .slice none 0 0, .slice none 0 0, .int .i64 0]
/-- What playRead hands back. -/
def PlayOut (w : World) (ss : List Txt) (e : Ending) (w' : World) : Prop :=
  Below w.heap.size w w' ∧ ∃ (As : Option Addr) (ns cs : Nat) (a : Int) (vn vg : Value) (Ao : Option Addr) (no co : Nat) (d : Int), e = .returned (.tuple #[.agg #[.slice As ns cs, .int .i64 a, vn, vg, .slice Ao no co, .int .i64 d], .bool (playB ss)]) ∧ OwnV w' w.heap.size 9 vn ((namesP ss).map str) ∧ OwnI w' w.heap.size 2 vg (gatesP ss)

/-- Six cells of a block, stored one by one. -/
def set6 (W : World) (N : Nat) (x0 x1 x2 x3 x4 x5 : Value) : World := (((((W.setCell ⟨N, 0, none⟩ x0).setCell ⟨N, 1, none⟩ x1).setCell ⟨N, 2, none⟩ x2).setCell ⟨N, 3, none⟩ x3).setCell ⟨N, 4, none⟩ x4).setCell ⟨N, 5, none⟩ x5
theorem set6_blk {W : World} {N : Nat} {t : TypeId} {y0 y1 y2 y3 y4 y5 : Value} (h : W.heap[N]? = some (.cells #[y0, y1, y2, y3, y4, y5] t (0, 0))) (x0 x1 x2 x3 x4 x5 : Value) : (set6 W N x0 x1 x2 x3 x4 x5).heap[N]? = some (.cells #[x0, x1, x2, x3, x4, x5] t (0, 0)) := by
  unfold set6
  rw [heap_set (heap_set (heap_set (heap_set (heap_set (heap_set h x0) x1) x2) x3) x4) x5]
  simp
theorem set6_below {w W : World} {N : Nat} (h : Below N w W) (x0 x1 x2 x3 x4 x5 : Value) : Below N w (set6 W N x0 x1 x2 x3 x4 x5) :=
  (((((h.setCell (Nat.le_refl _) _).setCell (Nat.le_refl _) _).setCell (Nat.le_refl _) _).setCell (Nat.le_refl _) _).setCell (Nat.le_refl _) _).setCell (Nat.le_refl _) _
theorem set6_own {W : World} {N B : Nat} {e : TypeId} {v : Value} {n : Nat} {xs : List Value} (h : W.ownsRow B e 1 v n xs) (hN : N < B) (x0 x1 x2 x3 x4 x5 : Value) : (set6 W N x0 x1 x2 x3 x4 x5).ownsRow B e 1 v n xs :=
  ownsRow_setCell_below (ownsRow_setCell_below (ownsRow_setCell_below (ownsRow_setCell_below (ownsRow_setCell_below (ownsRow_setCell_below h hN _) hN _) hN _) hN _) hN _) hN _
theorem rd_cells {W : World} {N : Nat} {t : TypeId} {x0 x1 x2 x3 x4 x5 : Value} (h : W.heap[N]? = some (.cells #[x0, x1, x2, x3, x4, x5] t (0, 0))) : W.cell? ⟨N, 0, none⟩ = some x0 ∧ W.cell? ⟨N, 1, none⟩ = some x1 ∧ W.cell? ⟨N, 2, none⟩ = some x2 ∧ W.cell? ⟨N, 3, none⟩ = some x3 ∧ W.cell? ⟨N, 4, none⟩ = some x4 ∧ W.cell? ⟨N, 5, none⟩ = some x5 :=
  ⟨by rw [cell_of_row _ _ 0 _ _ (0, 0) h]; rfl, by rw [cell_of_row _ _ 1 _ _ (0, 0) h]; rfl, by rw [cell_of_row _ _ 2 _ _ (0, 0) h]; rfl, by rw [cell_of_row _ _ 3 _ _ (0, 0) h]; rfl, by rw [cell_of_row _ _ 4 _ _ (0, 0) h]; rfl, by rw [cell_of_row _ _ 5 _ _ (0, 0) h]; rfl⟩
theorem less_own {w : World} {B B' n : Nat} {e : TypeId} {v : Value} {xs : List Value} (h : w.ownsRow B e 1 v n xs) (hB : B' ≤ B) : w.ownsRow B' e 1 v n xs := by
  obtain ⟨hl, h⟩ := h
  rcases h with h | ⟨g, cap, cur, h1, h2, h3⟩
  · exact ⟨hl, .inl h⟩
  · exact ⟨hl, .inr ⟨g, cap, cur, h1, Nat.le_trans hB h2, h3⟩⟩
/-- At the head of playRead's loop. -/
structure PR (B N : Nat) (sv : Value) (ss : List Txt) (w : World) (k D : Nat) (a : List Txt) (gg : List Nat) (W : World) : Prop where
  zed : W.heap[N]? = some (.cells rd0 81 (0, 0))
  old : Below N w W
  deeds : Deeds ss 0 k D
  lin : Lin ss 0 k a gg
  hk : k ≤ ss.length
  rd : ∃ vn vg vo, Rd B (N + 1) sv ss W (k : Int) vn vg vo a (gg.map Int.ofNat) [] D
theorem PR.later {B N : Nat} {sv : Value} {ss : List Txt} {w : World} {k D : Nat} {a : List Txt} {gg : List Nat} {W W' : World} (h : PR B N sv ss w k D a gg W) (b : Below W.heap.size W W') (hN : N ≤ w.heap.size) : PR B N sv ss w k D a gg W' := by
  obtain ⟨vn, vg, vo, hr⟩ := h.rd
  have := hr.lt
  exact ⟨(b.block N (by omega)).trans h.zed, h.old.trans (b.mono (by omega)), h.deeds, h.lin, h.hk, vn, vg, vo, hr.later b⟩
/-- Behind the names and the gates have been put in order. -/
def Fin (N : Nat) (sv : Value) (ss : List Txt) (w : World) (k : Int) (D : Nat) (a : List Txt) (gg : List Nat) (W : World) : Prop :=
  Below N w W ∧ W.heap[N]? = some (.cells rd0 81 (0, 0)) ∧ ∃ vn vg Ao no co, W.heap[N + 1]? = some (.cells #[sv, .int .i64 k, vn, vg, .slice Ao no co, .int .i64 (D : Int)] 81 (0, 0)) ∧ OwnV W (N + 1 + 1) 9 vn ((putAll a).map str) ∧ OwnI W (N + 1 + 1) 2 vg (riseG gg)
theorem fin_mk {N : Nat} {sv : Value} {ss : List Txt} {w : World} {k : Int} {D : Nat} {a : List Txt} {gg : List Nat} {W : World} {vS vI vn vg : Value} {Ao : Option Addr} {no co : Nat} (bB : Below N w W) (hz : W.heap[N]? = some (.cells rd0 81 (0, 0)))
    (hb : W.heap[N + 1]? = some (.cells #[sv, .int .i64 k, vn, vg, .slice Ao no co, .int .i64 (D : Int)] 81 (0, 0))) (oS : OwnV W (N + 1 + 1) 9 vS ((putAll a).map str)) (oI : OwnI W (N + 1 + 1) 2 vI (riseG gg)) :
    Fin N sv ss w k D a gg ((W.setCell ⟨N + 1, 2, none⟩ vS).setCell ⟨N + 1, 3, none⟩ vI) := by
  refine ⟨(bB.setCell (by simp) _).setCell (by simp) _, ?_, vS, vI, Ao, no, co, ?_, (oS.far (by simp) _).far (by simp) _, ownsRow_setCell_below (ownsRow_setCell_below oI (by simp) _) (by simp) _⟩
  · rw [Below.heap_setCell _ _ _ _ (by simp), Below.heap_setCell _ _ _ _ (by simp)]; exact hz
  · rw [heap_set (heap_set hb vS) vI]; simp
/-- The reader's block and the result's, in the midst of putting in order. -/
structure Half (N : Nat) (sv : Value) (w : World) (k : Int) (D : Nat) (vn vg vo : Value) (W : World) : Prop where
  old : Below N w W
  zed : W.heap[N]? = some (.cells rd0 81 (0, 0))
  blk : W.heap[N + 1]? = some (.cells #[sv, .int .i64 k, vn, vg, vo, .int .i64 (D : Int)] 81 (0, 0))
theorem Half.lt {N : Nat} {sv : Value} {w : World} {k : Int} {D : Nat} {vn vg vo : Value} {W : World} (h : Half N sv w k D vn vg vo W) : N + 1 < W.heap.size := (Array.getElem?_eq_some_iff.1 h.blk).1
theorem Half.c2 {N : Nat} {sv : Value} {w : World} {k : Int} {D : Nat} {vn vg vo : Value} {W : World} (h : Half N sv w k D vn vg vo W) : W.cell? ⟨N + 1, 2, none⟩ = some vn := (rd_cells h.blk).2.2.1
theorem Half.c3 {N : Nat} {sv : Value} {w : World} {k : Int} {D : Nat} {vn vg vo : Value} {W : World} (h : Half N sv w k D vn vg vo W) : W.cell? ⟨N + 1, 3, none⟩ = some vg := (rd_cells h.blk).2.2.2.1
theorem Half.fz {N : Nat} {sv : Value} {w : World} {k : Int} {D : Nat} {vn vg vo : Value} {W : World} (h : Half N sv w k D vn vg vo W) (j : Nat) : W.frozen? ⟨N + 1, j, none⟩ = false := frozen_row h.blk
theorem Half.grown {N : Nat} {sv : Value} {w : World} {k : Int} {D : Nat} {vn vg vo : Value} {W W' : World} {row : Option Nat} (h : Half N sv w k D vn vg vo W) (hg : W.grownBy W' row) (hlow : ∀ j, row = some j → N + 1 + 1 ≤ j) : Half N sv w k D vn vg vo W' := by
  have hl := h.lt
  exact ⟨h.old.grown hg (by omega) (fun j hj => by have := hlow j hj; omega), (hg.block N (by omega) (fun q => by have := hlow N q.symm; omega)).trans h.zed, (hg.block (N + 1) hl (fun q => by have := hlow (N + 1) q.symm; omega)).trans h.blk⟩
def SPost (N : Nat) (sv : Value) (w : World) (k : Int) (D : Nat) (vn vg vo vx : Value) (xs : List Txt) (zs : List Int) (e : Ending) (W : World) : Prop :=
  ∃ A n c, e = .returned (.slice A n c) ∧ Half N sv w k D vn vg vo W ∧ OwnV W (N + 1 + 1) 9 (.slice A n c) (xs.map str) ∧ OwnI W (N + 1 + 1) 2 vx zs
def IPost (N : Nat) (sv : Value) (w : World) (k : Int) (D : Nat) (vn vg vo vx : Value) (xs : List Txt) (zs : List Int) (e : Ending) (W : World) : Prop :=
  ∃ A n c, e = .returned (.slice A n c) ∧ Half N sv w k D vn vg vo W ∧ OwnI W (N + 1 + 1) 2 (.slice A n c) zs ∧ OwnV W (N + 1 + 1) 9 vx (xs.map str)
theorem halfS (N : Nat) (sv : Value) (w : World) (k : Int) (D : Nat) (vn vg vo vx : Value) (a : List Txt) (zs : List Int) (W : World) (h : Half N sv w k D vn vg vo W) (hs : OwnV W (N + 1 + 1) 9 vn (a.map str)) (hi : OwnI W (N + 1 + 1) 2 vx zs) (hn : a.length ≤ 4194304) :
    Calls Tryz.prog 169 #[vn] W (SPost N sv w k D vn vg vo vx (putAll a) zs) := by
  refine (risingS_any (N + 1 + 1) vn a W hs hn).mono ?_
  rintro e W' ⟨v', rfl, o, g⟩
  obtain ⟨A, c, e⟩ := row_shape o
  subst e
  exact ⟨A, _, c, rfl, h.grown g (fun j hj => (hs.lt j hj).1), o, World.ownsRow.kept hi g (rows_apart hi hs (by decide))⟩
theorem halfI (N : Nat) (sv : Value) (w : World) (k : Int) (D : Nat) (vn vg vo vx : Value) (a : List Txt) (gg : List Nat) (W : World) (h : Half N sv w k D vn vg vo W) (h4 : ∀ x ∈ gg, x < 4) (hi : OwnI W (N + 1 + 1) 2 vg (gg.map Int.ofNat)) (hs : OwnV W (N + 1 + 1) 9 vx (a.map str)) (hn : gg.length ≤ 4194304) :
    Calls Tryz.prog 170 #[vg] W (IPost N sv w k D vn vg vo vx a (riseG gg)) := by
  refine (risingI_any (N + 1 + 1) vg gg W h4 hi h.lt hn).mono ?_
  rintro e W' ⟨v', rfl, o, g⟩
  obtain ⟨A, c, e⟩ := row_shape o
  subst e
  exact ⟨A, _, c, rfl, h.grown g (fun j hj => (hi.lt j hj).1), o, World.ownsRow.kept hs g (rows_apart hs hi (by decide))⟩
theorem no_play {ss : List Txt} {k D : Nat} (h : Deeds ss 0 k D) (hk : ¬ k = ss.length) (hn : ∀ e E, ¬ One ss k e E) : playB ss = false :=
  play_no fun D2 h2 => h.stuck h2 (end_head ss) hk (fun e E q => absurd q (hn e E))
theorem deep_play {ss : List Txt} {D : Nat} (h : Deeds ss 0 ss.length D) (hd : 5 < D) : playB ss = false :=
  play_no fun D2 h2 => by
    obtain ⟨_, e⟩ := h.det (end_head ss) _ _ h2 (end_head ss)
    omega

set_option maxRecDepth 100000 in
set_option maxHeartbeats 4000000 in
theorem playRead_any (B : Nat) (v : Value) (ss : List Txt) (w : World) (V : Vars w) (h : SeeV w B v (ss.map str)) (hB : B ≤ w.heap.size) (hS : shortS ss) (hn : ss.length ≤ 1048576) :
    Calls Tryz.prog 112 #[v] w (PlayOut w ss) := by
  obtain ⟨A, c, e⟩ := strs_shape h
  subst e
  have HV : Hid (∀ w', Below w.heap.size w w' → Vars w') := Lib.hid (fun w' b => V.below b)
  clear V
  by_cases hl : 100 < ss.length
  · have HP := Lib.hid (play_long hl)
    go_enter Tryz.func112, Tryz.ntmps112
    go_wp2_with fail
    refine bodyPost_ret (v := .tuple #[.agg rd0, .bool false]) (by simp [results, Tryz.results112, go_sem]) rfl ⟨((Below.refl _ w).alloc (Nat.le_refl _) _).alloc (by simp) _, ?_⟩
    rw [HP.out, names_no7 HP.out, gates_no7 HP.out]
    exact ⟨_, _, _, _, _, _, _, _, _, _, rfl, OwnV.nil _ _ _, OwnI.nil _ _ _⟩
  · have P0 : PR B w.heap.size (.slice A ss.length c) ss w 0 0 [] [] ((w.alloc (.cells rd0 81)).alloc (.cells #[.slice A ss.length c, .int .i64 0, .slice none 0 0, .slice none 0 0, .slice none 0 0, .int .i64 0] 81)) := by
      have b1 : Below w.heap.size w ((w.alloc (.cells rd0 81)).alloc (.cells #[.slice A ss.length c, .int .i64 0, .slice none 0 0, .slice none 0 0, .slice none 0 0, .int .i64 0] 81)) := ((Below.refl _ w).alloc (Nat.le_refl _) _).alloc (by simp) _
      refine ⟨?_, b1, .nil 0, .nil 0, Nat.zero_le _, _, _, _, ?_, by omega, h.below (b1.mono hB), OwnV.nil _ _ _, OwnI.nil _ _ _, OwnV.nil _ _ _⟩
      · rw [Below.heap_alloc _ _ _ (by simp)]
        exact heap_alloc_new _ _
      · have q := heap_alloc_new (w.alloc (.cells rd0 81)) (.cells #[.slice A ss.length c, .int .i64 0, .slice none 0 0, .slice none 0 0, .slice none 0 0, .int .i64 0] 81)
        rw [World.size_alloc] at q
        exact q
    go_enter Tryz.func112, Tryz.ntmps112
    go_wp2_with fail
    generalize World.alloc _ _ = W0 at P0 ⊢
    clear h
    go_loopw [11] (fun _ wr => ∃ k D a gg, PR B w.heap.size (.slice A ss.length c) ss w k D a gg wr) (fun _ wr => ss.length - atOf (w.heap.size + 1) wr)
    case atStart => exact ⟨_, _, _, _, P0⟩
    case round =>
      clear P0
      obtain ⟨k, D, a, gg, hP⟩ := hrel
      obtain ⟨vn, vg, vo, hR⟩ := hP.rd
      have hk := hP.hk
      have hal := lin_alen hP.lin
      have hgl := lin_glen hP.lin
      by_cases hlt : k < ss.length
      · have HD : Hid (decide (ss.length ≤ k) = false) := Lib.hid (by simp; omega)
        have HAE := Lib.hid (atEnd_any B _ _ ss wr k vn vg vo _ _ _ _ hR hn)
        have m0 : Hid (atOf (w.heap.size + 1) wr = k) := Lib.hid (atOf_eq hR.c1)
        rw [HD.out] at HAE
        have HP := Lib.hid hP
        clear hP hR
        go_wp2_with fail
        refine HAE.out.mono ?_
        rintro e w1 ⟨rfl, b1⟩
        have P1 := HP.out.later b1 (Nat.le_refl _)
        obtain ⟨vn1, vg1, vo1, R1⟩ := P1.rd
        have HT := Lib.hid (takesDeed_any B _ _ ss w1 k vn1 vg1 vo1 a (gg.map Int.ofNat) D (fun w' b => HV.out w' (P1.old.trans (b.mono (by omega)))) R1 hn hS hk (by omega) (by rw [List.length_map]; omega))
        have HP1 := Lib.hid P1
        have lt1 := R1.lt
        clear P1 R1 HP HAE
        go_wp2_with fail
        refine HT.out.mono ?_
        rintro e w2 (⟨rfl, b2, hno⟩ | ⟨rfl, b2, k2, D2, a2, g2, vn2, vg2, vo2, hO, hL2, R2⟩)
        · have HPN := Lib.hid (no_play HP1.out.deeds (by omega) hno)
          have zb := (b2.block w.heap.size (by omega)).trans HP1.out.zed
          have B2 := Lib.hid (HP1.out.old.trans (b2.mono (show w.heap.size ≤ w.heap.size + 1 by omega)))
          clear hno b2
          obtain ⟨z0, z1, z2, z3, z4, z5⟩ := rd_cells zb
          have f0 := frozen_row (k := 0) zb
          have f1 := frozen_row (k := 1) zb
          have f2 := frozen_row (k := 2) zb
          have f3 := frozen_row (k := 3) zb
          have f4 := frozen_row (k := 4) zb
          have f5 := frozen_row (k := 5) zb
          have ZB := Lib.hid (set6_blk zb (.slice none 0 0) (.int .i64 0) (.slice none 0 0) (.slice none 0 0) (.slice none 0 0) (.int .i64 0))
          have BB := Lib.hid (set6_below B2.out (.slice none 0 0) (.int .i64 0) (.slice none 0 0) (.slice none 0 0) (.slice none 0 0) (.int .i64 0))
          unfold set6 at ZB BB
          clear zb
          go_wp2_with fail
          generalize World.setCell _ _ _ = W6 at ZB BB ⊢
          obtain ⟨y0, y1, y2, y3, y4, y5⟩ := rd_cells ZB.out
          refine bodyPost_ret (v := .tuple #[.agg rd0, .bool false]) (by simp [results, Tryz.results112, go_sem, y0, y1, y2, y3, y4, y5]) rfl ⟨BB.out, ?_⟩
          rw [HPN.out, names_no7 HPN.out, gates_no7 HPN.out]
          exact ⟨_, _, _, _, _, _, _, _, _, _, rfl, OwnV.nil _ _ _, OwnI.nil _ _ _⟩
        · have HOL := hO.lt
          have S2 : Hid (PR B w.heap.size (.slice A ss.length c) ss w k2 (max D D2) (a ++ a2) (gg ++ g2) w2) := Lib.hid ⟨(b2.block w.heap.size (by omega)).trans HP1.out.zed, HP1.out.old.trans (b2.mono (by omega)), HP1.out.deeds.snoc hO, HP1.out.lin.trans hL2, HOL.2, vn2, vg2, vo2, by rw [List.map_append]; exact R2⟩
          have m1 : Hid (atOf (w.heap.size + 1) w2 = k2) := Lib.hid (atOf_eq R2.c1)
          clear R2 hO hL2 b2
          go_wp2_with fail
          go_roundw
          case rel => exact ⟨_, _, _, _, S2.out⟩
          case measure => simp only [m0.out, m1.out]; omega
      · obtain rfl : k = ss.length := by omega
        have HD : Hid (decide (ss.length ≤ ss.length) = true) := Lib.hid (by simp)
        have HAE := Lib.hid (atEnd_any B _ _ ss wr ss.length vn vg vo _ _ _ _ hR hn)
        rw [HD.out] at HAE
        have HP := Lib.hid hP
        clear hP hR
        go_wp2_with fail
        refine HAE.out.mono ?_
        rintro e w1 ⟨rfl, b1⟩
        have P1 := HP.out.later b1 (Nat.le_refl _)
        clear HP HAE b1
        obtain ⟨vn1, vg1, vo1, R1⟩ := P1.rd
        obtain ⟨An, cn, en⟩ := strs_shape R1.names.see
        subst en
        obtain ⟨Ag, cg, eg⟩ := R1.gates.see.shape
        subst eg
        obtain ⟨Ao, co, eo⟩ := row_shape R1.opens
        subst eo
        have h4 := Lib.hid (lin_gates P1.lin)
        have c2 := R1.c2
        have c3 := R1.c3
        have lt1 := R1.lt
        have HH : Half w.heap.size (.slice A ss.length c) w (ss.length : Int) D (.slice An a.length cn) (.slice Ag (gg.map Int.ofNat).length cg) (.slice Ao ((([] : List Bool).reverse.map Value.bool).length) co) w1.drew := ⟨P1.old.drew, P1.zed, R1.blk⟩
        have HNd : OwnV w1.drew (w.heap.size + 1 + 1) 9 (.slice An a.length cn) (a.map str) := R1.names
        have HGd : OwnI w1.drew (w.heap.size + 1 + 1) 2 (.slice Ag (gg.map Int.ofNat).length cg) (gg.map Int.ofNat) := R1.gates
        rw [List.length_map] at HH HGd c3
        have HCS := Lib.hid (halfS _ _ _ _ _ _ _ _ _ a _ w1.drew HH HNd HGd (by omega))
        have HCI := Lib.hid (halfI _ _ _ _ _ _ _ _ _ a gg w1.drew HH h4.out HGd HNd (by omega))
        have HPL := Lib.hid P1.lin
        have HPD := Lib.hid P1.deeds
        clear R1 P1 HH HNd HGd
        go_upto_region 7 with fail
        go_cut [16] from 16 (fun s wc => Fin w.heap.size (.slice A ss.length c) ss w (ss.length : Int) D a gg wc)
        case first =>
          go_region_law (first
            | (go_simp; refine (halfS _ _ _ _ _ _ _ _ _ a _ wI hI.out xI.out oI.out (by omega)).mono ?_; rintro e wU ⟨AU, NU, cU, rfl, hU, oU, xU⟩; have HF := Lib.hid (fin_mk (ss := ss) hU.old hU.zed hU.blk oU xU); have q2 := hU.c2; have q3 := hU.c3; have p2 := hU.fz 2; have p3 := hU.fz 3; clear hU oU xU; dsimp only)
            | (go_simp; refine (halfI _ _ _ _ _ _ _ _ _ (putAll a) gg wS hS.out h4.out xS.out oS.out (by omega)).mono ?_; rintro e wU ⟨AU, NU, cU, rfl, hU, oU, xU⟩; have HF := Lib.hid (fin_mk (ss := ss) hU.old hU.zed hU.blk xU oU); have q2 := hU.c2; have q3 := hU.c3; have p2 := hU.fz 2; have p3 := hU.fz 3; clear hU oU xU; dsimp only)
            | (go_simp; refine HCS.out.mono ?_; rintro e wS ⟨AS, NS, cS, rfl, hS, oS, xS⟩; have d2 := hS.c2; have d3 := hS.c3; have hS := Lib.hid hS; have oS := Lib.hid oS; have xS := Lib.hid xS; dsimp only)
            | (go_simp; refine HCI.out.mono ?_; rintro e wI ⟨AI, NI, cI, rfl, hI, oI, xI⟩; have d2 := hI.c2; have d3 := hI.c3; have hI := Lib.hid hI; have oI := Lib.hid oI; have xI := Lib.hid xI; dsimp only))
          all_goals (
            go_wp2_with fail
            go_meet
            case rel => exact HF.out)
        case rest =>
          obtain ⟨bF, zb, vn2, vg2, Ao2, no2, co2, rb, oN, oG⟩ := hcut
          have bF := Lib.hid bF
          obtain ⟨An2, cn2, en⟩ := strs_shape oN.see
          subst en
          obtain ⟨r0, r1, r2, r3, r4, r5⟩ := rd_cells rb
          clear c2 c3 HCS HCI
          by_cases hD : 5 < D
          · have HPN := Lib.hid (deep_play HPD.out hD)
            have hd5 : decide ((D : Int) ≤ 5) = false := by simp; omega
            have hd6 : (5 : Int) < (D : Int) := by omega
            obtain ⟨z0, z1, z2, z3, z4, z5⟩ := rd_cells zb
            have f0 := frozen_row (k := 0) zb
            have f1 := frozen_row (k := 1) zb
            have f2 := frozen_row (k := 2) zb
            have f3 := frozen_row (k := 3) zb
            have f4 := frozen_row (k := 4) zb
            have f5 := frozen_row (k := 5) zb
            have ZB := Lib.hid (set6_blk zb (.slice none 0 0) (.int .i64 0) (.slice none 0 0) (.slice none 0 0) (.slice none 0 0) (.int .i64 0))
            have BB := Lib.hid (set6_below bF.out (.slice none 0 0) (.int .i64 0) (.slice none 0 0) (.slice none 0 0) (.slice none 0 0) (.int .i64 0))
            unfold set6 at ZB BB
            clear zb rb oN oG
            go_wp2_with fail
            generalize World.setCell _ _ _ = W6 at ZB BB ⊢
            obtain ⟨y0, y1, y2, y3, y4, y5⟩ := rd_cells ZB.out
            refine bodyPost_ret (v := .tuple #[.agg rd0, .bool false]) (by simp [results, Tryz.results112, go_sem, y0, y1, y2, y3, y4, y5]) rfl ⟨BB.out, ?_⟩
            rw [HPN.out, names_no7 HPN.out, gates_no7 HPN.out]
            exact ⟨_, _, _, _, _, _, _, _, _, _, rfl, OwnV.nil _ _ _, OwnI.nil _ _ _⟩
          · have HPY := Lib.hid (play_yes (by omega) HPD.out (by omega) HPL.out)
            have hd6 : ¬ (5 : Int) < (D : Int) := by omega
            obtain ⟨m, HM⟩ : ∃ m, Hid ((putAll a).length = m) := ⟨_, Lib.hid rfl⟩
            rw [HM.out] at HPY r2 rb oN
            by_cases hm : m ≤ 12
            · have HPT : Hid (playB ss = true) := Lib.hid (by rw [HPY.out]; simp; omega)
              have HNN := Lib.hid (names_yes7 HPT.out HPL.out)
              have HGG := Lib.hid (gates_yes7 HPT.out HPL.out)
              have hm6 : ¬ (12 : Int) < (m : Int) := by omega
              obtain ⟨z0, z1, z2, z3, z4, z5⟩ := rd_cells zb
              have f0 := frozen_row (k := 0) zb
              have f1 := frozen_row (k := 1) zb
              have f2 := frozen_row (k := 2) zb
              have f3 := frozen_row (k := 3) zb
              have f4 := frozen_row (k := 4) zb
              have f5 := frozen_row (k := 5) zb
              have ZB := Lib.hid (set6_blk zb (.slice A ss.length c) (.int .i64 (ss.length : Int)) (.slice An2 m cn2) vg2 (.slice Ao2 no2 co2) (.int .i64 (D : Int)))
              have BB := Lib.hid (set6_below bF.out (.slice A ss.length c) (.int .i64 (ss.length : Int)) (.slice An2 m cn2) vg2 (.slice Ao2 no2 co2) (.int .i64 (D : Int)))
              have ON := Lib.hid (set6_own oN (show w.heap.size < w.heap.size + 1 + 1 by omega) (.slice A ss.length c) (.int .i64 (ss.length : Int)) (.slice An2 m cn2) vg2 (.slice Ao2 no2 co2) (.int .i64 (D : Int)))
              have OG := Lib.hid (set6_own oG (show w.heap.size < w.heap.size + 1 + 1 by omega) (.slice A ss.length c) (.int .i64 (ss.length : Int)) (.slice An2 m cn2) vg2 (.slice Ao2 no2 co2) (.int .i64 (D : Int)))
              unfold set6 at ZB BB ON OG
              obtain ⟨Ag2, cg2, eg⟩ := oG.see.shape
              subst eg
              clear zb rb oN oG
              go_wp2_with fail
              generalize World.setCell _ _ _ = W6 at ZB BB ON OG ⊢
              obtain ⟨y0, y1, y2, y3, y4, y5⟩ := rd_cells ZB.out
              refine bodyPost_ret (v := .tuple #[.agg #[.slice A ss.length c, .int .i64 (ss.length : Int), .slice An2 m cn2, .slice Ag2 (riseG gg).length cg2, .slice Ao2 no2 co2, .int .i64 (D : Int)], .bool true]) (by simp [results, Tryz.results112, go_sem, y0, y1, y2, y3, y4, y5]) rfl ⟨BB.out, ?_⟩
              rw [HPT.out, HNN.out, HGG.out]
              exact ⟨_, _, _, _, _, _, _, _, _, _, rfl, OwnV.less ON.out (by omega), less_own OG.out (by omega)⟩
            · have HPN : Hid (playB ss = false) := Lib.hid (by rw [HPY.out]; simp; omega)
              have hm6 : (12 : Int) < (m : Int) := by omega
              obtain ⟨z0, z1, z2, z3, z4, z5⟩ := rd_cells zb
              have f0 := frozen_row (k := 0) zb
              have f1 := frozen_row (k := 1) zb
              have f2 := frozen_row (k := 2) zb
              have f3 := frozen_row (k := 3) zb
              have f4 := frozen_row (k := 4) zb
              have f5 := frozen_row (k := 5) zb
              have ZB := Lib.hid (set6_blk zb (.slice none 0 0) (.int .i64 0) (.slice none 0 0) (.slice none 0 0) (.slice none 0 0) (.int .i64 0))
              have BB := Lib.hid (set6_below bF.out (.slice none 0 0) (.int .i64 0) (.slice none 0 0) (.slice none 0 0) (.slice none 0 0) (.int .i64 0))
              unfold set6 at ZB BB
              clear zb rb oN oG
              go_wp2_with fail
              generalize World.setCell _ _ _ = W6 at ZB BB ⊢
              obtain ⟨y0, y1, y2, y3, y4, y5⟩ := rd_cells ZB.out
              refine bodyPost_ret (v := .tuple #[.agg rd0, .bool false]) (by simp [results, Tryz.results112, go_sem, y0, y1, y2, y3, y4, y5]) rfl ⟨BB.out, ?_⟩
              rw [HPN.out, names_no7 HPN.out, gates_no7 HPN.out]
              exact ⟨_, _, _, _, _, _, _, _, _, _, rfl, OwnV.nil _ _ _, OwnI.nil _ _ _⟩

end Go.Proofs.YtjcmfdgphhonhaaGreatDoor

namespace Go.Proofs.YtjcmfdgphhonhaaGreatDoor
open Go.RowKit
set_option linter.unusedVariables false

def StrsOut (w : World) (xs : List Txt) (e : Ending) (w' : World) : Prop := ∃ v, e = .returned v ∧ OwnV w' w.heap.size 9 v (xs.map str) ∧ Below w.heap.size w w'
def NumsOut (w : World) (zs : List Int) (e : Ending) (w' : World) : Prop := ∃ v, e = .returned v ∧ OwnI w' w.heap.size 2 v zs ∧ Below w.heap.size w w'
/-- At the head of the model's loop. -/
def OkAt (ss : List Txt) (w : World) (i : Value) (wr : World) : Prop :=
  Below w.heap.size w wr ∧ ((∃ p D : Nat, i = .int .i64 (p : Int) ∧ p ≤ ss.length ∧ Deeds ss 0 p D ∧ D ≤ 5) ∨ (i = .int .i64 (-1) ∧ ∀ D, Deeds ss 0 ss.length D → 5 < D))
def mOk (n : Nat) (z : Int) : Nat := if z < 0 then 0 else n + 1 - z.toNat
theorem mOk_neg (n : Nat) : mOk n (-1) = 0 := rfl
theorem mOk_nat (n p : Nat) : mOk n (p : Int) = n + 1 - p := by unfold mOk; rw [if_neg (by omega), Int.toNat_natCast]

set_option maxRecDepth 100000 in
set_option maxHeartbeats 2000000 in
theorem sPlayOk_any (B : Nat) (v : Value) (ss : List Txt) (w : World) (h : SeeV w B v (ss.map str)) (hB : B ≤ w.heap.size) (hS : shortS ss) (hn : ss.length ≤ 1048576) :
    Calls Tryz.prog 18 #[v] w (BoolLt w (playB ss)) := by
  obtain ⟨A, c, e⟩ := strs_shape h
  subst e
  by_cases hl : 100 < ss.length
  · have HP := Lib.hid (play_long hl)
    rw [HP.out]
    have hne : ((0 : Int) == (ss.length : Int)) = false := by simp; omega
    have h1 : decide ((0 : Int) < (ss.length : Int)) = true := by simp; omega
    have h2 : decide ((ss.length : Int) ≤ 100) = false := by simp; omega
    go_enter Tryz.func18, Tryz.ntmps18
    go_wp2_with fail
    go_loopw [3] (fun i wr => i = .int .i64 0 ∧ wr = w) (fun _ _ => 0)
    case atStart => exact ⟨rfl, rfl⟩
    case round =>
      obtain ⟨rfl, rfl⟩ := hrel
      go_wp2_with fail
      go_ret
      exact ⟨rfl, Below.refl _ _⟩
  · obtain ⟨R, HR⟩ : ∃ R, Hid (playB ss = R) := ⟨_, Lib.hid rfl⟩
    rw [HR.out]
    go_enter Tryz.func18, Tryz.ntmps18
    go_wp2_with fail
    go_loopw [3] (OkAt ss w) (fun i _ => mOk ss.length (intOf i))
    case atStart => exact ⟨Below.refl _ _, .inl ⟨0, 0, rfl, Nat.zero_le _, .nil 0, by omega⟩⟩
    case round =>
      obtain ⟨hb, ⟨p, D, rfl, hp, hd, hD⟩ | ⟨rfl, hd⟩⟩ := hrel
      · by_cases hlt : p < ss.length
        · have HC := Lib.hid (deed_all 5 (by omega) B (.slice A ss.length c) ss p wr (h.below (hb.mono hB)) (Nat.le_trans hB hb.size) hS hn (by omega))
          have HD := Lib.hid hd
          clear hd h
          go_wp2_with fail
          refine HC.out.mono ?_
          rintro e w1 ⟨r, rfl, hr, b1⟩
          cases r with
          | none =>
            have HN : Hid (∀ D, Deeds ss 0 ss.length D → 5 < D) := Lib.hid (fun D2 h2 => HD.out.stuck h2 (end_head ss) (by omega) hr)
            have hE : endI none = -1 := rfl
            rw [hE]
            go_wp2_with fail
            go_roundw
            case rel => exact ⟨below_then hb b1 (Nat.le_refl _), .inr ⟨rfl, HN.out⟩⟩
            case measure => show mOk ss.length (-1) < mOk ss.length (p : Int); rw [mOk_neg, mOk_nat]; omega
          | some k =>
            obtain ⟨D1, hO, h5⟩ := hr
            have hol := hO.lt
            have HN := Lib.hid (HD.out.snoc hO)
            have hE : endI (some k) = (k : Int) := rfl
            rw [hE]
            clear hO
            go_wp2_with fail
            go_roundw
            case rel => exact ⟨below_then hb b1 (Nat.le_refl _), .inl ⟨k, _, rfl, hol.2, HN.out, by omega⟩⟩
            case measure => show mOk ss.length (k : Int) < mOk ss.length (p : Int); rw [mOk_nat, mOk_nat]; omega
        · obtain rfl : p = ss.length := by omega
          obtain ⟨a, g, hL⟩ := hd.lin
          have HPY := Lib.hid ((play_yes (by omega) hd (by omega) hL).symm.trans HR.out)
          have HC := Lib.hid (l7All_any B (.slice A ss.length c) ss a g wr (h.below (hb.mono hB)) (Nat.le_trans hB hb.size) hS hn hL)
          have hal := lin_alen hL
          have hpl := putAll_len' a
          clear hd h hL
          go_wp2_with fail
          refine HC.out.mono ?_
          rintro e w1 ⟨v1, u1, rfl, o1, o2, b1⟩
          obtain ⟨A1, c1, e1⟩ := strs_shape o1.see
          subst e1
          obtain ⟨m, HM⟩ : ∃ m, Hid ((putAll a).length = m) := ⟨_, Lib.hid rfl⟩
          rw [HM.out]
          go_wp2_with fail
          go_ret
          exact ⟨ret_bool (by rw [← HPY.out, HM.out]; exact decide_eq_decide.2 (by omega)), below_then hb b1 (Nat.le_refl _)⟩
      · have HRF := Lib.hid ((play_no hd).symm.trans HR.out)
        have hne : ((-1 : Int) == (ss.length : Int)) = false := by first | (simp; done) | (simp; omega)
        clear hd h
        go_wp2_with fail
        go_ret
        exact ⟨ret_bool HRF.out, hb⟩

set_option maxHeartbeats 1000000 in
theorem iPlayOk_any (B : Nat) (v : Value) (ss : List Txt) (w : World) (V : Vars w) (h : SeeV w B v (ss.map str)) (hB : B ≤ w.heap.size) (hS : shortS ss) (hn : ss.length ≤ 1048576) :
    Calls Tryz.prog 53 #[v] w (BoolLt w (playB ss)) := by
  have HC := Lib.hid (playRead_any B v ss w V h hB hS hn)
  obtain ⟨A, c, e⟩ := strs_shape h
  subst e
  clear h V
  unfold PlayOut at HC
  generalize playB ss = R at HC ⊢
  go_enter Tryz.func53, Tryz.ntmps53
  go_wp2_with fail
  refine HC.out.mono ?_
  rintro e w1 ⟨b1, As, ns, cs, a, vn, vg, Ao, no, co, d, rfl, o1, o2⟩
  obtain ⟨A1, c1, e1⟩ := strs_shape o1.see
  obtain ⟨A2, c2, e2⟩ := row_shape o2
  subst e1 e2
  go_wp2_with fail
  go_ret
  exact ⟨rfl, b1.alloc b1.size _⟩

set_option maxHeartbeats 1000000 in
theorem sAllNames_any (B : Nat) (v : Value) (ss : List Txt) (w : World) (h : SeeV w B v (ss.map str)) (hB : B ≤ w.heap.size) (hS : shortS ss) (hn : ss.length ≤ 1048576) :
    Calls Tryz.prog 36 #[v] w (StrsOut w (namesP ss)) := by
  have HC := Lib.hid (sPlayOk_any B v ss w h hB hS hn)
  cases hp : playB ss with
  | false =>
    rw [names_no7 hp]
    rw [hp] at HC
    obtain ⟨A, c, e⟩ := strs_shape h
    subst e
    clear h hp
    go_enter Tryz.func36, Tryz.ntmps36
    go_wp2_with fail
    refine HC.out.mono ?_
    rintro e w1 ⟨rfl, b1⟩
    have oE := OwnV.empty w1 w.heap.size 9 b1.size
    go_wp2_with fail
    go_ret
    exact ⟨_, rfl, oE, b1.alloc b1.size _⟩
  | true =>
    obtain ⟨_, D, a, g, hd, _, hL, _⟩ := play_open hp
    rw [names_yes7 hp hL]
    rw [hp] at HC
    have HA := Lib.hid (fun w1 (b1 : Below w.heap.size w w1) => l7All_any B v ss a g w1 (h.below (b1.mono hB)) (Nat.le_trans hB b1.size) hS hn hL)
    obtain ⟨A, c, e⟩ := strs_shape h
    subst e
    clear h hp hd hL
    go_enter Tryz.func36, Tryz.ntmps36
    go_wp2_with fail
    refine HC.out.mono ?_
    rintro e w1 ⟨rfl, b1⟩
    go_wp2_with fail
    refine (HA.out w1 b1).mono ?_
    rintro e w2 ⟨v1, u1, rfl, o1, o2, b2⟩
    go_wp2_with fail
    go_ret
    exact ⟨_, rfl, less_own o1 b1.size, below_then b1 b2 (Nat.le_refl _)⟩

set_option maxHeartbeats 1000000 in
theorem sGatesIn_any (B : Nat) (v : Value) (ss : List Txt) (w : World) (h : SeeV w B v (ss.map str)) (hB : B ≤ w.heap.size) (hS : shortS ss) (hn : ss.length ≤ 1048576) :
    Calls Tryz.prog 20 #[v] w (NumsOut w (gatesP ss)) := by
  have HC := Lib.hid (sPlayOk_any B v ss w h hB hS hn)
  cases hp : playB ss with
  | false =>
    rw [gates_no7 hp]
    rw [hp] at HC
    obtain ⟨A, c, e⟩ := strs_shape h
    subst e
    clear h hp
    go_enter Tryz.func20, Tryz.ntmps20
    go_wp2_with fail
    refine HC.out.mono ?_
    rintro e w1 ⟨rfl, b1⟩
    have oE := OwnI.empty w1 w.heap.size 2 b1.size
    go_wp2_with fail
    go_ret
    exact ⟨_, rfl, oE, b1.alloc b1.size _⟩
  | true =>
    obtain ⟨_, D, a, g, hd, _, hL, _⟩ := play_open hp
    rw [gates_yes7 hp hL]
    rw [hp] at HC
    have HA := Lib.hid (fun w1 (b1 : Below w.heap.size w w1) => l7All_any B v ss a g w1 (h.below (b1.mono hB)) (Nat.le_trans hB b1.size) hS hn hL)
    obtain ⟨A, c, e⟩ := strs_shape h
    subst e
    clear h hp hd hL
    go_enter Tryz.func20, Tryz.ntmps20
    go_wp2_with fail
    refine HC.out.mono ?_
    rintro e w1 ⟨rfl, b1⟩
    go_wp2_with fail
    refine (HA.out w1 b1).mono ?_
    rintro e w2 ⟨v1, u1, rfl, o1, o2, b2⟩
    go_wp2_with fail
    go_ret
    exact ⟨_, rfl, less_own o2 b1.size, below_then b1 b2 (Nat.le_refl _)⟩

end Go.Proofs.YtjcmfdgphhonhaaGreatDoor
