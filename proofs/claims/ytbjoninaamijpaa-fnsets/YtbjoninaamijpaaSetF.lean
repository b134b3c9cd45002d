/- The draws of layer 1, and the law FnSets' walk. -/
import Derived.Test.YtbjoninaamijpaaSetE
import Derived.Test.YtbjoninaamijpaaDrawA
namespace Go.Proofs.Ytbjoninaamijpaa
open Go.RowKit
set_option linter.unusedVariables false

def IntOut (w : World) (g : Nat) (e : Ending) (w' : World) : Prop := ∃ x : Int, e = .returned (.int .i64 x) ∧ Cur w' g ∧ w.grownBy w' (some g)
theorem Cur.alloc {w : World} {g : Nat} (h : Cur w g) (o : Obj) : Cur (w.alloc o) g := by
  obtain ⟨A, n, c, i, x, hh, hs, hi⟩ := h
  have hlt : g < w.heap.size := (Array.getElem?_eq_some_iff.1 hh).1
  exact ⟨A, n, c, i, x, (Below.heap_alloc w o g hlt).trans hh, hs.keep fun p hp => World.cell?_alloc_lt w _ p (by omega), hi⟩
theorem Cur.lt {w : World} {g : Nat} (h : Cur w g) : g < w.heap.size := by
  obtain ⟨A, n, c, i, x, hh, hs, hi⟩ := h
  exact (Array.getElem?_eq_some_iff.1 hh).1
theorem grown_of_alloc {w w' : World} {g : Nat} (o : Obj) (h : (w.alloc o).grownBy w' (some g)) : w.grownBy w' (some g) :=
  ⟨h.os, h.tape, h.output, by have := h.size; simp at this; omega, fun k hk hne => (h.block k (by simp; omega) hne).trans (Below.heap_alloc w o k hk)⟩
theorem grown_trans {a b c : World} {g : Nat} (h : a.grownBy b (some g)) (k : b.grownBy c (some g)) : a.grownBy c (some g) :=
  ⟨k.os.trans h.os, k.tape.trans h.tape, k.output.trans h.output, Nat.le_trans h.size k.size, fun i hi hne => (k.block i (Nat.lt_of_lt_of_le hi h.size) hne).trans (h.block i hi hne)⟩

set_option maxHeartbeats 1000000 in
theorem l1DrawSet_any (g : Nat) (w : World) (hc : Cur w g) : Calls Try.prog 30 #[.pointer (some ⟨g, 0, none⟩)] w (IntOut w g) := by
  go_enter Try.func30, Try.ntmps30
  go_wp2_with fail
  refine (l1Once_any g _ (by decide) (by decide) _ hc).mono ?_
  rintro e w1 ⟨b, rfl, hc1, hg1⟩
  cases b
  · go_wp2_with fail
    refine (l1Below_any g _ (by decide) (by decide) _ hc1).mono ?_
    rintro e w2 ⟨x, rfl, -, -, hc2, hg2⟩
    go_wp2_with fail
    go_ret
    exact ⟨_, rfl, hc2, grown_trans hg1 hg2⟩
  · have hlt := hc1.lt
    go_wp2_with fail
    refine (l1Below_any g _ (by decide) (by decide) _ (hc1.alloc _)).mono ?_
    rintro e w2 ⟨x, rfl, hx0, hx1, hc2, hg2⟩
    have hk : w2.heap[w1.heap.size]? = some (.cells #[.int .i64 (-1), .int .i64 63, .int .i64 64, .int .i64 1099511627776] 2 (0, 0)) :=
      (hg2.block _ (by simp) (by simp; omega)).trans (heap_alloc_new _ _)
    have hx : x = 0 ∨ x = 1 ∨ x = 2 ∨ x = 3 := by omega
    have hcell : ∃ y : Int, w2.cell? ⟨w1.heap.size, x.toNat, none⟩ = some (.int .i64 y) := by
      rw [cell_of_row w2 _ _ _ _ (0, 0) hk]
      rcases hx with rfl | rfl | rfl | rfl <;> exact ⟨_, rfl⟩
    obtain ⟨y, hy⟩ := hcell
    have G := grown_trans hg1 (grown_of_alloc _ hg2)
    clear hk hx hg1 hg2 hc1
    go_wp2_with fail
    go_ret
    exact ⟨_, rfl, hc2, G⟩

def PairOut (w : World) (e : Ending) (w' : World) : Prop := ∃ x y : Int, e = .returned (.tuple #[.int .i64 x, .int .i64 y]) ∧ Below w.heap.size w w'
def OneOut (w : World) (e : Ending) (w' : World) : Prop := ∃ x : Int, e = .returned (.int .i64 x) ∧ Below w.heap.size w w'
theorem below_cur {w w1 w2 : World} (hb : Below w.heap.size w w1) (hg : w1.grownBy w2 (some w.heap.size)) : Below w.heap.size w w2 :=
  hb.grown hg hb.size (fun k hk => by injection hk with hk; omega)

set_option maxHeartbeats 1000000 in
theorem drawInSet_any (A : Option Addr) (n c : Nat) (hn : n ≤ 4096) (w : World) (hs : SeeB w w.heap.size A n) : Calls Try.prog 11 #[.slice A n c] w (PairOut w) := by
  go_enter Try.func11, Try.ntmps11
  go_wp2_with fail
  refine (l1New_any A n c hn _ hs).mono ?_
  rintro e w1 ⟨rfl, hc1, hb1⟩
  go_wp2_with fail
  refine (l1DrawSet_any _ _ hc1).mono ?_
  rintro e w2 ⟨x, rfl, hc2, hg2⟩
  go_wp2_with fail
  refine (l1From_any _ _ _ (by decide) (by decide) (by decide) (by decide) _ hc2).mono ?_
  rintro e w3 ⟨y, rfl, -, -, hc3, hg3⟩
  go_wp2_with fail
  go_ret2
  exact ⟨_, _, rfl, below_cur hb1 (grown_trans hg2 hg3)⟩

set_option maxHeartbeats 1000000 in
theorem drawAllOf_any (A : Option Addr) (n c : Nat) (hn : n ≤ 4096) (w : World) (hs : SeeB w w.heap.size A n) : Calls Try.prog 13 #[.slice A n c] w (OneOut w) := by
  go_enter Try.func13, Try.ntmps13
  go_wp2_with fail
  refine (l1New_any A n c hn _ hs).mono ?_
  rintro e w1 ⟨rfl, hc1, hb1⟩
  go_wp2_with fail
  refine (l1From_any _ _ _ (by decide) (by decide) (by decide) (by decide) _ hc1).mono ?_
  rintro e w3 ⟨y, rfl, -, -, hc3, hg3⟩
  go_wp2_with fail
  go_ret
  exact ⟨_, rfl, below_cur hb1 hg3⟩

theorem mem_sel {p : Int → Bool} {k : Nat} {x : Int} : x ∈ sel p k ↔ ∃ j : Nat, j < k ∧ x = j ∧ p j = true := by
  induction k with
  | zero => simp [sel]
  | succ k ih =>
    cases hp : p k
    · rw [sel_no hp, ih]
      constructor
      · rintro ⟨j, h1, h2, h3⟩; exact ⟨j, by omega, h2, h3⟩
      · rintro ⟨j, h1, h2, h3⟩
        refine ⟨j, ?_, h2, h3⟩
        rcases Nat.lt_or_ge j k with h | h
        · exact h
        · obtain rfl : j = k := by omega
          rw [hp] at h3; cases h3
    · rw [sel_yes hp, List.mem_append, ih, List.mem_singleton]
      constructor
      · rintro (⟨j, h1, h2, h3⟩ | rfl)
        · exact ⟨j, by omega, h2, h3⟩
        · exact ⟨k, by omega, rfl, hp⟩
      · rintro ⟨j, h1, h2, h3⟩
        rcases Nat.lt_or_ge j k with h | h
        · exact .inl ⟨j, h, h2, h3⟩
        · obtain rfl : j = k := by omega
          exact .inr h2
theorem has_mem (s i : Int) : hasI (memB s) i = hasB s i := by
  unfold hasI
  cases h : hasB s i
  · rw [decide_eq_false_iff_not]
    intro hm
    obtain ⟨j, _, rfl, hp⟩ := mem_sel.1 hm
    rw [h] at hp; cases hp
  · rw [decide_eq_true_iff]
    have h1 : inB i 0 5 = true := by simp only [hasB, Bool.and_eq_true] at h; exact h.1.2
    have h2 : 0 ≤ i ∧ i ≤ 5 := by simpa [inB] using h1
    obtain ⟨j, rfl⟩ := Int.eq_ofNat_of_zero_le h2.1
    exact mem_sel.2 ⟨j, by omega, rfl, h⟩
theorem ris_snoc {zs : List Int} {z : Int} (h : risTo zs zs.length) (hz : ∀ x ∈ zs, x < z) : risTo (zs ++ [z]) (zs ++ [z]).length := by
  intro k hk
  rw [List.length_append, List.length_singleton] at hk
  by_cases e : k + 1 = zs.length
  · have h1 : k < zs.length := by omega
    have h2 : (zs ++ [z]).getD (k + 1) 0 = z := by rw [e]; simp
    have h3 : (zs ++ [z]).getD k 0 = zs[k] := by rw [List.getD_eq_getElem?_getD, List.getElem?_append_left h1, List.getElem?_eq_getElem h1]; rfl
    rw [h2, h3]
    exact hz _ (List.getElem_mem h1)
  · have h1 : k + 1 < zs.length := by omega
    have := h k h1
    simpa only [List.getD_eq_getElem?_getD, List.getElem?_append_left h1, List.getElem?_append_left (show k < zs.length by omega)] using this
theorem ris_sel (p : Int → Bool) (k : Nat) : risTo (sel p k) (sel p k).length := by
  induction k with
  | zero => intro j hj; simp [sel] at hj
  | succ k ih =>
    cases hp : p k
    · rw [sel_no hp]; exact ih
    · rw [sel_yes hp]
      refine ris_snoc ih fun x hx => ?_
      obtain ⟨j, h1, rfl, _⟩ := mem_sel.1 hx
      omega
theorem ris_mem (s : Int) : risB (memB s) = true := by
  unfold risB
  simp only [decide_eq_true_eq]
  exact ris_sel _ _
theorem all_facts (n : Int) (h : 0 ≤ allB n) : cntB (allB n) = n ∧ hasB (allB n) n = false := by
  unfold allB at h ⊢
  split at h
  · rename_i hn
    rw [if_pos hn]
    obtain ⟨h0, h1⟩ := hn
    have h : n = 0 ∨ n = 1 ∨ n = 2 ∨ n = 3 ∨ n = 4 ∨ n = 5 ∨ n = 6 := by omega
    rcases h with rfl | rfl | rfl | rfl | rfl | rfl | rfl <;> decide +kernel
  · omega

set_option maxHeartbeats 2000000 in
set_option maxRecDepth 100000 in
theorem sets_law (A : Option Addr) (n c : Nat) (w : World) (hs : SeeB w w.heap.size A n) :
    Calls Try.prog 3 #[.slice A n c] w fun e w' => e = .returned (.bool true) ∧ Below w.heap.size w w' := by
  have hm := hs.1
  by_cases hbig : 4096 < n
  · have hd : decide (4096 < (n : Int)) = true := by simp; omega
    go_enter Try.func3, Try.ntmps3
    go_wp2_with fail
    refine (big_any _ _ _ _ hm).mono ?_
    rintro e w' ⟨rfl, rfl⟩
    go_wp2_with fail
    go_ret
    exact ⟨rfl, Below.refl _ _⟩
  · have hd : decide (4096 < (n : Int)) = false := by simp; omega
    go_enter Try.func3, Try.ntmps3
    go_wp2_with fail
    refine (big_any _ _ _ _ hm).mono ?_
    rintro e w' ⟨rfl, rfl⟩
    clear hm
    go_wp2_with fail
    refine (drawInSet_any A n c (by omega) _ hs).mono ?_
    rintro e w1 ⟨s, i, rfl, b1⟩
    have z1 := b1.size
    go_wp2_with fail
    refine (iMembers_any _ _).mono ?_
    rintro e w2 ⟨v2, rfl, o2, b2⟩
    have z2 := b2.size
    obtain ⟨A2, c2, rfl⟩ := o2.see.shape
    go_wp2_with fail
    refine (drawAllOf_any A n c (by omega) _ ?_).mono ?_
    · exact ((hs.keep fun p hp => b1.cell hp).keep fun p hp => b2.cell (by omega)).more (by omega)
    rintro e w3 ⟨q, rfl, b3⟩
    have z3 := b3.size
    go_wp2_with fail
    refine (iAllOf_any _ _).mono ?_
    rintro e w' ⟨rfl, rfl⟩
    have s2 : SeeI w3 w2.heap.size (.slice A2 (memB s).length c2) (memB s) := o2.see.below b3
    have heq := eqI_same (memB s)
    have hris := ris_mem s
    have hmem := has_mem s i
    have hal := all_facts q
    have hlen := memB_le s
    have hcn : inB s 0 63 = true → cntB s = (memB s).length := fun h => by rw [memB_yes h]; simp [cntB, h]
    have hc0 : inB s 0 63 = false → cntB s = -1 ∧ (memB s).length = 0 := fun h => by rw [memB_no h]; simp [cntB, h]
    have HAL := Lib.hid hal
    have HCN := Lib.hid hcn
    have HC0 := Lib.hid hc0
    clear hal hcn hc0
    go_wp2_with fail
    refine (sMembers_any _ _).mono ?_
    rintro e w4 ⟨v4, rfl, o4, b4⟩
    have z4 := b4.size
    go_wp2_with fail
    refine (likeInts_any w4.heap.size _ _ _ _ _ ((((s2.more z3)).below b4).more z4) o4.see).mono ?_
    rintro e w' ⟨rfl, n4, rfl⟩
    have s4 : SeeI (w4.drewN n4) w3.heap.size (.slice A2 (memB s).length c2) (memB s) := ((s2.more z3).below b4).drewN n4
    have B4 : Below w.heap.size w (w4.drewN n4) := below_drewN (((b1.trans (b2.mono z1)).trans (b3.mono (by omega))).trans (b4.mono (by omega))) n4
    have z5 : w3.heap.size ≤ (w4.drewN n4).heap.size := z4
    generalize w4.drewN n4 = w5 at *
    go_wp2_with fail
    refine (iInSet_any _ _ _).mono ?_
    rintro e w' ⟨rfl, rfl⟩
    go_wp2_with fail
    refine (sInSet_any _ _ _).mono ?_
    rintro e w' ⟨rfl, rfl⟩
    go_wp2_with fail
    refine (iSizeOf_any _ _).mono ?_
    rintro e w' ⟨rfl, rfl⟩
    go_wp2_with fail
    refine (sSizeOf_any _ _).mono ?_
    rintro e w6 ⟨rfl, b6⟩
    have z6 := b6.size
    have s6 : SeeI w6 w6.heap.size (.slice A2 (memB s).length c2) (memB s) := ((s4.more (by omega)).below b6).more z6
    have B6 : Below w.heap.size w w6 := B4.trans (b6.mono B4.size)
    go_wp2_with fail
    refine (iSetOk_any _ _).mono ?_
    rintro e w' ⟨rfl, rfl⟩
    go_wp2_with fail
    refine (sSetOk_any _ _).mono ?_
    rintro e w' ⟨rfl, rfl⟩
    go_wp2_with fail
    refine (sAllOf_any _ _).mono ?_
    rintro e w' ⟨rfl, rfl⟩
    go_wp2_with fail
    refine (rises_any _ _ _ _ s6).mono ?_
    rintro e w' ⟨rfl, n6, rfl⟩
    have s7 := s6.drewN n6
    have B7 := below_drewN B6 n6
    generalize w6.drewN n6 = w7 at *
    go_wp2_with fail
    refine (iInSet_any _ _ _).mono ?_
    rintro e w' ⟨rfl, rfl⟩
    go_wp2_with fail
    refine (hasInt_any _ _ _ _ _ s7).mono ?_
    rintro e w' ⟨rfl, rfl⟩
    clear s2 s4 s6 s7 b1 b2 b3 b4 b6 o2 o4 B4 B6 heq hris
    by_cases ha : 0 ≤ allB q
    · obtain ⟨hq1, hq2⟩ := HAL.out ha
      go_wp2_with fail
      refine (iSizeOf_any _ _).mono ?_
      rintro e w' ⟨rfl, rfl⟩
      go_wp2_with fail
      refine (iInSet_any _ _ _).mono ?_
      rintro e w' ⟨rfl, rfl⟩
      go_wp2_with fail
      refine (sSetOk_any _ _).mono ?_
      rintro e w' ⟨rfl, rfl⟩
      clear hq1 hq2
      cases hi : inB s 0 63
      · obtain ⟨e1, e2⟩ := HC0.out hi
        go_wp2_with fail
        refine (iSizeOf_any _ _).mono ?_
        rintro e w' ⟨rfl, rfl⟩
        go_wp2_with fail
        go_ret
        exact ⟨rfl, B7⟩
      · have e1 := HCN.out hi
        go_wp2_with fail
        refine (iSizeOf_any _ _).mono ?_
        rintro e w' ⟨rfl, rfl⟩
        go_wp2_with fail
        go_ret
        exact ⟨rfl, B7⟩
    · go_wp2_with fail
      refine (sSetOk_any _ _).mono ?_
      rintro e w' ⟨rfl, rfl⟩
      cases hi : inB s 0 63
      · obtain ⟨e1, e2⟩ := HC0.out hi
        go_wp2_with fail
        refine (iSizeOf_any _ _).mono ?_
        rintro e w' ⟨rfl, rfl⟩
        go_wp2_with fail
        go_ret
        exact ⟨rfl, B7⟩
      · have e1 := HCN.out hi
        go_wp2_with fail
        refine (iSizeOf_any _ _).mono ?_
        rintro e w' ⟨rfl, rfl⟩
        go_wp2_with fail
        go_ret
        exact ⟨rfl, B7⟩
end Go.Proofs.Ytbjoninaamijpaa
