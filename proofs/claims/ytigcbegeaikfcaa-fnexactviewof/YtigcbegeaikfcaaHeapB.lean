/- The heap of ranks that wait: Swap, Push and Pop. -/
import Derived.Test.YtigcbegeaikfcaaHeapA
import Derived.BigRegion
namespace Go.Proofs.Ytigcbegeaikfcaa
open Go.RowKit
set_option linter.unusedVariables false

theorem OwnI.form {w : World} {B : Nat} {e : TypeId} {v : Value} {zs : List Int} (h : OwnI w B e v zs) {k : Nat} (hk : k < zs.length) : ∃ b c, v = .slice (some ⟨b, 0, none⟩) zs.length c ∧ B ≤ b ∧ b < w.heap.size := World.ownsRow.form h (by omega)
theorem OwnI.set {w : World} {B b c n : Nat} {e : TypeId} {zs : List Int} (h : OwnI w B e (.slice (some ⟨b, 0, none⟩) n c) zs) (k : Nat) (hk : k < zs.length) (x : Int) : OwnI (w.setCell ⟨b, k, none⟩ (.int .i64 x)) B e (.slice (some ⟨b, 0, none⟩) n c) (zs.set k x) := by
  obtain ⟨hl, h⟩ := h
  rcases h with ⟨h, _⟩ | ⟨g, cap, cur, hv, hb, hg, hnc, hcm, hcs, ht⟩
  · cases h
  · injection hv with hv hn hc
    injection hv with hv
    injection hv with hv
    subst hv hn hc
    refine ⟨by simp [hl], .inr ⟨b, c, cur.setIfInBounds k (.int .i64 x), by simp, hb, heap_set hg _, by simpa using hnc, hcm, by simpa using hcs, ?_⟩⟩
    rw [Nat.mul_one] at ht ⊢
    rw [List.length_set, Array.toList_setIfInBounds, List.take_set, ht, List.map_set]
theorem OwnI.cell {w : World} {B b c n : Nat} {e : TypeId} {zs : List Int} (h : OwnI w B e (.slice (some ⟨b, 0, none⟩) n c) zs) (k : Nat) (hk : k < zs.length) : w.cell? ⟨b, k, none⟩ = some (.int .i64 (zs.getD k 0)) ∧ w.frozen? ⟨b, k, none⟩ = false := by
  obtain ⟨g, o, x, he, -, hx, hc⟩ := h.see.at_ hk
  injection he with he
  injection he with hg ho
  subst hg ho
  rw [Nat.zero_add] at hc
  refine ⟨by rw [hc]; simp [List.getD, hx], ?_⟩
  obtain ⟨hl, h⟩ := h
  rcases h with ⟨h, _⟩ | ⟨g, cap, cur, hv, hb, hg, hnc, hcm, hcs, ht⟩
  · cases h
  · injection hv with hv hn hc
    injection hv with hv
    injection hv with hv
    subst hv
    exact frozen_row hg

def swapL (xs : List Int) (i j : Nat) : List Int := (xs.set i (xs.getD j 0)).set j (xs.getD i 0)

theorem HS.set {w : World} {B g b c n : Nat} {R : Nat → Nat → Bool} {xs : List Int} (h : HS w B g (.slice (some ⟨b, 0, none⟩) n c) R xs) (hb : B ≤ b) (k : Nat) (hk : k < xs.length) (x : Int) :
    HS (w.setCell ⟨b, k, none⟩ (.int .i64 x)) B g (.slice (some ⟨b, 0, none⟩) n c) R (xs.set k x) ∧ Upd B g w (w.setCell ⟨b, k, none⟩ (.int .i64 x)) := by
  have hg := h.far
  refine ⟨⟨h.wait.to (Below.heap_setCell _ _ _ _ (by simp; omega)), h.own.set k hk x, hg⟩, ?_, ?_⟩
  · exact (Below.refl _ _).setCell (by simp; omega) _
  · intro i h1 h2
    exact Below.heap_setCell _ _ _ _ (by simp; omega)

set_option maxHeartbeats 2000000 in
set_option maxRecDepth 100000 in
theorem wSwap_any (w : World) (B g : Nat) (v : Value) (R : Nat → Nat → Bool) (xs : List Int) (h : HS w B g v R xs) (i j : Nat) (hi : i < xs.length) (hj : j < xs.length) :
    Calls Try.prog 117 #[.pointer (some ⟨g, 0, none⟩), .int .i64 i, .int .i64 j] w fun e w' => e = .returned (.tuple #[]) ∧ HS w' B g v R (swapL xs i j) ∧ Upd B g w w' := by
  have hc := h.wait.v
  obtain ⟨b, c, rfl, hb, -⟩ := h.own.form hi
  obtain ⟨c1, f1⟩ := h.own.cell i hi
  obtain ⟨c2, f2⟩ := h.own.cell j hj
  have hl := h.own.see.1
  unfold maxLen at hl
  have i1 : (i : Int) < xs.length := by omega
  have i2 : (j : Int) < xs.length := by omega
  have P1 := h.set hb i hi (xs.getD j 0)
  have P2 := P1.1.set hb j (by simpa using hj) (xs.getD i 0)
  have P : Hid (HS ((w.setCell ⟨b, i, none⟩ (.int .i64 (xs.getD j 0))).setCell ⟨b, j, none⟩ (.int .i64 (xs.getD i 0))) B g (.slice (some ⟨b, 0, none⟩) xs.length c) R (swapL xs i j) ∧ Upd B g w ((w.setCell ⟨b, i, none⟩ (.int .i64 (xs.getD j 0))).setCell ⟨b, j, none⟩ (.int .i64 (xs.getD i 0)))) := Lib.hid ⟨P2.1, P1.2.trans P2.2⟩
  obtain ⟨c3, f3⟩ := P1.1.own.cell j (by simpa using hj)
  clear P1 P2 h
  generalize (xs.set i (xs.getD j 0)).getD j 0 = x3 at c3
  generalize xs.getD i 0 = x1 at *
  generalize xs.getD j 0 = x2 at *
  go_enter Try.func117, Try.ntmps117
  go_wp2_with fail
  go_region
  all_goals (go_wp2_with fail)
  all_goals go_returns
  all_goals (exact ⟨rfl, P.out.1.drewN 1, P.out.2.drewN 1⟩)

theorem HS.grown {w w1 : World} {B g : Nat} {v v' : Value} {R : Nat → Nat → Bool} {xs ys : List Int} (h : HS w B g v R xs) (hB : B ≤ w.heap.size) (o : Obj) (hg : (w.drew.alloc o).grownBy w1 v.ownBlock) (ho : OwnI w1 B 2 v' ys) :
    w1.cell? ⟨g, 0, none⟩ = some v ∧ w1.frozen? ⟨g, 0, none⟩ = false ∧ HS (w1.setCell ⟨g, 0, none⟩ v') B g v' R ys ∧ Upd B g w (w1.setCell ⟨g, 0, none⟩ v') := by
  have hf := h.far
  have hk : ∀ i, i < B → w1.heap[i]? = w.heap[i]? := fun i hi => by
    rw [hg.block i (by rw [World.size_alloc]; show i < w.heap.size + 1; omega) (fun e => by have := (h.own.lt i e.symm).1; omega)]
    exact Below.heap_alloc w.drew o i (by show i < w.heap.size; omega)
  have hw := h.wait.to (hk g hf)
  refine ⟨hw.v, hw.frozen 0, ⟨hw.set v', ownsRow_setCell_below ho hf _, hf⟩, ?_, fun i h1 h2 => ?_⟩
  · refine Below.setCell ?_ (show g ≤ g from Nat.le_refl _) _
    exact (((Below.refl g w).drew).alloc (by show g ≤ w.heap.size; omega) o).grown hg (by rw [World.size_alloc]; show g ≤ w.heap.size + 1; omega) (fun i hi => by have := (h.own.lt i hi).1; omega)
  · rw [Below.heap_setCell _ _ _ _ (by simp; omega), hk i h2]

theorem assert_int (x : Int) (W : World) : (Instr.typeAssert (.iface 2 (.int .i64 x)) 20 2 false).run Try.prog W = .ok (.int .i64 x) W := by kernel_rfl

set_option maxHeartbeats 2000000 in
set_option maxRecDepth 100000 in
theorem wPush_any (w : World) (B g : Nat) (v : Value) (R : Nat → Nat → Bool) (xs : List Int) (h : HS w B g v R xs) (hB : B ≤ w.heap.size) (hl : xs.length ≤ 100) (x : Int) :
    Calls Try.prog 116 #[.pointer (some ⟨g, 0, none⟩), .iface 2 (.int .i64 x)] w fun e w' => e = .returned (.tuple #[]) ∧ ∃ v', HS w' B g v' R (xs ++ [x]) ∧ Upd B g w w' := by
  obtain ⟨i0, hi, hz0, hz1, hz2⟩ := info_parts Try.infoInt64
  obtain ⟨A, c, rfl⟩ := h.own.see.shape
  have hc := h.wait.v
  have ta := fun W => assert_int x W
  have hgl := h.wait.lt
  have hne := World.new_ne w ⟨g, 0, none⟩ hc
  have HO : Hid (∀ o, (w.drew.alloc o).ownsRow B 2 1 (.slice A xs.length c) xs.length (xs.map (Value.int .i64))) := Lib.hid fun o => World.ownsRow.alloc (w := w.drew) h.own o
  have HN : Hid (∀ t, ∀ j u, [Value.int .i64 x][j]? = some u → (w.drew.alloc (.cells #[.int .i64 x] t)).cell? ((⟨w.heap.size, 0, none⟩ : Addr).add j) = some u) := Lib.hid fun t => World.news_of_block (heap_alloc_new w.drew _)
  have H1 : Hid (∀ u ∈ [Value.int .i64 x], u.oneCell' = true) := Lib.hid (by intro u hu; simp at hu; subst hu; rfl)
  have HB : Hid (∀ o, B ≤ (w.drew.alloc o).heap.size) := Lib.hid fun o => by rw [World.size_alloc]; show B ≤ w.heap.size + 1; omega
  have HM : Hid (xs.length + 1 ≤ maxLen) := Lib.hid (by unfold maxLen; omega)
  have HG := Lib.hid fun o w1 v' ys => h.grown (w1 := w1) (v' := v') (ys := ys) hB o
  clear h
  go_enter Try.func116, Try.ntmps116
  go_wp2_with fail
  go_region_law ((refine step_append_lies _ (by rfl) _ _ _ (by rfl) B 2 i0 (.int .i64 0) 1 8 Try.underlying22 hi hz0 hz1 hz2 rfl (by decide) (.slice A xs.length c) xs.length (xs.map (Value.int .i64)) (by rfl) (HO.out _) ⟨w.heap.size, 0, none⟩ 1 1 [.int .i64 x] (by rfl) (by rfl) (HN.out _) H1.out (by omega) HM.out (by omega) (HB.out _) _ rfl ?_; intro g1 cap w1 hown hgrow hat hlt; obtain ⟨cc, ff, hh⟩ := HG.out _ w1 (.slice (some ⟨g1, 0, none⟩) (xs.length + 1) cap) (xs ++ [x]) hgrow (by unfold OwnI; simpa using hown); have HH := Lib.hid hh; clear hown hgrow hat hh))
  all_goals (go_wp2_with fail)
  all_goals go_returns
  all_goals (exact ⟨rfl, _, HH.out⟩)

set_option maxHeartbeats 2000000 in
set_option maxRecDepth 100000 in
theorem wPop_any (w : World) (B g : Nat) (v : Value) (R : Nat → Nat → Bool) (xs : List Int) (h : HS w B g v R xs) (n : Nat) (hn : xs.length = n + 1) :
    Calls Try.prog 115 #[.pointer (some ⟨g, 0, none⟩)] w fun e w' => e = .returned (.iface 2 (.int .i64 (xs.getD n 0))) ∧ Upd B g w w' := by
  have hc := h.wait.v
  have hf := h.wait.frozen 0
  obtain ⟨b, c, rfl, hb, -⟩ := h.own.form (k := n) (by omega)
  obtain ⟨c1, f1⟩ := h.own.cell n (by omega)
  have hl := h.own.see.1
  unfold maxLen at hl
  have hcap : Hid (n + 1 ≤ c) := Lib.hid (by
    obtain ⟨hl, h⟩ := h.own
    rcases h with ⟨h, _⟩ | ⟨g, cap, cur, hv, hb, hg, hnc, hcm, hcs, ht⟩
    · cases h
    · injection hv with hv hn' hc'
      omega)
  have HU : Hid (∀ u, Upd B g w (w.setCell ⟨g, 0, none⟩ u)) := Lib.hid fun u => ⟨(Below.refl g w).setCell (show g ≤ g from Nat.le_refl _) _, fun i h1 h2 => Below.heap_setCell _ _ _ _ (by simp; omega)⟩
  generalize xs.getD n 0 = x at *
  rw [hn] at *
  have hcap' := hcap.out
  clear hcap h
  go_enter Try.func115, Try.ntmps115
  go_wp2_with fail
  go_ret
  exact ⟨rfl, HU.out _⟩

end Go.Proofs.Ytigcbegeaikfcaa
