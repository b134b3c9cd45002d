/- The model's Below, DownsOf and IsChain. -/
import Derived.Test.YtigcbegeaikfcaaOrdE
namespace Go.Proofs.Ytigcbegeaikfcaa
open Go.RowKit
set_option linter.unusedVariables false

set_option maxHeartbeats 400000 in
theorem l2Has_any (A : Option Addr) (us : List Int) (c : Nat) (hn : us.length ≤ maxLen) (r : Int) (w : World) : Calls Try.prog 57 #[.agg #[.slice A us.length c], .int .i64 r] w (BoolOf w (isR us r)) := by
  unfold maxLen at hn
  by_cases h0 : 0 ≤ r
  · have HE : Hid (isR us r = decide (r < (us.length : Int))) := Lib.hid (by simp [isR, h0])
    rw [HE.out]
    go_enter Try.func57, Try.ntmps57
    go_wp2_with fail
    go_ret
    exact ⟨rfl, (Below.refl _ _).alloc (Nat.le_refl _) _⟩
  · have HE : Hid (isR us r = false) := Lib.hid (by simp [isR, h0])
    rw [HE.out]
    go_enter Try.func57, Try.ntmps57
    go_wp2_with fail
    go_ret
    exact ⟨rfl, (Below.refl _ _).alloc (Nat.le_refl _) _⟩

set_option maxHeartbeats 400000 in
theorem l2Below_any (B : Nat) (v : Value) (us : List Int) (a b : Nat) (ha : a < us.length) (hb : b < 6) (w : World) (hs : SeeI w B v us) (hB : B ≤ w.heap.size) : Calls Try.prog 58 #[.agg #[v], .int .i64 a, .int .i64 b] w (BoolOf w (upB us a b)) := by
  obtain ⟨A, c, rfl⟩ := hs.shape
  have hm := hs.1
  unfold maxLen at hm
  obtain ⟨g, o, u, rfl, -, hu, hcu⟩ := (hs.alloc hB (.cells #[.slice A us.length c] 30)).at_ ha
  have HU : Hid (upB us a b = bitB u b) := Lib.hid (by simp [upB, hu])
  clear hu
  rw [HU.out]
  go_enter Try.func58, Try.ntmps58
  go_wp2_with fail
  refine (l1Has_any _ _ (by omega) (by omega) _).mono ?_
  rintro e w' ⟨rfl, rfl⟩
  go_wp2_with fail
  go_ret
  exact ⟨rfl, (Below.refl _ _).alloc (Nat.le_refl _) _⟩

def downK (us : List Int) (b k : Nat) : Nat → Bool := fun a => decide (a < k) && upB us a b
theorem downK_yes {us : List Int} {b k : Nat} (hk : k < 6) (h : upB us k b = true) : bits BinOp.or IntKind.i64 (setN (downK us b k)) (2 ^ k) = setN (downK us b (k + 1)) := by
  have := setN_or (downK us b k) k hk
  rw [show wrap64 (2 ^ k) = 2 ^ k from by have := (bit_small k (by omega) (by omega)).1; simpa using this] at this
  rw [this]
  refine setN_congr fun x hx => ?_
  simp only [downK]
  by_cases e : x = k
  · subst e; simp [h]
  · have : (x < k + 1) = (x < k) := propext ⟨fun _ => by omega, fun _ => by omega⟩
    have e2 : (x == k) = false := by simpa using e
    simp [this, e2]
theorem downK_no {us : List Int} {b k : Nat} (h : upB us k b = false) : setN (downK us b k) = setN (downK us b (k + 1)) := by
  refine setN_congr fun x hx => ?_
  simp only [downK]
  by_cases e : x = k
  · subst e; simp [h]
  · have : (x < k + 1) = (x < k) := propext ⟨fun _ => by omega, fun _ => by omega⟩
    simp [this]

set_option maxHeartbeats 1000000 in
theorem l2Downs_any (B : Nat) (v : Value) (us : List Int) (b : Nat) (hl : us.length ≤ 6) (hb : b < 6) (w : World) (hs : SeeI w B v us) (hB : B ≤ w.heap.size) : Calls Try.prog 75 #[.agg #[v], .int .i64 b] w (IntOf w (setN (downK us b us.length))) := by
  obtain ⟨A, c, rfl⟩ := hs.shape
  have hs1 := hs.alloc hB (.cells #[.slice A us.length c] 30)
  have c0 : (w.alloc (.cells #[.slice A us.length c] 30)).cell? ⟨w.heap.size, 0, none⟩ = some (.slice A us.length c) := cell_of_row _ _ 0 _ _ (0, 0) (heap_alloc_new _ _)
  have b0 : Below w.heap.size w (w.alloc (.cells #[.slice A us.length c] 30)) := (Below.refl _ _).alloc (Nat.le_refl _) _
  have z0 : w.heap.size < (w.alloc (.cells #[.slice A us.length c] 30)).heap.size := by simp
  have e0 : setN (downK us b 0) = 0 := by
    have : setN (downK us b 0) = setN (fun _ => false) := setN_congr fun x _ => by simp [downK]
    rw [this]; decide +kernel
  go_enter Try.func75, Try.ntmps75
  have E0 := Lib.hid e0
  clear e0
  go_wp2_with fail
  generalize w.alloc _ = W at hs1 c0 b0 z0 ⊢
  go_loopw [5, 6] (fun s i wr => ∃ k : Nat, k ≤ us.length ∧ i = .int .i64 k ∧ s = .int .i64 (setN (downK us b k)) ∧ wr.cell? ⟨w.heap.size, 0, none⟩ = some (.slice A us.length c) ∧ SeeI wr B (.slice A us.length c) us ∧ Below w.heap.size w wr ∧ w.heap.size < wr.heap.size) (fun _ i _ => us.length - (intOf i).toNat)
  case atStart => exact ⟨0, Nat.zero_le _, rfl, by rw [E0.out], c0, hs1, b0, z0⟩
  case round =>
    obtain ⟨k, hk, rfl, rfl, c1, s1, b1, g1⟩ := hrel
    clear c0 hs1 b0 z0
    by_cases hlt : k < us.length
    · cases hp : upB us k b
      · have R := Lib.hid (downK_no hp)
        go_wp2_with fail
        refine (l2Below_any B _ us k b hlt hb _ s1 (by omega)).mono ?_
        rintro e w2 ⟨rfl, hb2⟩
        rw [hp]
        have c2 := (hb2.cell (p := ⟨w.heap.size, 0, none⟩) (by simp; omega)).trans c1
        go_wp2_with fail
        go_roundw
        case rel => exact ⟨k + 1, by omega, by go_num, by rw [R.out], c2, s1.below (hb2.mono (by omega)), below_then b1 hb2 (Nat.le_refl _), Nat.lt_of_lt_of_le g1 hb2.size⟩
        case measure => simp [intOf]; omega
      · have R := Lib.hid (downK_yes (by omega) hp)
        go_wp2_with fail
        refine (l2Below_any B _ us k b hlt hb _ s1 (by omega)).mono ?_
        rintro e w2 ⟨rfl, hb2⟩
        rw [hp]
        have c2 := (hb2.cell (p := ⟨w.heap.size, 0, none⟩) (by simp; omega)).trans c1
        go_wp2_with fail
        refine (l1Bit_any _ (by omega) (by omega) _).mono ?_
        rintro e w' ⟨rfl, rfl⟩
        rw [Int.toNat_natCast]
        go_wp2_with fail
        rw [R.out]
        go_roundw
        case rel => exact ⟨k + 1, by omega, by go_num, rfl, c2, s1.below (hb2.mono (by omega)), below_then b1 hb2 (Nat.le_refl _), Nat.lt_of_lt_of_le g1 hb2.size⟩
        case measure => simp [intOf]; omega
    · obtain rfl : k = us.length := by omega
      go_wp2_with fail
      go_ret
      exact ⟨rfl, b1⟩

end Go.Proofs.Ytigcbegeaikfcaa
