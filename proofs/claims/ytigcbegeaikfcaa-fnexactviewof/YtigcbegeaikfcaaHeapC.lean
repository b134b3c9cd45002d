/- container/heap at the heap of ranks: up, down, Push, Pop. -/
import Derived.Test.YtigcbegeaikfcaaHeapM
namespace Go.Proofs.Ytigcbegeaikfcaa
open Go.RowKit
set_option linter.unusedVariables false

abbrev waitI (g : Nat) : Value := .iface 97 (.pointer (some ⟨g, 0, none⟩))
def okR (xs : List Int) : Prop := ∀ x ∈ xs, 0 ≤ x ∧ x < 6

set_option maxHeartbeats 2000000 in
set_option maxRecDepth 100000 in
theorem up_any (w : World) (B g : Nat) (v : Value) (R : Nat → Nat → Bool) (ys : List Int) (h : HS w B g v R ys) (hx : okR ys) (hl : ys.length ≤ 100) (m x : Int) (j : Nat) (hu : UpI R ys m x ys j) :
    Calls Try.prog 96 #[waitI g, .int .i64 j] w fun e w' => e = .returned (.tuple #[]) ∧ ∃ xs, HS w' B g v R xs ∧ xs.length = ys.length ∧ (∀ y, y ∈ xs ↔ y ∈ ys) ∧ topR R xs ∧ Upd B g w w' := by
  go_enter Try.func96, Try.ntmps96
  go_wp2_with fail
  go_loopw [1] (fun j wr => ∃ (k : Nat) (xs : List Int), j = .int .i64 k ∧ HS wr B g v R xs ∧ UpI R ys m x xs k ∧ Upd B g w wr) (fun j _ => (intOf j).toNat)
  case atStart => exact ⟨j, ys, rfl, h, hu, Upd.refl _ _ _⟩
  case round =>
    obtain ⟨k, xs, rfl, h1, u1, d1⟩ := hrel
    clear h hu
    have HX : Hid (∀ x ∈ xs, 0 ≤ x ∧ x < 6) := Lib.hid fun y hy => hx y ((u1.mem y).1 hy)
    have hlen := u1.len
    have hk := u1.lt
    cases k with
    | zero =>
      go_wp2_with fail
      go_returns
      exact ⟨rfl, xs, h1, hlen, u1.mem, u1.stop0, d1⟩
    | succ k =>
      have e1 : ((k + 1 : Nat) : Int) = (k : Int) + 1 := by omega
      have e2 : ((k / 2 : Nat) : Int) = (k : Int) / 2 := by omega
      have L1 := Lib.hid (wLess_any wr B g v R xs h1 (k + 1) (k / 2) hk (by omega) HX.out)
      rw [e1, e2] at L1
      have S1 := Lib.hid fun n => wSwap_any (wr.drewN n) B g v R xs (h1.drewN n) (k / 2) (k + 1) (by omega) hk
      simp only [e1, e2] at S1
      have E2 := Lib.hid e2
      clear e1 e2
      by_cases hl2 : keyR R (xs.getD (k / 2) 0) < keyR R (xs.getD (k + 1) 0)
      · have U := Lib.hid (u1.step hl2)
        have L2 : Hid (decide (keyR R (xs.getD (k / 2) 0) < keyR R (xs.getD (k + 1) 0)) = true) := Lib.hid (decide_eq_true hl2)
        clear hl2
        go_wp2_with fail
        refine L1.out.mono ?_
        rintro e w1 ⟨rfl, n, rfl⟩
        rw [L2.out]
        go_wp2_with fail
        refine (S1.out n).mono ?_
        rintro e w2 ⟨rfl, h2, d2⟩
        go_wp2_with fail
        go_roundw
        case rel => exact ⟨k / 2, _, by rw [E2.out], h2, U.out, d1.trans (((Upd.refl B g wr).drewN n).trans d2)⟩
        case measure => simp [intOf]; omega
      · have U := Lib.hid (u1.stop hl2)
        have L2 : Hid (decide (keyR R (xs.getD (k / 2) 0) < keyR R (xs.getD (k + 1) 0)) = false) := Lib.hid (decide_eq_false hl2)
        clear hl2
        go_wp2_with fail
        refine L1.out.mono ?_
        rintro e w1 ⟨rfl, n, rfl⟩
        rw [L2.out]
        go_wp2_with fail
        go_returns
        exact ⟨rfl, xs, h1.drewN n, hlen, u1.mem, U.out, d1.drewN n⟩

set_option maxHeartbeats 2000000 in
set_option maxRecDepth 100000 in
theorem hPush_any (w : World) (B g : Nat) (v : Value) (R : Nat → Nat → Bool) (ys : List Int) (h : HS w B g v R ys) (hB : B ≤ w.heap.size) (hx : okR ys) (hl : ys.length ≤ 99) (ht : topR R ys) (x : Int) (h0 : 0 ≤ x ∧ x < 6) :
    Calls Try.prog 93 #[waitI g, .iface 2 (.int .i64 x)] w fun e w' => e = .returned (.tuple #[]) ∧ ∃ v' xs, HS w' B g v' R xs ∧ xs.length = ys.length + 1 ∧ (∀ y, y ∈ xs ↔ y ∈ ys ++ [x]) ∧ topR R xs ∧ Upd B g w w' := by
  have HK : Hid (okR (ys ++ [x])) := Lib.hid (by intro y hy; rcases List.mem_append.1 hy with h | h; exact hx y h; rw [List.mem_singleton] at h; subst h; exact h0)
  go_enter Try.func93, Try.ntmps93
  go_wp2_with fail
  refine (wPush_any w B g v R ys h hB (by omega) x).mono ?_
  rintro e w1 ⟨rfl, v', h1, d1⟩
  go_wp2_with fail
  refine (wLen_any w1 B g v' R _ h1).mono ?_
  rintro e w' ⟨rfl, rfl⟩
  have el : ((ys ++ [x]).length : Int) = (ys.length : Int) + 1 := by simp
  rw [el]
  go_wp2_with fail
  refine (up_any w1 B g v' R _ h1 HK.out (by simp; omega) _ x ys.length (UpI.start x ht)).mono ?_
  rintro e w2 ⟨rfl, xs, h2, l2, m2, t2, d2⟩
  go_wp2_with fail
  go_returns
  exact ⟨rfl, v', xs, h2, by simpa using l2, m2, t2, d1.trans d2⟩

end Go.Proofs.Ytigcbegeaikfcaa
