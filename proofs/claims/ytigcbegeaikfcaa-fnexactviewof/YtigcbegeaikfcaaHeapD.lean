/- container/heap at the heap of ranks: down and Pop. -/
import Derived.Test.YtigcbegeaikfcaaHeapC
namespace Go.Proofs.Ytigcbegeaikfcaa
open Go.RowKit
set_option linter.unusedVariables false

/-- On the way down: the last one stays where it is. -/
structure DnI (n : Nat) (r : Int) (xs : List Int) (k : Nat) : Prop where
  len : xs.length = n + 1
  ok : okR xs
  last : xs.getD n 0 = r
  le : k ≤ n
theorem DnI.step {n k q : Nat} {r : Int} {xs : List Int} (h : DnI n r xs k) (hk : k < n) (hq : q < n) : DnI n r (swapL xs k q) q := by
  have hl := h.len
  refine ⟨by rw [swapL_len, hl], fun y hy => h.ok y ((swapL_mem _ _ _ (by omega) (by omega) y).1 hy), ?_, by omega⟩
  rw [swapL_at _ _ _ _ (by omega) (by omega), if_neg (by omega), if_neg (by omega), h.last]

def DownOut (w : World) (B g : Nat) (v : Value) (R : Nat → Nat → Bool) (n : Nat) (r : Int) (e : Ending) (w' : World) : Prop :=
  ∃ b, e = .returned (.bool b) ∧ (∃ xs, HS w' B g v R xs ∧ xs.getD n 0 = r ∧ xs.length = n + 1) ∧ Upd B g w w'

set_option maxHeartbeats 4000000 in
set_option maxRecDepth 100000 in
theorem down_any (w : World) (B g : Nat) (v : Value) (R : Nat → Nat → Bool) (ys : List Int) (h : HS w B g v R ys) (n : Nat) (hn : n ≤ 100) (r : Int) (hd : DnI n r ys 0) :
    Calls Try.prog 97 #[waitI g, .int .i64 0, .int .i64 n] w (DownOut w B g v R n r) := by
  go_enter Try.func97, Try.ntmps97
  go_wp2_with fail
  go_loopw [7] (fun i wr => ∃ (k : Nat) (xs : List Int), i = .int .i64 k ∧ HS wr B g v R xs ∧ DnI n r xs k ∧ Upd B g w wr) (fun i _ => n - (intOf i).toNat)
  case atStart => exact ⟨0, ys, rfl, h, hd, Upd.refl _ _ _⟩
  case round =>
    obtain ⟨k, xs, rfl, h1, u1, d1⟩ := hrel
    clear h hd
    have HX := Lib.hid u1.ok
    have hlen := u1.len
    have hk := u1.le
    by_cases hj : 2 * k + 1 < n
    · by_cases hj2 : 2 * k + 2 < n
      · have L1 := Lib.hid (wLess_any wr B g v R xs h1 (2 * k + 2) (2 * k + 1) (by omega) (by omega) HX.out)
        simp only [show ((2 * k + 2 : Nat) : Int) = 2 * (k : Int) + 1 + 1 from by omega, show ((2 * k + 1 : Nat) : Int) = 2 * (k : Int) + 1 from by omega] at L1
        go_wp2_with fail
        refine L1.out.mono ?_
        rintro e w1 ⟨rfl, n1, rfl⟩
        have hq := h1.drewN n1
        have dq := d1.drewN n1
        generalize wr.drewN n1 = wq at hq dq ⊢
        cases b1 : decide (keyR R (xs.getD (2 * k + 1) 0) < keyR R (xs.getD (2 * k + 2) 0))
        · clear b1 L1
          have L2 := Lib.hid (wLess_any (wq) B g v R xs (hq) (2 * k + 1) k (by omega) (by omega) HX.out)
          have S2 := Lib.hid fun m => wSwap_any ((wq).drewN m) B g v R xs ((hq).drewN m) k (2 * k + 1) (by omega) (by omega)
          simp only [show ((2 * k + 1 : Nat) : Int) = 2 * (k : Int) + 1 from by omega] at L2 S2
          have U := Lib.hid (u1.step (q := 2 * k + 1) (by omega) (by omega))
          go_wp2_with fail
          refine L2.out.mono ?_
          rintro e w1 ⟨rfl, n2, rfl⟩
          cases b2 : decide (keyR R (xs.getD k 0) < keyR R (xs.getD (2 * k + 1) 0))
          · clear b2
            go_wp2_with fail
            go_ret
            exact ⟨_, rfl, ⟨xs, (hq).drewN n2, u1.last, u1.len⟩, (dq).drewN n2⟩
          · clear b2
            go_wp2_with fail
            refine (S2.out n2).mono ?_
            rintro e w2 ⟨rfl, h2, d2⟩
            go_wp2_with fail
            go_roundw
            case rel => exact ⟨2 * k + 1, _, by go_num, h2, U.out, ((dq).drewN n2).trans d2⟩
            case measure => simp [intOf]; omega
        · clear b1 L1
          have L2 := Lib.hid (wLess_any (wq) B g v R xs (hq) (2 * k + 2) k (by omega) (by omega) HX.out)
          have S2 := Lib.hid fun m => wSwap_any ((wq).drewN m) B g v R xs ((hq).drewN m) k (2 * k + 2) (by omega) (by omega)
          simp only [show ((2 * k + 2 : Nat) : Int) = 2 * (k : Int) + 1 + 1 from by omega] at L2 S2
          have U := Lib.hid (u1.step (q := 2 * k + 2) (by omega) (by omega))
          go_wp2_with fail
          refine L2.out.mono ?_
          rintro e w1 ⟨rfl, n2, rfl⟩
          cases b2 : decide (keyR R (xs.getD k 0) < keyR R (xs.getD (2 * k + 2) 0))
          · clear b2
            go_wp2_with fail
            go_ret
            exact ⟨_, rfl, ⟨xs, (hq).drewN n2, u1.last, u1.len⟩, (dq).drewN n2⟩
          · clear b2
            go_wp2_with fail
            refine (S2.out n2).mono ?_
            rintro e w2 ⟨rfl, h2, d2⟩
            go_wp2_with fail
            go_roundw
            case rel => exact ⟨2 * k + 2, _, by go_num, h2, U.out, ((dq).drewN n2).trans d2⟩
            case measure => simp [intOf]; omega
      · skip
        have L2 := Lib.hid (wLess_any (wr) B g v R xs (h1) (2 * k + 1) k (by omega) (by omega) HX.out)
        have S2 := Lib.hid fun m => wSwap_any ((wr).drewN m) B g v R xs ((h1).drewN m) k (2 * k + 1) (by omega) (by omega)
        simp only [show ((2 * k + 1 : Nat) : Int) = 2 * (k : Int) + 1 from by omega] at L2 S2
        have U := Lib.hid (u1.step (q := 2 * k + 1) (by omega) (by omega))
        go_wp2_with fail
        refine L2.out.mono ?_
        rintro e w1 ⟨rfl, n2, rfl⟩
        cases b2 : decide (keyR R (xs.getD k 0) < keyR R (xs.getD (2 * k + 1) 0))
        · clear b2
          go_wp2_with fail
          go_ret
          exact ⟨_, rfl, ⟨xs, (h1).drewN n2, u1.last, u1.len⟩, (d1).drewN n2⟩
        · clear b2
          go_wp2_with fail
          refine (S2.out n2).mono ?_
          rintro e w2 ⟨rfl, h2, d2⟩
          go_wp2_with fail
          go_roundw
          case rel => exact ⟨2 * k + 1, _, by go_num, h2, U.out, ((d1).drewN n2).trans d2⟩
          case measure => simp [intOf]; omega
    · go_wp2_with fail
      go_ret
      exact ⟨_, rfl, ⟨xs, h1, u1.last, u1.len⟩, d1⟩

set_option maxHeartbeats 2000000 in
set_option maxRecDepth 100000 in
theorem hPop_any (w : World) (B g : Nat) (v : Value) (R : Nat → Nat → Bool) (ys : List Int) (h : HS w B g v R ys) (n : Nat) (hn : n ≤ 100) (hl : ys.length = n + 1) (hx : okR ys) :
    Calls Try.prog 95 #[waitI g] w fun e w' => e = .returned (.iface 2 (.int .i64 (ys.getD 0 0))) ∧ Upd B g w w' := by
  have D1 : Hid (DnI n (ys.getD 0 0) (swapL ys 0 n) 0) := Lib.hid ⟨by rw [swapL_len, hl], fun y hy => hx y ((swapL_mem _ _ _ (by omega) (by omega) y).1 hy), by rw [swapL_at _ _ _ _ (by omega) (by omega), if_pos rfl], by omega⟩
  generalize ys.getD 0 0 = r at D1 ⊢
  go_enter Try.func95, Try.ntmps95
  go_wp2_with fail
  refine (wLen_any w B g v R _ h).mono ?_
  rintro e w' ⟨rfl, rfl⟩
  rw [show (ys.length : Int) = (n : Int) + 1 from by omega]
  go_wp2_with fail
  refine (wSwap_any w B g v R ys h 0 n (by omega) (by omega)).mono ?_
  rintro e w1 ⟨rfl, h1, d1⟩
  go_wp2_with fail
  refine (down_any w1 B g v R _ h1 n hn _ D1.out).mono ?_
  rintro e w2 ⟨b, rfl, ⟨xs, h2, r2, l2⟩, d2⟩
  go_wp2_with fail
  refine (wPop_any w2 B g v R _ h2 n l2).mono ?_
  rw [r2]
  rintro e w3 ⟨rfl, d3⟩
  go_wp2_with fail
  go_ret
  exact ⟨rfl, (d1.trans d2).trans d3⟩

end Go.Proofs.Ytigcbegeaikfcaa
