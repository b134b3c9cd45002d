/- The walk of the law FnJoinAll, whatever order and set are drawn. -/
import Derived.Test.YtkpaidadofmpfaaLatX
import Derived.Test.YtkpaidadofmpfaaLatY
namespace Go.Proofs.Ytkpaidadofmpfaa
open Go.RowKit
set_option linter.unusedVariables false

theorem rep_all {us ms : List Int} (h : latS us = true) (hm : ∀ x ∈ ms, ∃ m : Nat, x = m ∧ m < us.length) : ∃ r, Rep us r (aboveR us ms) := by
  have key : ∀ k, k ≤ ms.length → ∃ r, Rep us r (aboveR us (ms.take k)) := by
    intro k
    induction k with
    | zero => intro _; rw [List.take_zero]; exact rep_bottom h
    | succ k ih =>
      intro hk
      obtain ⟨r, hr⟩ := ih (by omega)
      have hx : ms[k]? = some ms[k] := List.getElem?_eq_getElem (by omega)
      obtain ⟨m, e, hmn⟩ := hm ms[k] (List.getElem_mem _)
      rw [e] at hx
      obtain ⟨c, hc, _⟩ := rep_step h hr hmn
      refine ⟨c, ?_⟩
      rw [List.take_add_one, hx]
      exact hc
  obtain ⟨r, hr⟩ := key ms.length (Nat.le_refl _)
  rw [List.take_length] at hr
  exact ⟨r, hr⟩
/-- All of ms are below k. -/
def allB' (us : List Int) (k : Int) (ms : List Int) : Bool := ms.all fun m => belowS us m k
theorem all_bot {us : List Int} (h : latS us = true) {k : Nat} (hk : k < us.length) : belowS us (joinAllS us 0) k = true := by
  have hP := lat_ord h
  obtain ⟨z, hz⟩ := rep_bottom h
  have h6 := hP.len.2
  have e : joinAllS us 0 = (z : Int) := by rw [bottom_eq, h, if_pos rfl, ← above_nil]; exact rep_least hP hz
  rw [e, below_up ((ordS_iff us).2 hP) hz.lt hk, hz.ups k (by omega), above_nil]
  simpa using hk
theorem all_up {us : List Int} (h : latS us = true) {s : Int} (h0 : 0 ≤ joinAllS us s) {k : Nat} (hk : k < us.length) : belowS us (joinAllS us s) k = allB' us k (memB s) := by
  have hP := lat_ord h
  have ho := (ordS_iff us).2 hP
  have h6 := hP.len.2
  have hp := pow_le64 h6
  by_cases hs : 0 ≤ s ∧ s ≤ 2 ^ us.length - 1
  · have hm : ∀ x ∈ sel (bitB s) 6, ∃ m : Nat, x = m ∧ m < us.length := fun x hx => members_lt hP hs.1 hs.2 hx
    obtain ⟨r, hr⟩ := rep_all h hm
    have e : joinAllS us s = (r : Int) := by rw [joinAllS_yes h hs]; exact rep_least hP hr
    rw [e, below_up ho hr.lt hk, hr.ups k (by omega), memB_yes (inB_yes (by omega))]
    rw [Bool.eq_iff_iff]
    simp only [aboveR, allB', Bool.and_eq_true, decide_eq_true_eq, List.all_eq_true]
    constructor
    · rintro ⟨_, q⟩ x hx
      obtain ⟨m, rfl, hmn⟩ := hm x hx
      have := q _ hx
      rw [Int.toNat_natCast] at this
      rw [below_up ho hmn hk]; exact this
    · intro q
      refine ⟨hk, fun x hx => ?_⟩
      have := q x hx
      obtain ⟨m, rfl, hmn⟩ := hm x hx
      rw [below_up ho hmn hk] at this
      rw [Int.toNat_natCast]; exact this
  · rw [joinAllS_no hs] at h0; omega
theorem all_snoc (us : List Int) (k : Int) (ms : List Int) (x : Int) : allB' us k (ms ++ [x]) = (allB' us k ms && belowS us x k) := by simp [allB']

set_option maxHeartbeats 8000000 in
set_option maxRecDepth 100000 in
theorem joinAll_core (A : Option Addr) (n c : Nat) (w : World) (hs : SeeB w w.heap.size A n) (hD : ¬ 4096 < n → Calls Try.prog 20 #[.slice A n c] w (AllDrawn w)) :
    Calls Try.prog 4 #[.slice A n c] w fun e w' => e = .returned (.bool true) ∧ Below w.heap.size w w' := by
  have hm := hs.1
  by_cases hbig : 4096 < n
  · have hd : decide (4096 < (n : Int)) = true := by simp; omega
    go_enter Try.func4, Try.ntmps4
    go_wp2_with fail
    refine (big_any _ _ _ _ hm).mono ?_
    rintro e w' ⟨rfl, rfl⟩
    go_wp2_with fail
    go_ret
    exact ⟨rfl, Below.refl _ _⟩
  · have hd : decide (4096 < (n : Int)) = false := by simp; omega
    have hD := hD hbig
    go_enter Try.func4, Try.ntmps4
    go_wp2_with fail
    refine (big_any _ _ _ _ hm).mono ?_
    rintro e w' ⟨rfl, rfl⟩
    clear hm
    go_wp2_with fail
    refine hD.mono ?_
    rintro e w1 ⟨v, us, s, rfl, hl, hs1, b1⟩
    clear hD hs hd
    have S1 := Sj.new hs1 b1 26
    have c1 := S1.cell
    have G1 := S1.lt
    obtain ⟨A1, q1, rfl⟩ := hs1.shape
    generalize hp : joinAllS us s = j
    have HJ := Lib.hid hp
    clear hs1 b1 hp
    go_wp2_with fail
    generalize w1.alloc _ = W1 at S1 c1 G1 ⊢
    generalize w1.heap.size = o at S1 c1 G1 ⊢
    refine (iJoinAll_any o _ us s _ S1.see (Nat.le_of_lt G1)).mono ?_
    rintro e w2 ⟨rfl, b2⟩
    have S2 := S1.next b2
    have c2 := S2.cell
    clear c1 G1 S1 b2
    rw [HJ.out]
    generalize hdd : joinAllS us 0 = bt
    have HB := Lib.hid hdd
    clear hdd
    go_wp2_with fail
    refine (iBottomOf_any o _ us _ S2.see (Nat.le_of_lt S2.lt)).mono ?_
    rintro e w3 ⟨rfl, b3⟩
    have S3 := S2.next b3
    have c3 := S3.cell
    clear c2 S2 b3
    rw [HB.out]
    have hj : (j != j) = false := by simp
    have hbt : (bt != bt) = false := by simp
    go_wp2_with fail
    refine (sJoinAll_any o _ us s _ S3.see (Nat.le_of_lt S3.lt)).mono ?_
    rintro e w4 ⟨rfl, b4⟩
    have S4 := S3.next b4
    have c4 := S4.cell
    clear c3 S3 b4
    rw [HJ.out]
    go_wp2_with fail
    refine (sBottomOf_any o _ us _ S4.see (Nat.le_of_lt S4.lt)).mono ?_
    rintro e w5 ⟨rfl, b5⟩
    have S5 := S4.next b5
    have c5 := S5.cell
    clear c4 S4 b5
    rw [HB.out]
    go_wp2_with fail
    refine (sLatticeOk_any o _ us _ S5.see (Nat.le_of_lt S5.lt)).mono ?_
    rintro e w6 ⟨rfl, b6⟩
    have S6 := S5.next b6
    have c6 := S6.cell
    clear c5 S5 b6
    cases hlat : latS us with
    | false =>
      obtain rfl : j = -1 := by rw [← HJ.out, joinAllS_not s hlat]
      obtain rfl : bt = -1 := by rw [← HB.out, joinAllS_not 0 hlat]
      go_wp2_with fail
      go_ret
      exact ⟨rfl, S6.old⟩
    | true =>
      have F1 : Hid (∀ k : Nat, k < us.length → belowS us bt k = true) := Lib.hid fun k hk => by rw [← HB.out]; exact all_bot hlat hk
      have F2 : Hid (∀ k : Nat, k < us.length → 0 ≤ j → belowS us j k = allB' us k (memB s)) := Lib.hid fun k hk h => by rw [← HJ.out] at h ⊢; exact all_up hlat h hk
      have hml := memB_le s
      clear HJ hlat
      go_wp2_with fail
      go_loopw [7] (fun i wr => ∃ k : Nat, k ≤ us.length ∧ i = .int .i64 k ∧ Sj w o (.slice A1 us.length q1) us wr) (fun i _ => us.length - (intOf i).toNat)
      case atStart => exact ⟨0, Nat.zero_le _, rfl, S6⟩
      case round =>
        obtain ⟨k, hk, rfl, S7⟩ := hrel
        obtain ⟨wo, rfl⟩ : ∃ x, x = wr := ⟨_, rfl⟩
        clear S6 c6
        have c7 := S7.cell
        by_cases hlt : k < us.length
        · have E1 := Lib.hid (F1.out k hlt)
          have E2 := Lib.hid (F2.out k hlt)
          clear F1 F2
          go_wp2_with fail
          refine (sBelow_any o _ us _ _ _ S7.see (Nat.le_of_lt S7.lt)).mono ?_
          rintro e w8 ⟨rfl, b8⟩
          rw [E1.out]
          have S8 := S7.next b8
          have c8 := S8.cell
          clear S7 c7 b8
          go_wp2_with fail
          refine (sMembers_any _ _).mono ?_
          rintro e w9 ⟨v9, rfl, o9, b9⟩
          have S9 := S8.next b9
          have m9 := o9.see
          clear S8 c8 b9 o9
          generalize memB s = ms at m9 E2 hml
          obtain ⟨A9, q9, rfl⟩ := m9.shape
          go_wp2_with fail
          go_loopw [8, 10] (fun t i wr => ∃ q : Nat, q ≤ ms.length ∧ i = .int .i64 q ∧ t = .bool (allB' us k (ms.take q)) ∧ Sj w o (.slice A1 us.length q1) us wr ∧ Below w9.heap.size w9 wr) (fun _ i _ => ms.length - (intOf i).toNat)
          case atStart => exact ⟨0, Nat.zero_le _, rfl, rfl, S9, Below.refl _ _⟩
          case round =>
            obtain ⟨q, hq, rfl, rfl, S10, d10⟩ := hrel
            clear S9
            have c10 := S10.cell
            by_cases hqt : q < ms.length
            · obtain ⟨g, o', x, rfl, -, hx, hcx⟩ := (m9.below d10).at_ hqt
              have HT : Hid (allB' us k (ms.take (q + 1)) = (allB' us k (ms.take q) && belowS us x k)) := Lib.hid (by rw [List.take_add_one, hx]; exact all_snoc us k _ x)
              have T1 : Hid (∀ i : Later wr, Calls Try.prog 19 #[.agg #[.slice A1 us.length q1], .int .i64 x, .int .i64 k] i.now (BoolOf i.now (belowS us x k))) := Lib.hid fun i => by
                have := S10.next i.old; exact sBelow_any o _ us x k _ this.see (Nat.le_of_lt this.lt)
              have i1 : (q : Int) < ms.length := by omega
              clear hx
              cases ha : allB' us k (ms.take q)
              · rw [ha] at HT
                go_wp2_with fail
                have d0 := later_cell c10
                have dx := later_cell hcx
                refine region_later (by kernel_rfl) (by kernel_rfl) ?_
                repeat (go_big_quiet_step ((go_at_call 19; exact later_call (T1.out _))))
                refine wpQuiet_nil ?_
                rintro w11 ⟨⟨_, hbk⟩, rfl⟩
                go_wp2_with fail
                go_roundw
                case rel => exact ⟨q + 1, by omega, by go_num, by rw [HT.out]; rfl, S10.next hbk, below_then d10 hbk (Nat.le_refl _)⟩
                case measure => simp [intOf]; omega
              · rw [ha] at HT
                go_wp2_with fail
                have d0 := later_cell c10
                have dx := later_cell hcx
                refine region_later (by kernel_rfl) (by kernel_rfl) ?_
                repeat (go_big_quiet_step ((go_at_call 19; exact later_call (T1.out _))))
                refine wpQuiet_nil ?_
                rintro w11 ⟨⟨_, hbk⟩, rfl⟩
                go_wp2_with fail
                go_roundw
                case rel => exact ⟨q + 1, by omega, by go_num, by rw [HT.out]; rfl, S10.next hbk, below_then d10 hbk (Nat.le_refl _)⟩
                case measure => simp [intOf]; omega
            · obtain rfl : ms.length = q := by omega
              rw [List.take_length]
              generalize allB' us k ms = X at E2 ⊢
              have hX : (X != X) = false := by simp
              by_cases hj0 : 0 ≤ j
              · have e2 := Lib.hid (E2.out hj0)
                go_wp2_with fail
                refine (sBelow_any o _ us _ _ _ S10.see (Nat.le_of_lt S10.lt)).mono ?_
                rintro e w8 ⟨rfl, b8⟩
                rw [e2.out]
                have S11 := S10.next b8
                clear S10 c10 b8
                go_wp2_with fail
                go_roundw
                case rel => exact ⟨k + 1, by omega, by go_num, S11⟩
                case measure => simp [intOf]; omega
              · have hj' : decide (0 ≤ j) = false := decide_eq_false hj0
                go_wp2_with fail
                go_roundw
                case rel => exact ⟨k + 1, by omega, by go_num, S10⟩
                case measure => simp [intOf]; omega
        · clear F1 F2
          have hbb : (bt == bt) = true := by simp
          go_wp2_with fail
          refine (iJoinAll_any o _ us 0 _ S7.see (Nat.le_of_lt S7.lt)).mono ?_
          rintro e w8 ⟨rfl, b8⟩
          rw [HB.out]
          go_wp2_with fail
          go_ret
          exact ⟨rfl, (S7.next b8).old⟩

theorem joins_law (A : Option Addr) (n c : Nat) (w : World) (hs : SeeB w w.heap.size A n) : Calls Try.prog 3 #[.slice A n c] w fun e w' => e = .returned (.bool true) ∧ Below w.heap.size w w' :=
  joins_core A n c w hs fun h => drawJoin_any A n c (by omega) w hs
theorem joinAll_law' (A : Option Addr) (n c : Nat) (w : World) (hs : SeeB w w.heap.size A n) : Calls Try.prog 4 #[.slice A n c] w fun e w' => e = .returned (.bool true) ∧ Below w.heap.size w w' :=
  joinAll_core A n c w hs fun h => drawJoinAll_any A n c (by omega) w hs

end Go.Proofs.Ytkpaidadofmpfaa
