/- The walk of the law FnJoins, whatever order is drawn. -/
import Derived.Test.YtkpaidadofmpfaaLatW
import Derived.Test.YtkpaidadofmpfaaLatG
import Derived.Test.YtkpaidadofmpfaaSetF
import Derived.Deep.CutRange
namespace Go.Proofs.Ytkpaidadofmpfaa
open Go.RowKit
set_option linter.unusedVariables false

/-- The order lies in a variable, its row older. -/
structure Sj (w0 : World) (o : Nat) (v : Value) (us : List Int) (W : World) : Prop where
  cell : W.cell? ⟨o, 0, none⟩ = some v
  see : SeeI W o v us
  lt : o < W.heap.size
  old : Below w0.heap.size w0 W
theorem Sj.next {w0 W W' : World} {o : Nat} {v : Value} {us : List Int} (h : Sj w0 o v us W) (hb : Below W.heap.size W W') : Sj w0 o v us W' :=
  ⟨(hb.cell (p := ⟨o, 0, none⟩) h.lt).trans h.cell, h.see.below (hb.mono (Nat.le_of_lt h.lt)), Nat.lt_of_lt_of_le h.lt hb.size, below_then h.old hb (Nat.le_refl _)⟩
theorem Sj.new {w0 w1 : World} {v : Value} {us : List Int} (h : SeeI w1 w1.heap.size v us) (hb : Below w0.heap.size w0 w1) (t : TypeId) : Sj w0 w1.heap.size v us (w1.alloc (.cells #[v] t)) :=
  ⟨cell_of_row _ _ 0 _ _ (0, 0) (heap_alloc_new _ _), h.alloc (Nat.le_refl _) _, by simp, hb.alloc hb.size _⟩
theorem isR_bad {us : List Int} {a : Int} (h : isR us a = false) : a < 0 ∨ (0 ≤ a ∧ ¬ a < us.length) := by
  simp only [isR, decide_eq_false_iff_not] at h
  omega

set_option maxHeartbeats 8000000 in
set_option maxRecDepth 100000 in
theorem joins_core (A : Option Addr) (n c : Nat) (w : World) (hs : SeeB w w.heap.size A n) (hD : ¬ 4096 < n → Calls Try.prog 11 #[.slice A n c] w (BelowDrawn w)) :
    Calls Try.prog 3 #[.slice A n c] w fun e w' => e = .returned (.bool true) ∧ Below w.heap.size w w' := by
  have hm := hs.1
  by_cases hbig : 4096 < n
  · have hd : decide (4096 < (n : Int)) = true := by simp; omega
    go_enter Try.func3, Try.ntmps3
    go_wp2_with fail
    refine (big_any _ _ _ _ hm).mono ?_
    rintro e w' ⟨rfl, rfl⟩
    go_wp2_with fail
    go_ret
    exact ⟨rfl, Below.refl _ _⟩
  · have hd : decide (4096 < (n : Int)) = false := by simp; omega
    have hD := hD hbig
    go_enter Try.func3, Try.ntmps3
    go_wp2_with fail
    refine (big_any _ _ _ _ hm).mono ?_
    rintro e w' ⟨rfl, rfl⟩
    clear hm
    go_wp2_with fail
    refine hD.mono ?_
    rintro e w1 ⟨v, us, a, b, rfl, hl, hs1, b1⟩
    clear hD hs hd
    have S1 := Sj.new hs1 b1 26
    have c1 := S1.cell
    have G1 := S1.lt
    obtain ⟨A1, q1, rfl⟩ := hs1.shape
    generalize hp : joinS us a b = j
    have HJ := Lib.hid hp
    clear hs1 b1 hp
    go_wp2_with fail
    generalize w1.alloc _ = W1 at S1 c1 G1 ⊢
    generalize w1.heap.size = o at S1 c1 G1 ⊢
    refine (iJoin_any o _ us a b _ S1.see (Nat.le_of_lt G1)).mono ?_
    rintro e w2 ⟨rfl, b2⟩
    have S2 := S1.next b2
    have c2 := S2.cell
    clear c1 G1 S1 b2
    rw [HJ.out]
    generalize hdd : meetS us a b = m
    have HM := Lib.hid hdd
    clear hdd
    go_wp2_with fail
    refine (iMeet_any o _ us a b _ S2.see (Nat.le_of_lt S2.lt)).mono ?_
    rintro e w3 ⟨rfl, b3⟩
    have S3 := S2.next b3
    have c3 := S3.cell
    clear c2 S2 b3
    rw [HM.out]
    generalize hlt : latS us = lt
    generalize ho : ordS us = od
    have HT := Lib.hid hlt
    have HO := Lib.hid ho
    clear hlt ho
    have T1 : Hid (∀ i : Later w3, Calls Try.prog 14 #[.agg #[.slice A1 us.length q1], .int .i64 a, .int .i64 b] i.now (IntOf i.now j)) := Lib.hid fun i => by
      have := S3.next i.old; rw [← HJ.out]; exact sJoin_any o _ us a b _ this.see (Nat.le_of_lt this.lt)
    have T2 : Hid (∀ i : Later w3, Calls Try.prog 15 #[.agg #[.slice A1 us.length q1], .int .i64 a, .int .i64 b] i.now (IntOf i.now m)) := Lib.hid fun i => by
      have := S3.next i.old; rw [← HM.out]; exact sMeet_any o _ us a b _ this.see (Nat.le_of_lt this.lt)
    have T3 : Hid (∀ i : Later w3, Calls Try.prog 12 #[.agg #[.slice A1 us.length q1], .int .i64 b, .int .i64 a] i.now (IntOf i.now j)) := Lib.hid fun i => by
      have := S3.next i.old; rw [← HJ.out, j_comm]; exact iJoin_any o _ us b a _ this.see (Nat.le_of_lt this.lt)
    have T4 : Hid (∀ i : Later w3, Calls Try.prog 13 #[.agg #[.slice A1 us.length q1], .int .i64 b, .int .i64 a] i.now (IntOf i.now m)) := Lib.hid fun i => by
      have := S3.next i.old; rw [← HM.out, m_comm]; exact iMeet_any o _ us b a _ this.see (Nat.le_of_lt this.lt)
    have T5 : Hid (∀ i : Later w3, Calls Try.prog 16 #[.agg #[.slice A1 us.length q1]] i.now (BoolOf i.now lt)) := Lib.hid fun i => by
      have := S3.next i.old; rw [← HT.out]; exact iLatticeOk_any o _ us _ this.see (Nat.le_of_lt this.lt)
    have T6 : Hid (∀ i : Later w3, Calls Try.prog 17 #[.agg #[.slice A1 us.length q1]] i.now (BoolOf i.now lt)) := Lib.hid fun i => by
      have := S3.next i.old; rw [← HT.out]; exact sLatticeOk_any o _ us _ this.see (Nat.le_of_lt this.lt)
    have d3 := later_cell c3
    go_wp2_with fail
    refine region_later (by kernel_rfl) (by kernel_rfl) ?_
    repeat (go_big_quiet_step (first | (go_at_call 14; exact later_call (T1.out _)) | (go_at_call 15; exact later_call (T2.out _)) | (go_at_call 12; exact later_call (T3.out _)) | (go_at_call 13; exact later_call (T4.out _)) | (go_at_call 16; exact later_call (T5.out _)) | (go_at_call 17; exact later_call (T6.out _))))
    refine wpQuiet_nil ?_
    rintro w4 ⟨⟨_, hbk⟩, rfl⟩
    have S4 := S3.next hbk
    have c4 := S4.cell
    clear T1 T2 T3 T4 T5 T6 d3 c3 S3 hbk
    go_wp2_with fail
    refine (sOrderOk_any o _ us _ S4.see (Nat.le_of_lt S4.lt)).mono ?_
    rintro e w5 ⟨rfl, b5⟩
    have S5 := S4.next b5
    have c5 := S5.cell
    clear c4 S4 b5
    rw [HO.out]
    cases od with
    | false =>
      obtain ⟨h1, h2⟩ := jm_none (us := us) (a := a) (b := b) (by simp [HO.out])
      obtain rfl : j = -1 := by rw [← HJ.out, h1]
      obtain rfl : m = -1 := by rw [← HM.out, h2]
      clear h1 h2
      go_wp2_with fail
      go_ret
      exact ⟨rfl, S5.old⟩
    | true =>
      cases ra : isR us a
      · obtain ⟨h1, h2⟩ := jm_none (us := us) (a := a) (b := b) (by simp [HO.out, ra])
        obtain rfl : j = -1 := by rw [← HJ.out, h1]
        obtain rfl : m = -1 := by rw [← HM.out, h2]
        clear h1 h2
        rcases isR_bad ra with h | ⟨h, h'⟩
        · go_wp2_with fail
          go_ret
          exact ⟨rfl, S5.old⟩
        · go_wp2_with fail
          go_ret
          exact ⟨rfl, S5.old⟩
      · obtain ⟨x, rfl, hx⟩ := isR_nat ra
        cases rb : isR us b
        · obtain ⟨h1, h2⟩ := jm_none (us := us) (a := (x : Int)) (b := b) (by simp [HO.out, rb])
          obtain rfl : j = -1 := by rw [← HJ.out, h1]
          obtain rfl : m = -1 := by rw [← HM.out, h2]
          clear h1 h2
          rcases isR_bad rb with h | ⟨h, h'⟩
          · go_wp2_with fail
            go_ret
            exact ⟨rfl, S5.old⟩
          · go_wp2_with fail
            go_ret
            exact ⟨rfl, S5.old⟩
        · obtain ⟨y, rfl, hy⟩ := isR_nat rb
          clear ra rb
          have F1 : Hid (∀ k : Nat, k < us.length → 0 ≤ j → belowS us j k = (belowS us x k && belowS us y k)) := Lib.hid fun k hk h => by rw [← HJ.out] at h ⊢; exact (j_up HO.out hx hy hk h).symm
          have F2 : Hid (∀ k : Nat, k < us.length → 0 ≤ m → belowS us k m = (belowS us k x && belowS us k y)) := Lib.hid fun k hk h => by rw [← HM.out] at h ⊢; exact (m_down HO.out hx hy hk h).symm
          have F3 : Hid (lt = true → 0 ≤ j ∧ 0 ≤ m ∧ meetS us x j = x ∧ joinS us x m = x) := Lib.hid fun h => by rw [← HJ.out, ← HM.out]; exact lat_all (HT.out.trans h) hx hy
          have F4 : Hid ((j == (y : Int)) = belowS us x y) := Lib.hid (by rw [← HJ.out]; exact j_eq HO.out hx hy)
          have F5 : Hid ((m == (x : Int)) = belowS us x y) := Lib.hid (by rw [← HM.out]; exact m_eq HO.out hx hy)
          clear HJ HM HO
          have n1 : decide ((x : Int) < 0) = false := decide_eq_false (by omega)
          have n2 : decide (us.length ≤ x) = false := decide_eq_false (by omega)
          have n3 : decide ((y : Int) < 0) = false := decide_eq_false (by omega)
          have n4 : decide (us.length ≤ y) = false := decide_eq_false (by omega)
          go_wp2_with fail
          go_loopw [9] (fun i wr => ∃ k : Nat, k ≤ us.length ∧ i = .int .i64 k ∧ Sj w o (.slice A1 us.length q1) us wr) (fun i _ => us.length - (intOf i).toNat)
          case atStart => exact ⟨0, Nat.zero_le _, rfl, S5⟩
          case round =>
            obtain ⟨k, hk, rfl, S7⟩ := hrel
            obtain ⟨wo, rfl⟩ : ∃ x, x = wr := ⟨_, rfl⟩
            clear S5 c5
            have c7 := S7.cell
            by_cases hlt : k < us.length
            · have E1 := Lib.hid (F1.out k hlt)
              have E2 := Lib.hid (F2.out k hlt)
              clear F1 F2 F3 F4 F5
              go_upto_region 14 with fail
              go_cut [10] from 95 to 141 (fun s wc => s = .bool (belowS us x k && belowS us y k) ∧ Sj w o (.slice A1 us.length q1) us wc)
              case first =>
                cases e1 : belowS us x k
                · go_wp2_with fail
                  refine (sBelow_any o _ us _ _ _ S7.see (Nat.le_of_lt S7.lt)).mono ?_
                  rintro e w8 ⟨rfl, b8⟩
                  rw [e1]
                  go_wp2_with fail
                  go_meet
                  case rel => exact ⟨by simp [e1], S7.next b8⟩
                · go_wp2_with fail
                  refine (sBelow_any o _ us _ _ _ S7.see (Nat.le_of_lt S7.lt)).mono ?_
                  rintro e w8 ⟨rfl, b8⟩
                  rw [e1]
                  have S8 := S7.next b8
                  have c8 := S8.cell
                  clear S7 c7 b8
                  go_wp2_with fail
                  refine (sBelow_any o _ us _ _ _ S8.see (Nat.le_of_lt S8.lt)).mono ?_
                  rintro e w9 ⟨rfl, b9⟩
                  go_wp2_with fail
                  go_meet
                  case rel => exact ⟨by simp [e1], S8.next b9⟩
              case rest =>
                obtain ⟨rfl, S8⟩ := hcut
                clear S7 c7
                have c8 := S8.cell
                generalize (belowS us x k && belowS us y k) = X at E1 ⊢
                go_upto_region 15 with fail
                go_cut [11] from 95 to 141 (fun s wc => s = .bool (belowS us k x && belowS us k y) ∧ Sj w o (.slice A1 us.length q1) us wc)
                case first =>
                  cases e1 : belowS us k x
                  · go_wp2_with fail
                    refine (sBelow_any o _ us _ _ _ S8.see (Nat.le_of_lt S8.lt)).mono ?_
                    rintro e w8 ⟨rfl, b8⟩
                    rw [e1]
                    go_wp2_with fail
                    go_meet
                    case rel => exact ⟨by simp [e1], S8.next b8⟩
                  · go_wp2_with fail
                    refine (sBelow_any o _ us _ _ _ S8.see (Nat.le_of_lt S8.lt)).mono ?_
                    rintro e w8 ⟨rfl, b8⟩
                    rw [e1]
                    have S9 := S8.next b8
                    have c9 := S9.cell
                    clear S8 c8 b8
                    go_wp2_with fail
                    refine (sBelow_any o _ us _ _ _ S9.see (Nat.le_of_lt S9.lt)).mono ?_
                    rintro e w9 ⟨rfl, b9⟩
                    go_wp2_with fail
                    go_meet
                    case rel => exact ⟨by simp [e1], S9.next b9⟩
                case rest =>
                  obtain ⟨rfl, S9⟩ := hcut
                  clear S8 c8
                  have c9 := S9.cell
                  generalize (belowS us k x && belowS us k y) = Y at E2 ⊢
                  have hX : (X != X) = false := by simp
                  have hY : (Y != Y) = false := by simp
                  go_upto_region 16 with fail
                  go_cut [141] from 95 to 141 (fun s wc => s = .bool false ∧ Sj w o (.slice A1 us.length q1) us wc)
                  case first =>
                    by_cases hj : 0 ≤ j
                    · have e1 := E1.out hj
                      by_cases hmm : 0 ≤ m
                      · have e2 := E2.out hmm
                        go_wp2_with fail
                        refine (sBelow_any o _ us _ _ _ S9.see (Nat.le_of_lt S9.lt)).mono ?_
                        rintro e w8 ⟨rfl, b8⟩
                        rw [e1]
                        have S10 := S9.next b8
                        have c10 := S10.cell
                        clear S9 c9 b8
                        go_wp2_with fail
                        refine (sBelow_any o _ us _ _ _ S10.see (Nat.le_of_lt S10.lt)).mono ?_
                        rintro e w9 ⟨rfl, b9⟩
                        rw [e2]
                        go_wp2_with fail
                        go_meet
                        case rel => exact ⟨rfl, S10.next b9⟩
                      · have hm' : decide (0 ≤ m) = false := decide_eq_false hmm
                        go_wp2_with fail
                        refine (sBelow_any o _ us _ _ _ S9.see (Nat.le_of_lt S9.lt)).mono ?_
                        rintro e w8 ⟨rfl, b8⟩
                        rw [e1]
                        have S10 := S9.next b8
                        clear S9 c9 b8
                        go_wp2_with fail
                        go_meet
                        case rel => exact ⟨rfl, S10⟩
                    · have hj' : decide (0 ≤ j) = false := decide_eq_false hj
                      by_cases hmm : 0 ≤ m
                      · have e2 := E2.out hmm
                        go_wp2_with fail
                        refine (sBelow_any o _ us _ _ _ S9.see (Nat.le_of_lt S9.lt)).mono ?_
                        rintro e w8 ⟨rfl, b8⟩
                        rw [e2]
                        have S10 := S9.next b8
                        clear S9 c9 b8
                        go_wp2_with fail
                        go_meet
                        case rel => exact ⟨rfl, S10⟩
                      · have hm' : decide (0 ≤ m) = false := decide_eq_false hmm
                        go_wp2_with fail
                        go_meet
                        case rel => exact ⟨rfl, S9⟩
                  case rest =>
                    obtain ⟨rfl, S10⟩ := hcut
                    clear S9 c9
                    go_wp2_with fail
                    go_roundw
                    case rel => exact ⟨k + 1, by omega, by go_num, S10⟩
                    case measure => simp [intOf]; omega
            · clear F1 F2
              have f4 := F4.out
              have f5 := F5.out
              clear F4 F5
              generalize hpp : belowS us x y = p at f4 f5
              have HP := Lib.hid hpp
              clear hpp
              go_upto_region 18 with fail
              go_cut [167] from 142 (fun s wc => s = .bool false ∧ Sj w o (.slice A1 us.length q1) us wc)
              case first =>
                cases lt with
                | false =>
                  go_wp2_with fail
                  refine (iLatticeOk_any o _ us _ S7.see (Nat.le_of_lt S7.lt)).mono ?_
                  rintro e w8 ⟨rfl, b8⟩
                  rw [HT.out]
                  go_wp2_with fail
                  go_meet
                  case rel => exact ⟨rfl, S7.next b8⟩
                | true =>
                  obtain ⟨g1, g2, g3, g4⟩ := F3.out rfl
                  have G3 := Lib.hid g3
                  have G4 := Lib.hid g4
                  have g1' : decide (j < 0) = false := decide_eq_false (by omega)
                  have g2' : decide (m < 0) = false := decide_eq_false (by omega)
                  clear g3 g4 F3
                  go_wp2_with fail
                  refine (iLatticeOk_any o _ us _ S7.see (Nat.le_of_lt S7.lt)).mono ?_
                  rintro e w8 ⟨rfl, b8⟩
                  rw [HT.out]
                  have S8 := S7.next b8
                  have c8 := S8.cell
                  clear S7 c7 b8
                  go_wp2_with fail
                  refine (iMeet_any o _ us _ _ _ S8.see (Nat.le_of_lt S8.lt)).mono ?_
                  rintro e w9 ⟨rfl, b9⟩
                  rw [G3.out]
                  have S9 := S8.next b9
                  have c9 := S9.cell
                  clear S8 c8 b9
                  go_wp2_with fail
                  refine (iJoin_any o _ us _ _ _ S9.see (Nat.le_of_lt S9.lt)).mono ?_
                  rintro e w10 ⟨rfl, b10⟩
                  rw [G4.out]
                  go_wp2_with fail
                  go_meet
                  case rel => exact ⟨rfl, S9.next b10⟩
              case rest =>
                obtain ⟨rfl, S8⟩ := hcut
                clear S7 c7
                have c8 := S8.cell
                have hp : (p == p) = true := by simp
                go_wp2_with fail
                refine (sBelow_any o _ us _ _ _ S8.see (Nat.le_of_lt S8.lt)).mono ?_
                rintro e w9 ⟨rfl, b9⟩
                rw [HP.out]
                have S9 := S8.next b9
                have c9 := S9.cell
                clear S8 c8 b9
                go_wp2_with fail
                refine (sBelow_any o _ us _ _ _ S9.see (Nat.le_of_lt S9.lt)).mono ?_
                rintro e w10 ⟨rfl, b10⟩
                rw [HP.out]
                go_wp2_with fail
                go_ret
                exact ⟨by simp, (S9.next b10).old⟩

end Go.Proofs.Ytkpaidadofmpfaa
