/- The walk of the law FnOrders, whatever order is drawn. -/
import Derived.Test.YtekpfoggblbedaaOrdW
import Derived.Test.YtekpfoggblbedaaSetF
import Derived.Deep.CutRange
namespace Go.Proofs.Ytekpfoggblbedaa
open Go.RowKit
set_option linter.unusedVariables false

/-- The order lies in a variable, its row older. -/
structure St (w0 : World) (o : Nat) (v : Value) (us : List Int) (W : World) : Prop where
  cell : W.cell? ⟨o, 0, none⟩ = some v
  see : SeeI W o v us
  lt : o < W.heap.size
  old : Below w0.heap.size w0 W
theorem St.next {w0 W W' : World} {o : Nat} {v : Value} {us : List Int} (h : St w0 o v us W) (hb : Below W.heap.size W W') : St w0 o v us W' :=
  ⟨(hb.cell (p := ⟨o, 0, none⟩) h.lt).trans h.cell, h.see.below (hb.mono (Nat.le_of_lt h.lt)), Nat.lt_of_lt_of_le h.lt hb.size, below_then h.old hb (Nat.le_refl _)⟩
theorem St.new {w0 w1 : World} {v : Value} {us : List Int} (h : SeeI w1 w1.heap.size v us) (hb : Below w0.heap.size w0 w1) (t : TypeId) : St w0 w1.heap.size v us (w1.alloc (.cells #[v] t)) :=
  ⟨cell_of_row _ _ 0 _ _ (0, 0) (heap_alloc_new _ _), h.alloc (Nat.le_refl _) _, by simp, hb.alloc hb.size _⟩

set_option maxHeartbeats 4000000 in
set_option maxRecDepth 100000 in
theorem orders_core (A : Option Addr) (n c : Nat) (w : World) (hs : SeeB w w.heap.size A n) (hD : ¬ 4096 < n → Calls Try.prog 5 #[.slice A n c] w (BelowDrawn w)) :
    Calls Try.prog 3 #[.slice A n c] w fun e w' => e = .returned (.bool true) ∧ Below w.heap.size w w' := by
  have hm := hs.1
  by_cases hbig : 4096 < n
  · have hd : decide (4096 < (n : Int)) = true := by simp; omega
    go_enter Try.func3, Try.ntmps3
    go_wp2_with fail
    refine (big_any _ _ _ _ hm).mono ?_
    rintro e w' ⟨rfl, rfl⟩
    go_wp2_with fail
    go_ret
    exact ⟨rfl, Below.refl _ _⟩
  · have hd : decide (4096 < (n : Int)) = false := by simp; omega
    have hD := hD hbig
    go_enter Try.func3, Try.ntmps3
    go_wp2_with fail
    refine (big_any _ _ _ _ hm).mono ?_
    rintro e w' ⟨rfl, rfl⟩
    clear hm
    go_wp2_with fail
    refine hD.mono ?_
    rintro e w1 ⟨v, us, a, b, rfl, hl, hs1, b1⟩
    clear hD hs hd
    have S1 := St.new hs1 b1 26
    have c1 := S1.cell
    have G1 := S1.lt
    obtain ⟨A1, q1, rfl⟩ := hs1.shape
    generalize hp : belowS us a b = p
    have HP := Lib.hid hp
    clear hs1 b1 hp
    go_wp2_with fail
    generalize w1.alloc _ = W1 at S1 c1 G1 ⊢
    generalize w1.heap.size = o at S1 c1 G1 ⊢
    refine (iBelow_any o _ us a b _ S1.see (Nat.le_of_lt G1)).mono ?_
    rintro e w2 ⟨rfl, b2⟩
    have S2 := S1.next b2
    have c2 := S2.cell
    clear c1 G1 S1 b2
    rw [HP.out]
    generalize hdd : downS us b = d
    have HD := Lib.hid hdd
    clear hdd
    go_wp2_with fail
    refine (iDownsOf_any o _ us b _ S2.see (Nat.le_of_lt S2.lt)).mono ?_
    rintro e w3 ⟨rfl, b3⟩
    have S3 := S2.next b3
    have c3 := S3.cell
    clear c2 S2 b3
    rw [HD.out]
    generalize hc : chainS us = ch
    generalize ho : ordS us = od
    have HC := Lib.hid hc
    have HO := Lib.hid ho
    clear hc ho
    have T1 : Hid (∀ i : Later w3, Calls Try.prog 8 #[.agg #[.slice A1 us.length q1], .int .i64 a, .int .i64 b] i.now (BoolOf i.now p)) := Lib.hid fun i => by
      have := S3.next i.old; rw [← HP.out]; exact sBelow_any o _ us a b _ this.see (Nat.le_of_lt this.lt)
    have T2 : Hid (∀ i : Later w3, Calls Try.prog 9 #[.agg #[.slice A1 us.length q1], .int .i64 b] i.now (IntOf i.now d)) := Lib.hid fun i => by
      have := S3.next i.old; rw [← HD.out]; exact sDownsOf_any o _ us b _ this.see (Nat.le_of_lt this.lt)
    have T3 : Hid (∀ i : Later w3, Calls Try.prog 10 #[.agg #[.slice A1 us.length q1]] i.now (BoolOf i.now od)) := Lib.hid fun i => by
      have := S3.next i.old; rw [← HO.out]; exact iOrderOk_any o _ us _ this.see (Nat.le_of_lt this.lt)
    have T4 : Hid (∀ i : Later w3, Calls Try.prog 11 #[.agg #[.slice A1 us.length q1]] i.now (BoolOf i.now od)) := Lib.hid fun i => by
      have := S3.next i.old; rw [← HO.out]; exact sOrderOk_any o _ us _ this.see (Nat.le_of_lt this.lt)
    have T5 : Hid (∀ i : Later w3, Calls Try.prog 12 #[.agg #[.slice A1 us.length q1]] i.now (BoolOf i.now ch)) := Lib.hid fun i => by
      have := S3.next i.old; rw [← HC.out]; exact iIsChain_any o _ us _ this.see (Nat.le_of_lt this.lt)
    have T6 : Hid (∀ i : Later w3, Calls Try.prog 13 #[.agg #[.slice A1 us.length q1]] i.now (BoolOf i.now ch)) := Lib.hid fun i => by
      have := S3.next i.old; rw [← HC.out]; exact sIsChain_any o _ us _ this.see (Nat.le_of_lt this.lt)
    have d3 := later_cell c3
    go_wp2_with fail
    refine region_later (by kernel_rfl) (by kernel_rfl) ?_
    repeat (go_big_quiet_step (first | (go_at_call 8; exact later_call (T1.out _)) | (go_at_call 9; exact later_call (T2.out _)) | (go_at_call 10; exact later_call (T3.out _)) | (go_at_call 11; exact later_call (T4.out _)) | (go_at_call 12; exact later_call (T5.out _)) | (go_at_call 13; exact later_call (T6.out _))))
    refine wpQuiet_nil ?_
    rintro w4 ⟨⟨_, hbk⟩, rfl⟩
    have S4 := S3.next hbk
    have c4 := S4.cell
    clear T1 T2 T3 T4 T5 T6 d3 c3 S3 hbk
    go_wp2_with fail
    refine (sOrderOk_any o _ us _ S4.see (Nat.le_of_lt S4.lt)).mono ?_
    rintro e w5 ⟨rfl, b5⟩
    have S5 := S4.next b5
    have c5 := S5.cell
    clear c4 S4 b5
    rw [HO.out]
    cases od with
    | false =>
      obtain ⟨h1, h2, h3⟩ := w_none HO.out a b
      obtain rfl : p = false := by rw [← HP.out, h1]
      obtain rfl : d = -1 := by rw [← HD.out, h2]
      obtain rfl : ch = false := by rw [← HC.out, h3]
      clear h1 h2 h3
      go_wp2_with fail
      refine (iIsChain_any o _ us _ S5.see (Nat.le_of_lt S5.lt)).mono ?_
      rintro e w6 ⟨rfl, b6⟩
      rw [HC.out]
      go_wp2_with fail
      go_ret
      exact ⟨rfl, (S5.next b6).old⟩
    | true =>
      have hsz := (ord_len HO.out).2
      have F1 : Hid (p = true → a ≠ b → belowS us b a = false) := Lib.hid fun h1 h2 => w_anti (HP.out.trans h1) h2
      have F2 : Hid (0 ≤ a → a < us.length → belowS us a a = true) := Lib.hid fun h1 h2 => w_self HO.out h1 h2
      have F0 : Hid (p = true → 0 ≤ a ∧ a < us.length) := Lib.hid fun h => by
        obtain ⟨_, i, j, rfl, rfl, hi, hj, _⟩ := w_below (HP.out.trans h)
        omega
      go_upto_region 11 with fail
      go_cut [98] from 12 (fun s98 wc => s98 = .bool false ∧ St w o (.slice A1 us.length q1) us wc)
      case first =>
        have hpc : (p = false ∧ ((a < 0) ∨ (0 ≤ a ∧ ¬ a < us.length) ∨ (0 ≤ a ∧ a < us.length))) ∨ (p = true ∧ a = b ∧ 0 ≤ a ∧ a < us.length) ∨ (p = true ∧ a ≠ b ∧ 0 ≤ a ∧ a < us.length) := by
          cases p with
          | false => left; exact ⟨rfl, by omega⟩
          | true =>
            right
            obtain ⟨h1, h2⟩ := F0.out rfl
            by_cases e : a = b
            · left; exact ⟨rfl, e, h1, h2⟩
            · right; exact ⟨rfl, e, h1, h2⟩
        rcases hpc with ⟨rfl, h | ⟨h, h'⟩ | ⟨h, h'⟩⟩ | ⟨rfl, rfl, h, h'⟩ | ⟨rfl, hne, h, h'⟩
        · go_wp2_with fail
          go_meet
          case rel => exact ⟨rfl, S5⟩
        · go_wp2_with fail
          go_meet
          case rel => exact ⟨rfl, S5⟩
        · go_wp2_with fail
          refine (iBelow_any o _ us a a _ S5.see (Nat.le_of_lt S5.lt)).mono ?_
          rintro e w6 ⟨rfl, b6⟩
          rw [F2.out h h']
          go_wp2_with fail
          go_meet
          case rel => exact ⟨rfl, S5.next b6⟩
        · go_wp2_with fail
          refine (iBelow_any o _ us a a _ S5.see (Nat.le_of_lt S5.lt)).mono ?_
          rintro e w6 ⟨rfl, b6⟩
          rw [F2.out h h']
          go_wp2_with fail
          go_meet
          case rel => exact ⟨rfl, S5.next b6⟩
        · have f1 := Lib.hid (F1.out rfl hne)
          go_wp2_with fail
          refine (iBelow_any o _ us b a _ S5.see (Nat.le_of_lt S5.lt)).mono ?_
          rintro e w6 ⟨rfl, b6⟩
          rw [f1.out]
          have S6 := S5.next b6
          have c6 := S6.cell
          clear c5 S5 b6
          go_wp2_with fail
          refine (iBelow_any o _ us a a _ S6.see (Nat.le_of_lt S6.lt)).mono ?_
          rintro e w7 ⟨rfl, b7⟩
          rw [F2.out h h']
          go_wp2_with fail
          go_meet
          case rel => exact ⟨rfl, S6.next b7⟩
      case rest =>
        obtain ⟨rfl, S6⟩ := hcut
        have G1 : Hid (∀ i : Int, p = true → belowS us b i = true → belowS us a i = true) := Lib.hid fun i h1 h2 => w_trans (HP.out.trans h1) h2
        have G2 : Hid (∀ i : Nat, 0 ≤ d → i < us.length → hasB d i = belowS us i b) := Lib.hid fun i h1 h2 => by
          rw [← HD.out] at h1 ⊢
          exact w_down h1 h2
        have G3 : Hid (chU us us.length = ch) := Lib.hid ((w_chain HO.out).trans HC.out)
        clear HP HD F0 F1 F2 S5 c5
        go_wp2_with fail
        go_loopw [9, 10] (fun m i wr => ∃ k : Nat, k ≤ us.length ∧ i = .int .i64 k ∧ m = .bool (chU us k) ∧ St w o (.slice A1 us.length q1) us wr) (fun _ i _ => us.length - (intOf i).toNat)
        case atStart => exact ⟨0, Nat.zero_le _, rfl, rfl, S6⟩
        case round =>
          obtain ⟨k, hk, rfl, rfl, S7⟩ := hrel
          obtain ⟨wo, rfl⟩ : ∃ x, x = wr := ⟨_, rfl⟩
          clear S6
          have c7 := S7.cell
          by_cases hlt : k < us.length
          · have hcase : (p = false ∨ (p = true ∧ belowS us b k = false) ∨ (p = true ∧ belowS us b k = true ∧ belowS us a k = true)) ∧ ((d < 0 ∧ decide (0 ≤ d) = false) ∨ (0 ≤ d ∧ ¬ d < 0 ∧ hasB d k = belowS us k b)) := by
              refine ⟨?_, ?_⟩
              · cases p with
                | false => exact .inl rfl
                | true =>
                  cases e : belowS us b k with
                  | false => exact .inr (.inl ⟨rfl, rfl⟩)
                  | true => exact .inr (.inr ⟨rfl, rfl, G1.out _ rfl e⟩)
              · rcases Int.lt_or_le d 0 with h | h
                · exact .inl ⟨h, by simp; omega⟩
                · exact .inr ⟨h, by omega, G2.out k h hlt⟩
            have T1 : Hid (∀ (i : Later wo) (x y : Int), Calls Try.prog 6 #[.agg #[.slice A1 us.length q1], .int .i64 x, .int .i64 y] i.now (BoolOf i.now (belowS us x y))) := Lib.hid fun i x y => by
              have := S7.next i.old; exact iBelow_any o _ us x y _ this.see (Nat.le_of_lt this.lt)
            have d7 := later_cell c7
            clear G1 G2
            go_upto_region 17 with fail
            go_cut [131] from 99 to 149 (fun s131 wc => s131 = .bool false ∧ St w o (.slice A1 us.length q1) us wc)
            case first =>
              obtain ⟨h1, h2⟩ := hcase
              rcases h1 with rfl | ⟨rfl, e1⟩ | ⟨rfl, e1, e2⟩ <;> rcases h2 with ⟨hd, hd'⟩ | ⟨hd, hd', e3⟩
              all_goals (
                go_wp2_with fail
                refine region_later (by kernel_rfl) (by kernel_rfl) ?_
                repeat (go_big_quiet_step (first | (go_at_call 6; exact later_call (T1.out _ _ _)) | (go_at_call 14; exact later_same (sInSet_any _ _ _))))
                refine wpQuiet_nil ?_
                rintro w8 ⟨⟨_, hbk⟩, rfl⟩
                have S8 := S7.next hbk
                clear T1 d7 c7 S7 hbk
                go_wp2_with fail
                go_meet
                case rel => exact ⟨rfl, S8⟩)
            case rest =>
              obtain ⟨rfl, S8⟩ := hcut
              clear T1 d7 c7 S7 hcase
              go_wp2_with fail
              go_loopw [9, 11] (fun m i wr => ∃ j : Nat, j ≤ us.length ∧ i = .int .i64 j ∧ m = .bool (chU us k && (List.range j).all fun x => twoS us k x) ∧ St w o (.slice A1 us.length q1) us wr) (fun _ i _ => us.length - (intOf i).toNat)
              case atStart => exact ⟨0, Nat.zero_le _, rfl, by simp, S8⟩
              case round =>
                obtain ⟨j, hj, rfl, rfl, S9⟩ := hrel
                obtain ⟨m, hm⟩ : ∃ m, (chU us k && (List.range j).all fun x => twoS us k x) = m := ⟨_, rfl⟩
                rw [hm]
                have c9 := S9.cell
                clear S8
                by_cases hjt : j < us.length
                · have HN : Hid ((chU us k && (List.range (j + 1)).all fun x => twoS us k x) = (m && (belowS us k j || belowS us j k))) := Lib.hid (by rw [two_succ, ← Bool.and_assoc, hm])
                  clear hm
                  cases m with
                  | false =>
                    go_wp2_with fail
                    go_roundw
                    case rel => exact ⟨j + 1, by omega, by go_num, by rw [HN.out]; rfl, S9⟩
                    case measure => simp [intOf]; omega
                  | true =>
                    cases f1 : belowS us k j with
                    | true =>
                      go_wp2_with fail
                      refine (iBelow_any o _ us _ _ _ S9.see (Nat.le_of_lt S9.lt)).mono ?_
                      rintro e w10 ⟨rfl, b10⟩
                      rw [f1]
                      have S10 := S9.next b10
                      clear S9 c9 b10
                      go_wp2_with fail
                      go_roundw
                      case rel => exact ⟨j + 1, by omega, by go_num, by rw [HN.out, f1]; rfl, S10⟩
                      case measure => simp [intOf]; omega
                    | false =>
                      have HN' : Hid ((chU us k && (List.range (j + 1)).all fun x => twoS us k x) = belowS us j k) := Lib.hid (by rw [HN.out, f1]; simp)
                      clear HN
                      go_wp2_with fail
                      refine (iBelow_any o _ us _ _ _ S9.see (Nat.le_of_lt S9.lt)).mono ?_
                      rintro e w10 ⟨rfl, b10⟩
                      rw [f1]
                      have S10 := S9.next b10
                      have c10 := S10.cell
                      clear S9 c9 b10
                      go_wp2_with fail
                      refine (iBelow_any o _ us _ _ _ S10.see (Nat.le_of_lt S10.lt)).mono ?_
                      rintro e w11 ⟨rfl, b11⟩
                      have S11 := S10.next b11
                      clear S10 c10 b11
                      go_wp2_with fail
                      go_roundw
                      case rel => exact ⟨j + 1, by omega, by go_num, by rw [HN'.out], S11⟩
                      case measure => simp [intOf]; omega
                · obtain rfl : us.length = j := by omega
                  rw [← chU_succ] at hm
                  have HM := Lib.hid hm
                  clear hm
                  go_wp2_with fail
                  go_roundw
                  case rel => exact ⟨k + 1, by omega, by go_num, by rw [HM.out], S9⟩
                  case measure => simp [intOf]; omega
          · obtain rfl : us.length = k := by omega
            have G3' := G3.out
            clear G1 G2 G3
            rw [G3']
            go_wp2_with fail
            refine (iIsChain_any o _ us _ S7.see (Nat.le_of_lt S7.lt)).mono ?_
            rintro e w8 ⟨rfl, b8⟩
            rw [HC.out]
            go_wp2_with fail
            go_ret
            exact ⟨by simp, (S7.next b8).old⟩

end Go.Proofs.Ytekpfoggblbedaa
