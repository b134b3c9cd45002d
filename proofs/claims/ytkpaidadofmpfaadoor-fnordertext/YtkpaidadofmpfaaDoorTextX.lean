/- The walk of the law FnOrderText. -/
import Derived.Test.YtkpaidadofmpfaaDoorBendC
import Derived.Test.YtkpaidadofmpfaaDoorTextM
import Derived.Test.YtkpaidadofmpfaaDoorReadA
import Derived.Test.YtkpaidadofmpfaaDoorShowB
namespace Go.Proofs.YtkpaidadofmpfaaDoor
open Go.RowKit
set_option linter.unusedVariables false

/-- An order lies in a variable, its row older. -/
structure Sv (w0 : World) (o : Nat) (v : Value) (us : List Int) (W : World) : Prop where
  cell : W.cell? ⟨o, 0, none⟩ = some v
  see : SeeI W o v us
  lt : o < W.heap.size
  old : Below w0.heap.size w0 W
theorem Sv.next {w0 W W' : World} {o : Nat} {v : Value} {us : List Int} (h : Sv w0 o v us W) (hb : Below W.heap.size W W') : Sv w0 o v us W' :=
  ⟨(hb.cell (p := ⟨o, 0, none⟩) h.lt).trans h.cell, h.see.below (hb.mono (Nat.le_of_lt h.lt)), Nat.lt_of_lt_of_le h.lt hb.size, below_then h.old hb (Nat.le_refl _)⟩
theorem Sv.new {w0 w1 : World} {v : Value} {us : List Int} (h : SeeI w1 w1.heap.size v us) (hb : Below w0.heap.size w0 w1) (t : TypeId) : Sv w0 w1.heap.size v us (w1.alloc (.cells #[v] t)) :=
  ⟨cell_of_row _ _ 0 _ _ (0, 0) (heap_alloc_new _ _), h.alloc (Nat.le_refl _) _, by simp, hb.alloc hb.size _⟩
theorem Sv.alloc {w0 W : World} {o : Nat} {v : Value} {us : List Int} (h : Sv w0 o v us W) (ob : Obj) : Sv w0 o v us (W.alloc ob) := h.next ((Below.refl _ _).alloc (Nat.le_refl _) _)
theorem Sv.drewN {w0 W : World} {o : Nat} {v : Value} {us : List Int} (h : Sv w0 o v us W) (n : Nat) : Sv w0 o v us (W.drewN n) := h.next (below_drewN (Below.refl _ _) n)
theorem Sv.all {w0 W : World} {o : Nat} {v : Value} {us : List Int} (h : Sv w0 o v us W) : SeeI W W.heap.size v us := h.see.more (Nat.le_of_lt h.lt)

set_option maxHeartbeats 8000000 in
set_option maxRecDepth 100000 in
theorem text_core (A : Option Addr) (n c : Nat) (m : Int) (w : World) (hs : SeeB w w.heap.size A n) (hm : w.cell? ⟨0, 0, none⟩ = some (.int .i64 m)) :
    Calls Tryd.prog 3 #[.slice A n c] w fun e w' => e = .returned (.bool true) ∧ Below w.heap.size w w' := by
  have hn := hs.1
  have HV : Hid (∀ W, Below w.heap.size w W → W.cell? ⟨0, 0, none⟩ = some (.int .i64 m)) := Lib.hid fun W h => (h.cell (World.block_lt_of_cell? w ⟨0, 0, none⟩ hm)).trans hm
  clear hm
  by_cases hbig : 4096 < n
  · have hd : decide (4096 < (n : Int)) = true := by simp; omega
    go_enter Tryd.func3, Tryd.ntmps3
    go_wp2_with fail
    refine (big_any _ _ _ _ hn).mono ?_
    rintro e w' ⟨rfl, rfl⟩
    go_wp2_with fail
    go_ret
    exact ⟨rfl, Below.refl _ _⟩
  · have hd : decide (4096 < (n : Int)) = false := by simp; omega
    have HSB : Hid (∀ W, Below w.heap.size w W → SeeB W W.heap.size A n) := Lib.hid fun W h => (hs.keep fun p hp => h.cell hp).more h.size
    have hD := drawShowOrder_any A n c (by omega) w hs
    go_enter Tryd.func3, Tryd.ntmps3
    go_wp2_with fail
    refine (big_any _ _ _ _ hn).mono ?_
    rintro e w' ⟨rfl, rfl⟩
    clear hn
    go_wp2_with fail
    refine hD.mono ?_
    rintro e w1 ⟨v, us, rfl, hl, hs1, b1⟩
    clear hD hs hd
    have S1 := Sv.new hs1 b1 26
    have c1 := S1.cell
    have G1 := S1.lt
    obtain ⟨A1, q1, rfl⟩ := hs1.shape
    generalize hsh : showT us = S
    have HS := Lib.hid hsh
    clear hs1 b1 hsh
    go_wp2_with fail
    generalize w1.alloc _ = W1 at S1 c1 G1 ⊢
    generalize w1.heap.size = o at S1 c1 G1 ⊢
    refine (iShowOrder_any o _ us _ S1.see (Nat.le_of_lt G1)).mono ?_
    rintro e w2 ⟨rfl, b2⟩
    have S2 := S1.next b2
    clear c1 G1 S1 b2
    rw [HS.out]
    go_wp2_with fail
    refine (drawReadOrder_any A n c (by omega) _ (HSB.out _ S2.old)).mono ?_
    rintro e w3 ⟨t, rfl, htl, b3⟩
    have S3 := S2.next b3
    clear S2 b3 HSB
    generalize hrd : readT t = r
    have HR := Lib.hid hrd
    clear hrd
    go_wp2_with fail
    refine (iReadOrder_any t (by omega) m _ (HV.out _ S3.old)).mono ?_
    rw [HR.out]
    rintro e w4 ⟨v4, rfl, o4, b4⟩
    have S4 := (S3.next b4).alloc (.cells #[v4] 26)
    have X4 := Sv.new o4.see (S3.next b4).old 26
    have x4 := X4.cell
    have hxl := X4.lt
    obtain ⟨A4, q4, rfl⟩ := o4.see.shape
    clear S3 b4 o4
    go_wp2_with fail
    generalize w4.alloc _ = W4 at S4 X4 x4 hxl ⊢
    generalize w4.heap.size = ox at S4 X4 x4 hxl ⊢
    refine (sReadOrder_any t (by omega) _).mono ?_
    rw [HR.out]
    rintro e w5 ⟨v5, rfl, o5, b5⟩
    have S5 := (S4.next b5).alloc (.cells #[v5] 26)
    have X5 := (X4.next b5).alloc (.cells #[v5] 26)
    have Y5 := Sv.new o5.see (S4.next b5).old 26
    have s5 := S5.cell
    have x5 := X5.cell
    have y5 := Y5.cell
    obtain ⟨A5, q5, rfl⟩ := o5.see.shape
    clear S4 X4 x4 b5 o5 hxl
    go_wp2_with fail
    generalize w5.alloc _ = W5 at S5 X5 Y5 s5 x5 y5 ⊢
    generalize w5.heap.size = oy at Y5 y5 ⊢
    refine (likeInts_any W5.heap.size _ _ _ _ _ X5.all Y5.all).mono ?_
    rintro e w6 ⟨rfl, n6, rfl⟩
    have S6 := S5.drewN n6
    have X6 := X5.drewN n6
    have s6 := S6.cell
    have x6 := X6.cell
    clear S5 X5 Y5 s5 x5 y5
    rw [eqI_same]
    generalize W5.drewN n6 = W6 at S6 X6 s6 x6 ⊢
    have hSS : (S == S) = true := by simp
    have hSn : (S != S) = false := by simp
    go_wp2_with fail
    refine (sShowOrder_any o _ us _ S6.see (Nat.le_of_lt S6.lt)).mono ?_
    rintro e w7 ⟨rfl, b7⟩
    rw [HS.out]
    have S7 := S6.next b7
    have X7 := X6.next b7
    have s7 := S7.cell
    have x7 := X7.cell
    clear S6 X6 s6 x6 b7
    have hSl : S.length ≤ 1048576 := by
      rw [← HS.out]
      unfold showT
      split
      · have := join_len us hl; omega
      · simp
    cases r with
    | none =>
      simp only [Option.isSome_none, Option.getD_none, List.length_nil] at X7 x7 ⊢
      cases hE : S.isEmpty
      · have oo : ordS us = true := by
          cases h : ordS us
          · have := show_none.2 h
            rw [HS.out] at this
            subst this
            cases hE
          · rfl
        have RS : Hid (readT S = some us) := Lib.hid (by rw [← HS.out]; exact read_show oo)
        clear oo
        go_wp2_with fail
        refine (iReadOrder_any S hSl m _ (HV.out _ S7.old)).mono ?_
        rw [RS.out]
        rintro e w10 ⟨v10, rfl, o10, b10⟩
        have S11 := (S7.next b10).alloc (.cells #[v10] 26)
        have Z11 := Sv.new o10.see (S7.next b10).old 26
        obtain ⟨A10, q10, rfl⟩ := o10.see.shape
        simp only [Option.isSome_some, Option.getD_some] at S11 Z11 ⊢
        have s11 := S11.cell
        have z11 := Z11.cell
        clear S7 s7 b10 o10
        go_wp2_with fail
        generalize w10.alloc _ = W11 at S11 Z11 s11 z11 ⊢
        generalize w10.heap.size = oz at Z11 z11 ⊢
        refine (likeInts_any W11.heap.size _ _ _ _ _ Z11.all S11.all).mono ?_
        rintro e w12 ⟨rfl, n12, rfl⟩
        rw [eqI_same]
        go_wp2_with fail
        go_ret
        exact ⟨rfl, (S11.drewN n12).old⟩
      · have oo : ordS us = false := by
          refine show_none.1 ?_
          rw [HS.out]
          simpa using hE
        have OO := Lib.hid oo
        clear oo
        go_wp2_with fail
        refine (iOrderOk_any o _ us _ S7.see (Nat.le_of_lt S7.lt)).mono ?_
        rintro e w10 ⟨rfl, b10⟩
        rw [OO.out]
        go_wp2_with fail
        go_ret
        exact ⟨rfl, (S7.next b10).old⟩
    | some zs =>
      obtain ⟨oz, tz⟩ := show_read HR.out
      have OZ := Lib.hid oz
      have TZ := Lib.hid tz
      clear oz tz
      simp only [Option.isSome_some, Option.getD_some] at X7 x7 ⊢
      have htt : (t == t) = true := by simp
      have htn : (t != t) = false := by simp
      go_wp2_with fail
      refine (iOrderOk_any ox _ zs _ X7.see (Nat.le_of_lt X7.lt)).mono ?_
      rintro e w8 ⟨rfl, b8⟩
      rw [OZ.out]
      have S8 := S7.next b8
      have X8 := X7.next b8
      have s8 := S8.cell
      have x8 := X8.cell
      clear S7 X7 s7 x7 b8
      go_wp2_with fail
      refine (iShowOrder_any ox _ zs _ X8.see (Nat.le_of_lt X8.lt)).mono ?_
      rintro e w9 ⟨rfl, b9⟩
      rw [TZ.out]
      have S9 := S8.next b9
      have s9 := S9.cell
      clear S8 X8 s8 x8 b9
      cases hE : S.isEmpty
      · have oo : ordS us = true := by
          cases h : ordS us
          · have := show_none.2 h
            rw [HS.out] at this
            subst this
            cases hE
          · rfl
        have RS : Hid (readT S = some us) := Lib.hid (by rw [← HS.out]; exact read_show oo)
        clear oo
        go_wp2_with fail
        refine (iReadOrder_any S hSl m _ (HV.out _ S9.old)).mono ?_
        rw [RS.out]
        rintro e w10 ⟨v10, rfl, o10, b10⟩
        have S11 := (S9.next b10).alloc (.cells #[v10] 26)
        have Z11 := Sv.new o10.see (S9.next b10).old 26
        obtain ⟨A10, q10, rfl⟩ := o10.see.shape
        simp only [Option.isSome_some, Option.getD_some] at S11 Z11 ⊢
        have s11 := S11.cell
        have z11 := Z11.cell
        clear S9 s9 b10 o10
        go_wp2_with fail
        generalize w10.alloc _ = W11 at S11 Z11 s11 z11 ⊢
        generalize w10.heap.size = oz at Z11 z11 ⊢
        refine (likeInts_any W11.heap.size _ _ _ _ _ Z11.all S11.all).mono ?_
        rintro e w12 ⟨rfl, n12, rfl⟩
        rw [eqI_same]
        go_wp2_with fail
        go_ret
        exact ⟨rfl, (S11.drewN n12).old⟩
      · have oo : ordS us = false := by
          refine show_none.1 ?_
          rw [HS.out]
          simpa using hE
        have OO := Lib.hid oo
        clear oo
        go_wp2_with fail
        refine (iOrderOk_any o _ us _ S9.see (Nat.le_of_lt S9.lt)).mono ?_
        rintro e w10 ⟨rfl, b10⟩
        rw [OO.out]
        go_wp2_with fail
        go_ret
        exact ⟨rfl, (S9.next b10).old⟩

end Go.Proofs.YtkpaidadofmpfaaDoor
