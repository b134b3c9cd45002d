/- The model's Join and Meet, whole. -/
import Derived.Test.YtigcbegeaikfcaaLatB
namespace Go.Proofs.Ytigcbegeaikfcaa
open Go.RowKit
set_option linter.unusedVariables false

theorem ownI_later {w w' : World} {C : Nat} {e : TypeId} {v : Value} {zs : List Int} (h : OwnI w C e v zs) (hb : Below w.heap.size w w') : OwnI w' C e v zs := by
  have hlt := h.lt
  obtain ⟨hl, h⟩ := h
  refine ⟨hl, ?_⟩
  rcases h with h | ⟨b, cap, cur, rfl, hb', hg', h⟩
  · exact .inl h
  · exact .inr ⟨b, cap, cur, rfl, hb', by rw [hb.block b (hlt b rfl).2]; exact hg', h⟩

set_option maxHeartbeats 2000000 in
set_option maxRecDepth 100000 in
theorem sJoin_any (B : Nat) (v : Value) (us : List Int) (a b : Int) (w : World) (hs : SeeI w B v us) (hB : B ≤ w.heap.size) : Calls Try.prog 64 #[.agg #[v], .int .i64 a, .int .i64 b] w (IntOf w (joinS us a b)) := by
  obtain ⟨A, c, rfl⟩ := hs.shape
  have hm := hs.1
  have hs1 := hs.alloc hB (.cells #[.slice A us.length c] 30)
  have c0 : (w.alloc (.cells #[.slice A us.length c] 30)).cell? ⟨w.heap.size, 0, none⟩ = some (.slice A us.length c) := cell_of_row _ _ 0 _ _ (0, 0) (heap_alloc_new _ _)
  have b0 : Below w.heap.size w (w.alloc (.cells #[.slice A us.length c] 30)) := (Below.refl _ _).alloc (Nat.le_refl _) _
  have Z0 := Lib.hid (show (w.alloc (.cells #[.slice A us.length c] 30)).heap.size = w.heap.size + 1 from by simp)
  go_enter Try.func64, Try.ntmps64
  go_wp2_with fail
  generalize w.alloc _ = W at hs1 c0 b0 Z0 ⊢
  refine (sOrderOk_any B _ us _ hs1 (by have := Z0.out; omega)).mono ?_
  rintro e w1 ⟨rfl, hb1⟩
  have c1 := (hb1.cell (p := ⟨w.heap.size, 0, none⟩) (by have := Z0.out; simp; omega)).trans c0
  have s1 := hs1.below (hb1.mono (by have := Z0.out; omega))
  have b1 := below_then b0 hb1 (Nat.le_refl _)
  have g1 : w.heap.size < w1.heap.size := by have := hb1.size; have := Z0.out; omega
  clear hs1 c0 b0 hb1 Z0
  cases ho : ordS us
  · go_wp2_with fail
    go_ret
    exact ⟨by simp only [joinS, ho, Bool.false_and]; rfl, b1⟩
  · have HP := Lib.hid ((ordS_iff us).1 ho)
    go_wp2_with fail
    refine (l2Has_any _ us _ hm _ _).mono ?_
    rintro e w2 ⟨rfl, hb2⟩
    have c2 := (hb2.cell (p := ⟨w.heap.size, 0, none⟩) (by simp; omega)).trans c1
    have s2 := s1.below (hb2.mono (by omega))
    have b2 := below_then b1 hb2 (Nat.le_refl _)
    have g2 : w.heap.size < w2.heap.size := by have := hb2.size; omega
    clear c1 s1 b1 hb2
    cases ra : isR us a
    · go_wp2_with fail
      go_ret
      exact ⟨by simp only [joinS, ho, ra, Bool.false_and, Bool.and_false]; rfl, b2⟩
    · obtain ⟨k, rfl, hk⟩ := isR_nat ra
      go_wp2_with fail
      refine (l2Has_any _ us _ hm _ _).mono ?_
      rintro e w3 ⟨rfl, hb3⟩
      have c3 := (hb3.cell (p := ⟨w.heap.size, 0, none⟩) (by simp; omega)).trans c2
      have s3 := s2.below (hb3.mono (by omega))
      have b3 := below_then b2 hb3 (Nat.le_refl _)
      have g3 : w.heap.size < w3.heap.size := by have := hb3.size; omega
      clear c2 s2 b2 hb3
      cases rb : isR us b
      · go_wp2_with fail
        go_ret
        exact ⟨by simp only [joinS, ho, rb, Bool.and_false]; rfl, b3⟩
      · obtain ⟨j, rfl, hj⟩ := isR_nat rb
        have HE : Hid (joinS us k j = leastT (upR us) (bothR (upR us) k j)) := Lib.hid (by simp only [joinS, ho, ra, rb, Bool.true_and, Int.toNat_natCast]; rfl)
        clear ra rb ho
        go_wp2_with fail
        refine (l3Join_any B _ us HP.out k j hk hj _ s3 (by omega)).mono ?_
        rintro e w4 ⟨rfl, hb4⟩
        go_wp2_with fail
        go_ret
        exact ⟨by rw [HE.out]; rfl, below_then b3 hb4 (Nat.le_refl _)⟩

def downsL (us : List Int) (k : Nat) : List Int := (List.range k).map fun i => setN (dnR us i)
theorem downsL_len (us : List Int) (k : Nat) : (downsL us k).length = k := by simp [downsL]
theorem downsL_at (us : List Int) (k i : Nat) (h : i < k) : (downsL us k).getD i 0 = setN (dnR us i) := by simp [downsL, h]
theorem downsL_succ (us : List Int) (k : Nat) : downsL us (k + 1) = downsL us k ++ [setN (dnR us k)] := by simp [downsL, List.range_succ]
theorem rows_dn {us : List Int} (h : OrdP us) (a b : Nat) : RowsOf (downsL us us.length) (dnR us) (bothR (dnR us) a b) := by
  refine ⟨by rw [downsL_len]; exact h.len.2, fun i hi => ?_, fun x hx hp => ?_⟩
  · rw [downsL_len] at hi; exact downsL_at us _ i hi
  · rw [downsL_len]
    simp only [bothR, Bool.and_eq_true, dnR_iff us _ _ hx, upR_iff] at hp
    exact hp.1.1

set_option maxHeartbeats 2000000 in
set_option maxRecDepth 100000 in
theorem sMeet_any (B : Nat) (v : Value) (us : List Int) (a b : Int) (w : World) (hs : SeeI w B v us) (hB : B ≤ w.heap.size) : Calls Try.prog 65 #[.agg #[v], .int .i64 a, .int .i64 b] w (IntOf w (meetS us a b)) := by
  obtain ⟨A, c, rfl⟩ := hs.shape
  have hm := hs.1
  have hs1 := hs.alloc hB (.cells #[.slice A us.length c] 30)
  have c0 : (w.alloc (.cells #[.slice A us.length c] 30)).cell? ⟨w.heap.size, 0, none⟩ = some (.slice A us.length c) := cell_of_row _ _ 0 _ _ (0, 0) (heap_alloc_new _ _)
  have b0 : Below w.heap.size w (w.alloc (.cells #[.slice A us.length c] 30)) := (Below.refl _ _).alloc (Nat.le_refl _) _
  have Z0 := Lib.hid (show (w.alloc (.cells #[.slice A us.length c] 30)).heap.size = w.heap.size + 1 from by simp)
  go_enter Try.func65, Try.ntmps65
  go_wp2_with fail
  generalize w.alloc _ = W at hs1 c0 b0 Z0 ⊢
  refine (sOrderOk_any B _ us _ hs1 (by have := Z0.out; omega)).mono ?_
  rintro e w1 ⟨rfl, hb1⟩
  have c1 := (hb1.cell (p := ⟨w.heap.size, 0, none⟩) (by have := Z0.out; simp; omega)).trans c0
  have s1 := hs1.below (hb1.mono (by have := Z0.out; omega))
  have b1 := below_then b0 hb1 (Nat.le_refl _)
  have g1 : w.heap.size < w1.heap.size := by have := hb1.size; have := Z0.out; omega
  clear hs1 c0 b0 hb1 Z0
  cases ho : ordS us
  · go_wp2_with fail
    go_ret
    exact ⟨by simp only [meetS, ho, Bool.false_and]; rfl, b1⟩
  · have HP := Lib.hid ((ordS_iff us).1 ho)
    go_wp2_with fail
    refine (l2Has_any _ us _ hm _ _).mono ?_
    rintro e w2 ⟨rfl, hb2⟩
    have c2 := (hb2.cell (p := ⟨w.heap.size, 0, none⟩) (by simp; omega)).trans c1
    have s2 := s1.below (hb2.mono (by omega))
    have b2 := below_then b1 hb2 (Nat.le_refl _)
    have g2 : w.heap.size < w2.heap.size := by have := hb2.size; omega
    clear c1 s1 b1 hb2
    cases ra : isR us a
    · go_wp2_with fail
      go_ret
      exact ⟨by simp only [meetS, ho, ra, Bool.false_and, Bool.and_false]; rfl, b2⟩
    · obtain ⟨k, rfl, hk⟩ := isR_nat ra
      go_wp2_with fail
      refine (l2Has_any _ us _ hm _ _).mono ?_
      rintro e w3 ⟨rfl, hb3⟩
      have c3 := (hb3.cell (p := ⟨w.heap.size, 0, none⟩) (by simp; omega)).trans c2
      have s3 := s2.below (hb3.mono (by omega))
      have b3 := below_then b2 hb3 (Nat.le_refl _)
      have g3 : w.heap.size < w3.heap.size := by have := hb3.size; omega
      clear c2 s2 b2 hb3
      cases rb : isR us b
      · go_wp2_with fail
        go_ret
        exact ⟨by simp only [meetS, ho, rb, Bool.and_false]; rfl, b3⟩
      · obtain ⟨j, rfl, hj⟩ := isR_nat rb
        have HE : Hid (meetS us k j = leastT (dnR us) (bothR (dnR us) k j)) := Lib.hid (by simp only [meetS, ho, ra, rb, Bool.true_and, Int.toNat_natCast]; rfl)
        clear ra rb ho
        obtain ⟨i0, hi, hz0, hz1, hz2⟩ := info_parts Try.infoInt64
        have h6 := HP.out.len.2
        go_wp2_with fail
        go_loopw [7, 8] (fun v i wr => ∃ q : Nat, q ≤ us.length ∧ i = .int .i64 q ∧ OwnI wr (w.heap.size + 1) 2 v (downsL us q) ∧ wr.cell? ⟨w.heap.size, 0, none⟩ = some (.slice A us.length c) ∧ SeeI wr B (.slice A us.length c) us ∧ Below w.heap.size w wr ∧ w.heap.size < wr.heap.size) (fun _ i _ => us.length - (intOf i).toNat)
        case atStart => exact ⟨0, Nat.zero_le _, rfl, OwnI.empty _ _ _ (by omega), (World.cell?_alloc_lt _ _ _ (by simp; omega)).trans c3, s3.alloc (by omega) _, b3.alloc (by omega) _, by simp; omega⟩
        case round =>
          obtain ⟨q, hq, rfl, o4, c4, s4, b4, g4⟩ := hrel
          clear c3 s3 b3 g3
          by_cases hlt : q < us.length
          · have HD := Lib.hid (downs_at us q)
            have R := Lib.hid (downsL_succ us q)
            go_wp2_with fail
            refine (l2Downs_any B _ us q h6 (by omega) _ s4 (by omega)).mono ?_
            rintro e w5 ⟨rfl, hb5⟩
            rw [HD.out]
            have o5 : OwnI w5 (w.heap.size + 1) 2 _ (downsL us q) := ownI_later o4 hb5
            have HLL := Lib.hid (downsL_len us q)
            have c5 := (hb5.cell (p := ⟨w.heap.size, 0, none⟩) (by simp; omega)).trans c4
            have s5 := s4.below (hb5.mono (by omega))
            have b5 := below_then b4 hb5 (Nat.le_refl _)
            have g5 := Nat.lt_of_lt_of_le g4 hb5.size
            clear c4 s4 b4 g4 hb5 o4
            generalize setN (dnR us q) = d at R ⊢
            go_wp2_with (at_builtin; refine wpList_append_own _ rfl _ _ 22 rfl (w.heap.size + 1) 2 i0 (.int .i64 0) 1 8 Try.underlying22 hi hz0 hz1 hz2 rfl (by decide) _ _ _ rfl (o5.alloc _) ⟨w5.heap.size, 0, none⟩ 1 1 [.int .i64 d] rfl rfl ?c1 ?c2 ?c3 ?c4 ?c5 ?_)
            case c1 =>
              intro j u hj
              match j, hj with
              | 0, hj => simp at hj; subst hj; simp [Addr.add]
            case c2 => intro u hu; simp at hu; subst hu; rfl
            case c3 => have := HLL.out; unfold maxLen; omega
            case c4 => have := HLL.out; omega
            case c5 => simp; omega
            intro v' w6 hown' hgrow _
            obtain ⟨a1, a2⟩ := own_push (Below.refl (w.heap.size + 1) w5) (by omega) o5 hown' hgrow
            clear hown' hgrow
            go_wp2
            go_roundw
            case rel => exact ⟨q + 1, by omega, by go_num, by rw [R.out]; exact a1, (a2.cell (by simp)).trans c5, s5.below (a2.mono (by omega)), b5.trans (a2.mono (by omega)), Nat.lt_of_lt_of_le g5 a2.size⟩
            case measure => simp [intOf]; omega
          · obtain rfl : q = us.length := by omega
            have RW := Lib.hid (rows_dn HP.out k j)
            have hll := downsL_len us us.length
            obtain ⟨A', c', rfl⟩ := o4.see.shape
            obtain ⟨g, o, x, rfl, -, hx, hcx⟩ := o4.see.at_ (k := k) (by omega)
            obtain ⟨g', o', y, hA', -, hy, hcy⟩ := o4.see.at_ (k := j) (by omega)
            injection hA' with e1
            injection e1 with e1 e2
            subst e1 e2
            have ex := downsL_at us us.length k hk
            rw [List.getD, hx, Option.getD_some] at ex
            have ey := downsL_at us us.length j hj
            rw [List.getD, hy, Option.getD_some] at ey
            subst ex ey
            have hA : bits BinOp.and IntKind.i64 (setN (dnR us k)) (setN (dnR us j)) = setN (bothR (dnR us) k j) := setN_and _ _
            have T1 := Lib.hid fun W v hs hB => l3Least_any wr.heap.size v (downsL us us.length) (dnR us) (bothR (dnR us) k j) RW.out W hs hB
            have se := o4.see
            rw [hll] at se ⊢
            have i1 : (k : Int) < us.length := by omega
            have i2 : (j : Int) < us.length := by omega
            clear hx hy RW o4
            go_wp2_with fail
            have dx := later_cell hcx
            have dy := later_cell hcy
            refine region_later (by kernel_rfl) (by kernel_rfl) ?_
            repeat (go_big_quiet_step ((go_at_call 76; rename_i i; exact later_same (T1.out _ _ (se.below i.old) i.old.size))))
            refine wpQuiet_nil ?_
            rintro _ ⟨⟨w6, hbk⟩, rfl⟩
            go_wp2_with fail
            go_ret
            exact ⟨by rw [HE.out]; rfl, below_then b4 hbk (Nat.le_refl _)⟩

end Go.Proofs.Ytigcbegeaikfcaa
