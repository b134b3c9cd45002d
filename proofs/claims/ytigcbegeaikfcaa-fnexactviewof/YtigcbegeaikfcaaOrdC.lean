/- laidOut where it says no; ladderOf. -/
import Derived.Test.YtigcbegeaikfcaaOrdB
import Derived.Deep.RegionHeld3
namespace Go.Proofs.Ytigcbegeaikfcaa
open Go.RowKit
set_option linter.unusedVariables false

set_option maxHeartbeats 2000000 in
set_option maxRecDepth 100000 in
theorem laidOut_no (B : Nat) (v : Value) (us : List Int) (w : World) (hs : SeeI w B v us) (hB : B ≤ w.heap.size) (h : laidB us = false) : Calls Try.prog 79 #[.agg #[v]] w (LadOut w (ladR zeroR) false) := by
  obtain ⟨A, c, rfl⟩ := hs.shape
  have hm := hs.1
  unfold maxLen at hm
  by_cases h12 : 1 ≤ us.length ∧ us.length ≤ 6
  · obtain ⟨h1, h2⟩ := h12
    have H3 : Hid (¬ ∀ u ∈ us, 0 ≤ u ∧ u ≤ 2 ^ us.length - 1) := Lib.hid (by
      intro hall
      simp only [laidB, h1, h2, and_self, decide_true, Bool.true_and] at h
      rw [List.all_eq_false] at h
      obtain ⟨x, hx, hn⟩ := h
      exact hn (by simpa using hall x hx))
    clear h
    have HA : Hid (allB us.length = 2 ^ us.length - 1) := Lib.hid (by simp [allB]; omega)
    have HP : Hid ((2 : Int) ^ us.length ≤ 64) := Lib.hid (by have := (bit_small us.length (by omega) (by omega)).2.1; simpa using this)
    have hs2 : SeeI (((w.alloc (.cells #[.slice A us.length c] 30)).alloc (.cells (cellsI (ladR zeroR)) 73)).alloc (.cells (cellsI (ladR zeroR)) 73)) B (.slice A us.length c) us := ((hs.alloc hB _).alloc (by simp; omega) _).alloc (by simp; omega) _
    have L0 := ((Lad.new (w.alloc (.cells #[.slice A us.length c] 30)) 73 (ladR zeroR)).alloc (.cells (cellsI (ladR zeroR)) 73))
    have L2 := Lad.new ((w.alloc (.cells #[.slice A us.length c] 30)).alloc (.cells (cellsI (ladR zeroR)) 73)) 73 (ladR zeroR)
    have b0 : Below w.heap.size w (((w.alloc (.cells #[.slice A us.length c] 30)).alloc (.cells (cellsI (ladR zeroR)) 73)).alloc (.cells (cellsI (ladR zeroR)) 73)) := (((Below.refl _ _).alloc (Nat.le_refl _) _).alloc (by simp) _).alloc (by simp; omega) _
    rw [World.size_alloc] at L0
    rw [World.size_alloc, World.size_alloc] at L2
    rw [cells0] at L0 L2 b0 hs2
    rw [upK_zero us] at L2
    go_enter Try.func79, Try.ntmps79
    go_wp2_with fail
    refine (rankCount_any _ _ _ hs.1 _).mono ?_
    rintro e w1 ⟨rfl, hb1⟩
    have g1 := hb1.size
    simp at g1
    have r1 := (old_reads hb1).1
    have L0' := L0.below hb1 L0.lt
    have L2' := L2.below hb1 L2.lt
    have b0' := b0.trans (hb1.mono (by simp; omega))
    have hs' := hs2.below (hb1.mono (by simp; omega))
    clear L0 L2 b0 hs2 hs
    go_wp2_with fail
    clear r1 hb1
    go_loopw [20] (fun i wr => ∃ k : Nat, k ≤ us.length ∧ i = .int .i64 k ∧ Lad wr (w.heap.size + 1) 73 (ladR zeroR) ∧ Lad wr (w.heap.size + 1 + 1) 73 (ladR (upK us k)) ∧ Below w.heap.size w wr ∧ SeeI wr B (.slice A us.length c) us ∧ (∀ u ∈ us.take k, 0 ≤ u ∧ u ≤ 2 ^ us.length - 1)) (fun i _ => us.length - (intOf i).toNat)
    case atStart => exact ⟨0, Nat.zero_le _, rfl, L0', L2', b0', hs', by simp⟩
    case round =>
      obtain ⟨k, hk, rfl, l1, l2, hb, hs, hall⟩ := hrel
      have HH := Lib.hid hall
      clear L0' L2' b0' hs' hall
      obtain ⟨c0, c1, c2, c3, c4, c5⟩ := l1.six (ladR_len _)
      obtain ⟨f0, f1, f2, f3, f4, f5⟩ := l1.free
      by_cases hlt : k < us.length
      · obtain ⟨g, o, x, rfl, -, hx, hcx⟩ := hs.at_ hlt
        have HX := Lib.hid hx
        clear hx
        by_cases q0 : 0 ≤ x
        · by_cases q1 : x ≤ 2 ^ us.length - 1
          · have q2 : x ≤ 63 := by have := HP.out; omega
            have Q1 := Lib.hid q1
            clear q1
            have RR := Lib.hid (l2.set k x)
            rw [upK_succ us k (by omega) x HX.out q0 q2] at RR
            have hc := l2.cell (k := k) (by rw [ladR_len]; omega)
            have hf := l2.frozen k
            have HN : Hid (∀ u ∈ us.take (k + 1), 0 ≤ u ∧ u ≤ 2 ^ us.length - 1) := Lib.hid (by
              intro u hu
              rw [List.take_add_one, HX.out] at hu
              simp only [Option.toList_some, List.mem_append, List.mem_singleton] at hu
              rcases hu with hu | rfl
              · exact HH.out u hu
              · exact ⟨q0, Q1.out⟩)
            clear c0 c1 c2 c3 c4 c5 f0 f1 f2 f3 f4 f5
            go_wp2_with fail
            refine (iAllOf_any _ _).mono ?_
            rintro e w' ⟨rfl, rfl⟩
            rw [HA.out]
            have q1 : ¬ (2 : Int) ^ us.length - 1 < x := by have := Q1.out; omega
            go_wp2_with fail
            go_roundw
            case rel => exact ⟨k + 1, by omega, by go_num, l1.far (by simp) _, RR.out, hb.setCell (by simp; omega) _, hs.keep fun p hp => World.cell?_setCell_other _ _ p _ (fun e => by subst e; simp at hp; omega), HN.out⟩
            case measure => simp [intOf]; omega
          · have q1' : (2 : Int) ^ us.length - 1 < x := by omega
            clear q1
            go_wp2_with fail
            refine (iAllOf_any _ _).mono ?_
            rintro e w' ⟨rfl, rfl⟩
            rw [HA.out]
            go_wp2_with fail
            refine bodyPost_ret (v := .tuple #[.agg (cellsI (ladR zeroR)), .bool false]) (by rw [cells0]; simp [results, Try.results79, go_sem, c0, c1, c2, c3, c4, c5]) rfl ⟨rfl, ?_⟩
            (repeat refine Below.setCell ?_ (by simp) _)
            exact hb
        · go_wp2_with fail
          refine bodyPost_ret (v := .tuple #[.agg (cellsI (ladR zeroR)), .bool false]) (by rw [cells0]; simp [results, Try.results79, go_sem, c0, c1, c2, c3, c4, c5]) rfl ⟨rfl, ?_⟩
          (repeat refine Below.setCell ?_ (by simp) _)
          exact hb
      · exfalso
        apply H3.out
        have := HH.out
        rwa [List.take_of_length_le (by omega)] at this
  · clear h
    by_cases h0 : us.length < 1
    · go_enter Try.func79, Try.ntmps79
      go_wp2_with fail
      refine (rankCount_any _ _ _ hs.1 _).mono ?_
      rintro e w1 ⟨rfl, hb1⟩
      have g1 := hb1.size
      simp at g1
      obtain ⟨r1, r2, -⟩ := old_reads hb1
      go_wp2_with fail
      refine bodyPost_ret (v := .tuple #[.agg (cellsI (ladR zeroR)), .bool false]) (by rw [cells0]; simp [results, Try.results79, go_sem, r1]) rfl ⟨rfl, ?_⟩
      (repeat refine Below.setCell ?_ (by simp) _)
      exact (((((Below.refl _ _).alloc (Nat.le_refl _) _).alloc (by simp) _).alloc (by simp; omega) _).trans (hb1.mono (by simp; omega)))
    · have h6 : 6 < us.length := by omega
      go_enter Try.func79, Try.ntmps79
      go_wp2_with fail
      refine (rankCount_any _ _ _ hs.1 _).mono ?_
      rintro e w1 ⟨rfl, hb1⟩
      have g1 := hb1.size
      simp at g1
      obtain ⟨r1, r2, -⟩ := old_reads hb1
      go_wp2_with fail
      refine bodyPost_ret (v := .tuple #[.agg (cellsI (ladR zeroR)), .bool false]) (by rw [cells0]; simp [results, Try.results79, go_sem, r1]) rfl ⟨rfl, ?_⟩
      (repeat refine Below.setCell ?_ (by simp) _)
      exact (((((Below.refl _ _).alloc (Nat.le_refl _) _).alloc (by simp) _).alloc (by simp; omega) _).trans (hb1.mono (by simp; omega)))

end Go.Proofs.Ytigcbegeaikfcaa
