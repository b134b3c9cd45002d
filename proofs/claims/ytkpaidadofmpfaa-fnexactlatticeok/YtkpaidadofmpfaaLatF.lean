/- The model's BottomOf and JoinAll. -/
import Derived.Test.YtkpaidadofmpfaaLatN
namespace Go.Proofs.Ytkpaidadofmpfaa
open Go.RowKit
set_option linter.unusedVariables false

set_option maxHeartbeats 1000000 in
theorem l3Bottom_any (B : Nat) (v : Value) (us : List Int) (h : OrdP us) (w : World) (hs : SeeI w B v us) (hB : B ≤ w.heap.size) :
    Calls Try.prog 53 #[.agg #[v]] w (IntOf w (leastT (upR us) (fun x => decide (x < us.length)))) := by
  obtain ⟨A, c, rfl⟩ := hs.shape
  have h6 := h.len.2
  have hs1 := hs.alloc hB (.cells #[.slice A us.length c] 26)
  have c0 : (w.alloc (.cells #[.slice A us.length c] 26)).cell? ⟨w.heap.size, 0, none⟩ = some (.slice A us.length c) := cell_of_row _ _ 0 _ _ (0, 0) (heap_alloc_new _ _)
  have b0 : Below w.heap.size w (w.alloc (.cells #[.slice A us.length c] 26)) := (Below.refl _ _).alloc (Nat.le_refl _) _
  have z0 : w.heap.size < (w.alloc (.cells #[.slice A us.length c] 26)).heap.size := by simp
  have HF := Lib.hid (setN_first us.length h6)
  have hp : (2 : Int) ^ us.length ≤ 64 := pow_le64 h6
  have hp0 : (0 : Int) < 2 ^ us.length := Int.pow_pos (by decide)
  have T1 := Lib.hid fun W v hs hB => l3Least_any B v us (upR us) (fun x => decide (x < us.length)) ⟨h6, fun i hi => ups_at h hi, fun x hx hp => by simpa using hp⟩ W hs hB
  rw [HF.out] at T1
  generalize leastT (upR us) (fun x => decide (x < us.length)) = r at T1 ⊢
  clear h
  go_enter Try.func53, Try.ntmps53
  go_wp2_with fail
  generalize w.alloc _ = W at hs1 c0 b0 z0 ⊢
  refine (l1Bit_any _ (by omega) (by omega) _).mono ?_
  rintro e w' ⟨rfl, rfl⟩
  rw [Int.toNat_natCast]
  go_wp2_with fail
  refine (T1.out _ _ hs1 (by omega)).mono ?_
  rintro e w' ⟨rfl, rfl⟩
  go_wp2_with fail
  go_ret
  exact ⟨rfl, b0⟩

set_option maxHeartbeats 1000000 in
theorem sBottomOf_any (B : Nat) (v : Value) (us : List Int) (w : World) (hs : SeeI w B v us) (hB : B ≤ w.heap.size) : Calls Try.prog 24 #[.agg #[v]] w (IntOf w (joinAllS us 0)) := by
  obtain ⟨A, c, rfl⟩ := hs.shape
  have hs1 := hs.alloc hB (.cells #[.slice A us.length c] 26)
  have c0 : (w.alloc (.cells #[.slice A us.length c] 26)).cell? ⟨w.heap.size, 0, none⟩ = some (.slice A us.length c) := cell_of_row _ _ 0 _ _ (0, 0) (heap_alloc_new _ _)
  have b0 : Below w.heap.size w (w.alloc (.cells #[.slice A us.length c] 26)) := (Below.refl _ _).alloc (Nat.le_refl _) _
  have z0 : w.heap.size < (w.alloc (.cells #[.slice A us.length c] 26)).heap.size := by simp
  have HE := Lib.hid (bottom_eq us)
  go_enter Try.func24, Try.ntmps24
  go_wp2_with fail
  generalize w.alloc _ = W at hs1 c0 b0 z0 ⊢
  refine (sLatticeOk_any B _ us _ hs1 (by omega)).mono ?_
  rintro e w1 ⟨rfl, hb1⟩
  have c1 := (hb1.cell (p := ⟨w.heap.size, 0, none⟩) (by simp; omega)).trans c0
  have s1 := hs1.below (hb1.mono (by omega))
  have b1 := below_then b0 hb1 (Nat.le_refl _)
  have g1 : w.heap.size < w1.heap.size := by have := hb1.size; omega
  clear hs1 c0 b0 hb1
  cases hl : latS us
  · rw [hl] at HE
    go_wp2_with fail
    go_ret
    exact ⟨by rw [HE.out]; rfl, b1⟩
  · rw [hl] at HE
    have HB := Lib.hid (l3Bottom_any B _ us (lat_ord hl) w1 s1 (by omega))
    clear hl
    go_wp2_with fail
    refine HB.out.mono ?_
    rintro e w2 ⟨rfl, hb2⟩
    go_wp2_with fail
    go_ret
    exact ⟨by rw [HE.out]; rfl, below_then b1 hb2 (Nat.le_refl _)⟩

theorem members_lt {us : List Int} (h : OrdP us) {s : Int} (h0 : 0 ≤ s) (h1 : s ≤ 2 ^ us.length - 1) {x : Int} (hx : x ∈ sel (bitB s) 6) : ∃ m : Nat, x = m ∧ m < us.length := by
  obtain ⟨j, h2, rfl, h3⟩ := mem_sel.1 hx
  refine ⟨j, rfl, ?_⟩
  rcases Nat.lt_or_ge j us.length with h' | h'
  · exact h'
  · rw [bit_high s us.length j h.len.2 h2 h0 h1 h'] at h3; cases h3

set_option maxHeartbeats 4000000 in
set_option maxRecDepth 100000 in
theorem l3All_any (B : Nat) (v : Value) (us : List Int) (h : latS us = true) (s : Int) (h0 : 0 ≤ s) (h1 : s ≤ 2 ^ us.length - 1) (w : World) (hs : SeeI w B v us) (hB : B ≤ w.heap.size) :
    Calls Try.prog 52 #[.agg #[v], .int .i64 s] w (IntOf w (leastT (upR us) (aboveR us (sel (bitB s) 6)))) := by
  obtain ⟨A, c, rfl⟩ := hs.shape
  have hP := lat_ord h
  have hs1 := hs.alloc hB (.cells #[.slice A us.length c] 26)
  have c0 : (w.alloc (.cells #[.slice A us.length c] 26)).cell? ⟨w.heap.size, 0, none⟩ = some (.slice A us.length c) := cell_of_row _ _ 0 _ _ (0, 0) (heap_alloc_new _ _)
  have b0 : Below w.heap.size w (w.alloc (.cells #[.slice A us.length c] 26)) := (Below.refl _ _).alloc (Nat.le_refl _) _
  have z0 : w.heap.size < (w.alloc (.cells #[.slice A us.length c] 26)).heap.size := by simp
  have HM : Hid (∀ x ∈ sel (bitB s) 6, ∃ m : Nat, x = m ∧ m < us.length) := Lib.hid fun x hx => members_lt hP h0 h1 hx
  have hml := sel_le (bitB s) 6
  obtain ⟨z, hz⟩ := rep_bottom h
  have HZ : Hid (leastT (upR us) (fun x => decide (x < us.length)) = (z : Int)) := Lib.hid (by rw [← above_nil]; exact rep_least hP hz)
  have HB := Lib.hid fun W v hs hB => l3Bottom_any B v us hP W hs hB
  have HJ := Lib.hid fun (a b : Nat) ha hb W v hs hB => l3Join_any B v us hP a b ha hb W hs hB
  have HS := Lib.hid fun (ms : List Int) (r m : Nat) => rep_step (us := us) (ms := ms) (r := r) (m := m) h
  have HR := Lib.hid fun (r : Nat) P => rep_least (us := us) (r := r) (P := P) hP
  rw [HZ.out] at HB
  clear h hP h0 h1
  go_enter Try.func52, Try.ntmps52
  go_wp2_with fail
  generalize w.alloc _ = W at hs1 c0 b0 z0 ⊢
  refine (HB.out _ _ hs1 (by omega)).mono ?_
  rintro e w1 ⟨rfl, hb1⟩
  have c1 := (hb1.cell (p := ⟨w.heap.size, 0, none⟩) (by simp; omega)).trans c0
  have s1 := hs1.below (hb1.mono (by omega))
  have b1 := below_then b0 hb1 (Nat.le_refl _)
  have g1 : w.heap.size < w1.heap.size := by have := hb1.size; omega
  clear hs1 c0 b0 hb1
  go_wp2_with fail
  refine (l1Members_any _ _).mono ?_
  rintro e w2 ⟨v2, rfl, o2, hb2⟩
  have c2 := (hb2.cell (p := ⟨w.heap.size, 0, none⟩) (by simp; omega)).trans c1
  have s2 := s1.below (hb2.mono (by omega))
  have b2 := below_then b1 hb2 (Nat.le_refl _)
  have g2 : w.heap.size < w2.heap.size := by have := hb2.size; omega
  have g3 := hb2.size
  clear c1 s1 b1 hb2
  generalize sel (bitB s) 6 = ms at *
  have m2 := o2.see
  clear o2
  obtain ⟨A2, q2, rfl⟩ := m2.shape
  go_wp2_with fail
  go_loopw [5, 7] (fun r i wr => ∃ k q : Nat, k ≤ ms.length ∧ i = .int .i64 k ∧ r = .int .i64 q ∧ Rep us q (aboveR us (ms.take k)) ∧ wr.cell? ⟨w.heap.size, 0, none⟩ = some (.slice A us.length c) ∧ SeeI wr B (.slice A us.length c) us ∧ Below w.heap.size w wr ∧ Below w2.heap.size w2 wr) (fun _ i _ => ms.length - (intOf i).toNat)
  case atStart => exact ⟨0, z, Nat.zero_le _, rfl, rfl, by rw [List.take_zero]; exact hz, c2, s2, b2, Below.refl _ _⟩
  case round =>
    obtain ⟨k, q, hk, rfl, rfl, hq, c3, s3, b3, d3⟩ := hrel
    have HQ := Lib.hid hq
    have g4 := d3.size
    clear c2 s2 b2 hz hq
    by_cases hlt : k < ms.length
    · obtain ⟨g, o, x, rfl, -, hx, hcx⟩ := (m2.below d3).at_ hlt
      obtain ⟨m, rfl, hm⟩ := HM.out x (List.mem_of_getElem? hx)
      have HT : Hid (ms.take (k + 1) = ms.take k ++ [(m : Int)]) := Lib.hid (by rw [List.take_add_one, hx]; rfl)
      obtain ⟨q', hq', he⟩ := HS.out (ms.take k) q m HQ.out hm
      rw [← HT.out] at hq'
      have J := Lib.hid fun W v hs hB => HJ.out q m HQ.out.lt hm W v hs hB
      rw [he] at J
      have HQ' := Lib.hid hq'
      have i1 : (k : Int) < ms.length := by omega
      clear hx he hq'
      go_wp2_with fail
      have d0 := later_cell c3
      have dx := later_cell hcx
      refine region_later (by kernel_rfl) (by kernel_rfl) ?_
      repeat (go_big_quiet_step ((go_at_call 35; rename_i i; exact later_call (J.out _ _ (s3.below (i.old.mono (by omega))) (Nat.le_trans (by omega) i.old.size)))))
      refine wpQuiet_nil ?_
      rintro _ ⟨⟨w6, hbk⟩, rfl⟩
      have c6 := (hbk.cell (p := ⟨w.heap.size, 0, none⟩) (by simp; omega)).trans c3
      go_wp2_with fail
      go_roundw
      case rel => exact ⟨k + 1, q', by omega, by go_num, rfl, HQ'.out, c6, s3.below (hbk.mono (by omega)), below_then b3 hbk (Nat.le_refl _), below_then d3 hbk (Nat.le_refl _)⟩
      case measure => simp [intOf]; omega
    · obtain rfl : k = ms.length := by omega
      have HE : Hid (leastT (upR us) (aboveR us ms) = (q : Int)) := Lib.hid (HR.out q _ (by have := HQ.out; rwa [List.take_length] at this))
      go_wp2_with fail
      go_ret
      exact ⟨by rw [HE.out]; rfl, b3⟩

end Go.Proofs.Ytkpaidadofmpfaa
