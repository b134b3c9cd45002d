/- The model's Join and Meet. -/
import Derived.Test.YtigcbegeaikfcaaLatM
import Derived.Test.YtigcbegeaikfcaaOrdG
namespace Go.Proofs.Ytigcbegeaikfcaa
open Go.RowKit
set_option linter.unusedVariables false

/-- The rows zs are the sets of S, and all of p are there. -/
structure RowsOf (zs : List Int) (S : Nat → Nat → Bool) (p : Nat → Bool) : Prop where
  len : zs.length ≤ 6
  at_ : ∀ i, i < zs.length → zs.getD i 0 = setN (S i)
  all : ∀ x, x < 6 → p x = true → x < zs.length
theorem sub_test (p q : Nat → Bool) : (bits BinOp.andNot IntKind.i64 (setN p) (setN q) == 0) = (List.range 6).all fun x => !p x || q x := by
  rw [Bool.eq_iff_iff, beq_iff_eq, andNot_range _ _ (setN_range p).1 (setN_range p).2 (setN_range q).1 (setN_range q).2, List.all_eq_true]
  constructor
  · intro h x hx
    have hx6 := List.mem_range.1 hx
    have := h ⟨x, hx6⟩
    simp only [bit_setN _ _ hx6] at this
    cases hp : p x
    · rfl
    · simp [this hp]
  · intro h x hx
    rw [bit_setN _ _ x.2] at hx ⊢
    have := h x (List.mem_range.2 x.2)
    rw [hx] at this
    simpa using this

set_option maxHeartbeats 1000000 in
theorem l3Least_any (B : Nat) (v : Value) (zs : List Int) (S : Nat → Nat → Bool) (p : Nat → Bool) (hr : RowsOf zs S p) (w : World) (hs : SeeI w B v zs) (hB : B ≤ w.heap.size) :
    Calls Try.prog 76 #[.int .i64 (setN p), v] w fun e w' => e = .returned (.int .i64 (leastT S p)) ∧ w = w' := by
  obtain ⟨A, c, rfl⟩ := hs.shape
  have hl := hr.len
  have HR := Lib.hid hr
  clear hr
  go_enter Try.func76, Try.ntmps76
  go_wp2_with fail
  go_loop [5] (fun i => ∃ k : Nat, k ≤ zs.length ∧ i = .int .i64 k ∧ ∀ i, i < k → goodR S p i = false) (fun i => zs.length - (intOf i).toNat)
  case atStart => exact ⟨0, Nat.zero_le _, rfl, fun i hi => by omega⟩
  case round =>
    obtain ⟨k, hk, rfl, hno⟩ := hrel
    have HN := Lib.hid hno
    clear hno
    by_cases hlt : k < zs.length
    · obtain ⟨g, o, u, rfl, -, hu, hcu⟩ := hs.at_ hlt
      have hS := HR.out.at_ k hlt
      rw [List.getD, hu, Option.getD_some] at hS
      subst hS
      have hp := bit_setN p k (by omega)
      have ht := sub_test p (S k)
      have HG : Hid (goodR S p k = (p k && (List.range 6).all fun x => !p x || S k x)) := Lib.hid rfl
      have HL := Lib.hid fun W => l1Has_any (setN p) k (by omega) (by omega) W
      rw [hp] at HL
      generalize (List.range 6).all (fun x => !p x || S k x) = q at ht HG
      clear hu hp
      cases hpk : p k
      · have HF : Hid (goodR S p k = false) := Lib.hid (by rw [HG.out, hpk]; rfl)
        rw [hpk] at HL
        go_wp2_with fail
        refine (HL.out _).mono ?_
        rintro e w' ⟨rfl, rfl⟩
        go_wp2_with fail
        go_round
        case rel => exact ⟨k + 1, by omega, by go_num, fun i hi => by
          rcases Nat.lt_or_ge i k with h | h
          · exact HN.out i h
          · obtain rfl : i = k := by omega
            exact HF.out⟩
        case measure => simp [intOf]; omega
      · rw [hpk] at HL
        cases q
        · have HF : Hid (goodR S p k = false) := Lib.hid (by rw [HG.out, hpk]; rfl)
          go_wp2_with fail
          refine (HL.out _).mono ?_
          rintro e w' ⟨rfl, rfl⟩
          go_wp2_with fail
          go_round
          case rel => exact ⟨k + 1, by omega, by go_num, fun i hi => by
            rcases Nat.lt_or_ge i k with h | h
            · exact HN.out i h
            · obtain rfl : i = k := by omega
              exact HF.out⟩
          case measure => simp [intOf]; omega
        · have HF : Hid (leastT S p = (k : Int)) := Lib.hid (least_first (by omega) HN.out (by rw [HG.out, hpk]; rfl))
          go_wp2_with fail
          refine (HL.out _).mono ?_
          rintro e w' ⟨rfl, rfl⟩
          go_wp2_with fail
          go_ret
          exact ⟨by rw [HF.out]; rfl, rfl⟩
    · obtain rfl : k = zs.length := by omega
      have HF : Hid (leastT S p = -1) := Lib.hid (least_no fun i hi => by
        rcases Nat.lt_or_ge i zs.length with h | h
        · exact HN.out i h
        · cases hpi : p i
          · simp [goodR, hpi]
          · have := HR.out.all i hi hpi; omega)
      go_wp2_with fail
      go_ret
      exact ⟨by rw [HF.out]; rfl, rfl⟩

theorem rows_up {us : List Int} (h : OrdP us) (a b : Nat) : RowsOf us (upR us) (bothR (upR us) a b) :=
  ⟨h.len.2, fun i hi => ups_at h hi, fun x hx hp => h.inside (a := a) hx (by simp only [bothR, Bool.and_eq_true] at hp; exact hp.1)⟩

set_option maxHeartbeats 1000000 in
set_option maxRecDepth 100000 in
theorem l3Join_any (B : Nat) (v : Value) (us : List Int) (h : OrdP us) (a b : Nat) (ha : a < us.length) (hb : b < us.length) (w : World) (hs : SeeI w B v us) (hB : B ≤ w.heap.size) :
    Calls Try.prog 74 #[.agg #[v], .int .i64 a, .int .i64 b] w (IntOf w (leastT (upR us) (bothR (upR us) a b))) := by
  obtain ⟨A, c, rfl⟩ := hs.shape
  have hm := hs.1
  have h6 := h.len.2
  have hs1 := hs.alloc hB (.cells #[.slice A us.length c] 30)
  have c0 : (w.alloc (.cells #[.slice A us.length c] 30)).cell? ⟨w.heap.size, 0, none⟩ = some (.slice A us.length c) := cell_of_row _ _ 0 _ _ (0, 0) (heap_alloc_new _ _)
  have b0 : Below w.heap.size w (w.alloc (.cells #[.slice A us.length c] 30)) := (Below.refl _ _).alloc (Nat.le_refl _) _
  have z0 : w.heap.size < (w.alloc (.cells #[.slice A us.length c] 30)).heap.size := by simp
  obtain ⟨g, o, x, hA, hg, hx, hcx⟩ := hs1.at_ ha
  obtain ⟨g', o', y, hA', -, hy, hcy⟩ := hs1.at_ hb
  rw [hA] at hA'
  injection hA' with e1
  injection e1 with e1 e2
  subst e1 e2 hA
  have ex := ups_at h ha
  rw [List.getD, hx, Option.getD_some] at ex
  have ey := ups_at h hb
  rw [List.getD, hy, Option.getD_some] at ey
  subst ex ey
  have hA : bits BinOp.and IntKind.i64 (setN (upR us a)) (setN (upR us b)) = setN (bothR (upR us) a b) := setN_and _ _
  have T1 := Lib.hid fun W v hs hB => l3Least_any B v us (upR us) (bothR (upR us) a b) (rows_up h a b) W hs hB
  have i1 : (a : Int) < us.length := by omega
  have i2 : (b : Int) < us.length := by omega
  clear hx hy h
  go_enter Try.func74, Try.ntmps74
  go_wp2_with fail
  generalize w.alloc _ = W at hs1 c0 b0 z0 hcx hcy ⊢
  have d0 := later_cell c0
  have dx := later_cell hcx
  have dy := later_cell hcy
  refine region_later (by kernel_rfl) (by kernel_rfl) ?_
  repeat (go_big_quiet_step ((go_at_call 76; rename_i i; exact later_same (T1.out _ _ (hs1.below (i.old.mono (by omega))) (Nat.le_trans (by omega) i.old.size)))))
  refine wpQuiet_nil ?_
  rintro _ ⟨⟨w2, hbk⟩, rfl⟩
  go_wp2_with fail
  go_ret
  exact ⟨rfl, below_then b0 hbk (Nat.le_refl _)⟩

end Go.Proofs.Ytigcbegeaikfcaa
