/- Layer 9 (the player): does, whatever the op. No conditions but those typed. -/
import Derived.Test.YtpmdfogncoapjaaGreatDoorPlyI
namespace Go.Proofs.YtpmdfogncoapjaaGreatDoor
open Go.RowKit
set_option linter.unusedVariables false

theorem DoOut.swap {B N : Nat} {vs : Value} {c c' : Cr} {k : Int} {w w' : World} {e : Ending} (h : DoOut B N vs (endS c k) w e w') (hk : ¬ k = 0) : DoOut B N vs (endS c' k) w e w' := ⟨h.1, h.2.1, fun q => absurd q hk⟩

set_option maxHeartbeats 4000000 in
theorem load_full (B N : Nat) (x m : Int) (s : List UInt8) (vs u1 u2 u3 : Value) (zs : List Int) (bs : List Bx) (rs : List Int) (w : World) (h : Pl w B N (onS ⟨x, zs, bs, rs, 0⟩) vs u1 u2 u3) (hl : zs.length = 60) :
    Calls Tryz.prog 136 #[.pointer (some ⟨N, 0, none⟩), .agg #[.int .i64 2, .int .i64 m, str s]] w (DoOut B N vs (endS ⟨x, zs, bs, rs, 0⟩ 4) w) := by
  have hN := h.lt
  have hB := h.hB
  have hBw : B ≤ w.heap.size := by omega
  have bA := below_new w (.cells #[.int .i64 2, .int .i64 m, str s] 41)
  have HA := Lib.hid (h.later bA)
  have HO := Lib.hid (heap_alloc_new w (.cells #[.int .i64 2, .int .i64 m, str s] 41))
  have HBA := Lib.hid (bA.mono hBw)
  clear bA hBw h
  have HV := Lib.hid (fun v W q => iValueIn_any W.heap.size v bs s W q (Nat.le_refl _))
  have HPU := Lib.hid (fun v1 v2 v3 z W p => put_full B N x 0 0 0 false vs v1 v2 v3 zs bs rs z W p hl)
  generalize valueS bs s = z at *
  go_enter Tryz.func136, Tryz.ntmps136
  go_upto_region 1 with fail
  generalize w.alloc _ = W at *
  obtain ⟨p0, p1, p2, p3, p4, p5, p6, p7, p8⟩ := cells9 HA.out.blk
  dsimp only [onS] at p0 p1 p2 p3 p4 p5 p6 p7 p8
  obtain ⟨o0, o1, o2⟩ := cells3 HO.out
  have HAD := Lib.hid (show Pl W.drew B N (onS ⟨x, zs, bs, rs, 0⟩) vs u1 u2 u3 from HA.out.drewN 1)
  have HBD := Lib.hid (show Below B w W.drew from below_drewN HBA.out 1)
  have hS := HA.out.own.o2.see.shape
  obtain ⟨A2, c2, e2⟩ := hS
  dsimp only [onS] at e2
  subst e2
  go_region_with first
    | (go_at_call 19; refine (HV.out _ W.drew HAD.out.own.o2.see).mono ?_; rintro e w1 ⟨rfl, b1⟩)
    | (go_at_call 160; refine (HPU.out _ _ _ _ w1 (HAD.out.later b1)).mono ?_; rintro e w2 ⟨rfl, rfl⟩)
  all_goals (
    go_wp2_with fail
    go_ret
    exact DoOut.ends (by decide) (HBD.out.trans (b1.mono (by have := HAD.out.lt; have := HAD.out.hB; omega))))

set_option maxHeartbeats 1000000 in
theorem does_any (B N : Nat) (x : Int) (o : Opv) (As : Option Addr) (cs : Nat) (u1 u2 u3 : Value) (zs : List Int) (bs : List Bx) (rs : List Int) (ss : List (List Int)) (w : World) (h : Pl w B N (onS ⟨x, zs, bs, rs, 0⟩) (.slice As ss.length cs) u1 u2 u3)
    (sv : SeeSS w B (.slice As ss.length cs) ss) (hR : RightC x zs bs rs 0) (ho : opB o = true) :
    Calls Tryz.prog 47 #[.pointer (some ⟨N, 0, none⟩), .agg #[.int .i64 o.1, .int .i64 o.2.1, str o.2.2]] w (DoOut B N (.slice As ss.length cs) (if badS ⟨x, zs, bs, rs, 0⟩ o ss = true then endS ⟨x, zs, bs, rs, 0⟩ 4 else doS ⟨x, zs, bs, rs, 0⟩ o ss) w) := by
  have hk := opB_kind ho
  have hgt := opB_gate ho
  obtain ⟨a, m, s⟩ := o
  dsimp only at hk hgt ⊢
  have hx : 0 ≤ x ∧ x ≤ 300 := ⟨hR.x0, hR.x1⟩
  have hz := hR.zl
  have hrise := boxes_rise hR.bb
  have hb1 : ∀ {k : Int}, (k = 1 ∨ k = 2) → badS ⟨x, zs, bs, rs, 0⟩ (k, m, s) ss = decide (60 < zs.length + 1) := fun {k} q => by
    unfold badS needS
    rcases q with rfl | rfl <;> simp
  have hb2 : ∀ {k : Int}, (k = 3 ∨ k = 4 ∨ k = 7 ∨ k = 8 ∨ k = 9 ∨ k = 10) → badS ⟨x, zs, bs, rs, 0⟩ (k, m, s) ss = decide (zs.length < needS k) := fun {k} q => by
    unfold badS
    rcases q with rfl | rfl | rfl | rfl | rfl | rfl <;> simp
  have hb3 : ∀ {k : Int}, (k = 5 ∨ k = 6) → badS ⟨x, zs, bs, rs, 0⟩ (k, m, s) ss = (decide (zs.length < needS k) || decide ((ss.length : Int) ≤ m)) := fun {k} q => by
    unfold badS
    rcases q with rfl | rfl <;> simp
  by_cases h1 : a = 1
  · subst h1
    rw [hb1 (.inl rfl)]
    have e : doS ⟨x, zs, bs, rs, 0⟩ (1, m, s) ss = onS ⟨x + 1, zs ++ [m], bs, rs, 0⟩ := rfl
    rw [e]
    by_cases hf : 60 < zs.length + 1
    · rw [decide_eq_true hf, if_pos rfl]
      exact does_go_1 B N x m s As cs u1 u2 u3 zs bs rs ss w h hx hz (Nat.zero_le _) trivial _ (fun W p b => (push_full B N (x + 1) m s _ u1 u2 u3 zs bs rs W p (by omega)).mono fun e w' q => q.swap (by decide))
    · rw [decide_eq_false hf, if_neg (by decide)]
      exact does_go_1 B N x m s As cs u1 u2 u3 zs bs rs ss w h hx hz (Nat.zero_le _) trivial _ (fun W p b => push_on B N (x + 1) m s _ u1 u2 u3 zs bs rs W p (by omega))
  by_cases h2 : a = 2
  · subst h2
    rw [hb1 (.inr rfl)]
    have e : doS ⟨x, zs, bs, rs, 0⟩ (2, m, s) ss = onS ⟨x + 1, zs ++ [valueS bs s], bs, rs, 0⟩ := rfl
    rw [e]
    by_cases hf : 60 < zs.length + 1
    · rw [decide_eq_true hf, if_pos rfl]
      exact does_go_2 B N x m s As cs u1 u2 u3 zs bs rs ss w h hx hz (Nat.zero_le _) trivial _ (fun W p b => (load_full B N (x + 1) m s _ u1 u2 u3 zs bs rs W p (by omega)).mono fun e w' q => q.swap (by decide))
    · rw [decide_eq_false hf, if_neg (by decide)]
      exact does_go_2 B N x m s As cs u1 u2 u3 zs bs rs ss w h hx hz (Nat.zero_le _) trivial _ (fun W p b => load_on B N (x + 1) m s _ u1 u2 u3 zs bs rs W p (by omega))
  by_cases h3 : a = 3
  · subst h3
    rw [hb2 (.inl rfl)]
    have e : doS ⟨x, zs, bs, rs, 0⟩ (3, m, s) ss = (if (didS m (topS zs 2) (topS zs 1)).2 = true then onS ⟨x + 1, cutS zs 2 ++ [(didS m (topS zs 2) (topS zs 1)).1], bs, rs, 0⟩ else endS ⟨x, zs, bs, rs, 0⟩ 3) := rfl
    rw [e]
    by_cases hf : zs.length < 2
    · rw [decide_eq_true (show zs.length < needS 3 from hf), if_pos rfl]
      exact does_few_3 B N x m s As cs u1 u2 u3 zs bs rs ss w h hx hz hf
    · rw [decide_eq_false (show ¬ zs.length < needS 3 from hf), if_neg (by decide)]
      exact does_go_3 B N x m s As cs u1 u2 u3 zs bs rs ss w h hx hz (by omega) trivial _ (fun W p b => (reckon_on B N (x + 1) m s _ u1 u2 u3 zs bs rs W p (zs.length - 2) (by omega) (by omega)).mono fun e w' q => by
        split at q
        · rename_i hq; rw [if_pos hq]; exact q
        · rename_i hq; rw [if_neg hq]; exact q.swap (by decide))
  by_cases h4 : a = 4
  · subst h4
    rw [hb2 (.inr (.inl rfl))]
    have e : doS ⟨x, zs, bs, rs, 0⟩ (4, m, s) ss = (if (setS bs s (topS zs 1)).2 = true then onS ⟨x + 1, cutS zs 1, (setS bs s (topS zs 1)).1, rs, 0⟩ else endS ⟨x, zs, bs, rs, 0⟩ 4) := rfl
    rw [e]
    by_cases hf : zs.length < 1
    · rw [decide_eq_true (show zs.length < needS 4 from hf), if_pos rfl]
      exact does_few_4 B N x m s As cs u1 u2 u3 zs bs rs ss w h hx hz hf
    · rw [decide_eq_false (show ¬ zs.length < needS 4 from hf), if_neg (by decide)]
      exact does_go_4 B N x m s As cs u1 u2 u3 zs bs rs ss w h hx hz (by omega) trivial _ (fun W p b => (set_on B N (x + 1) m s _ u1 u2 u3 zs bs rs W p (zs.length - 1) (by omega) (by omega) hrise hR.b12).mono fun e w' q => by
        split at q
        · rename_i hq; rw [if_pos hq]; exact q
        · rename_i hq; rw [if_neg hq]; exact q.swap (by decide))
  by_cases h5 : a = 5
  · subst h5
    obtain ⟨q0, q3⟩ := hgt (.inl rfl)
    rw [hb3 (.inl rfl), decide_eq_false (show ¬ zs.length < needS 5 from Nat.not_lt_zero _), Bool.false_or]
    by_cases hf : (ss.length : Int) ≤ m
    · rw [decide_eq_true hf, if_pos rfl]
      exact does_gone_5 B N x m s As cs u1 u2 u3 zs bs rs ss w h hx hz hf
    · rw [decide_eq_false hf, if_neg (by decide)]
      obtain ⟨k, rfl⟩ : ∃ k : Nat, m = k := ⟨m.toNat, by omega⟩
      have e : doS ⟨x, zs, bs, rs, 0⟩ (5, (k : Int), s) ss = (if rs.getD k 0 = 100000 then endS ⟨x, zs, bs, rs, 0⟩ 4
        else if (setS bs s (itemS ss k (rs.getD k 0))).2 = true then onS ⟨x + 1, zs, (setS bs s (itemS ss k (rs.getD k 0))).1, rs.set k (rs.getD k 0 + 1), 0⟩ else endS ⟨x, zs, bs, rs, 0⟩ 4) := rfl
      rw [e]
      exact does_go_5 B N x k s As cs u1 u2 u3 zs bs rs ss w h hx hz (Nat.zero_le _) (by omega) _ (fun W p b => (in_on B N (x + 1) k s _ u1 u2 u3 zs bs rs W p ss (sv.below b) (by omega) (by rw [hR.r4]; omega) hR.rr hrise hR.b12).mono fun e w' q => by
        split at q
        · rename_i hq; rw [if_pos hq]; exact q.swap (by decide)
        · rename_i hq
          rw [if_neg hq]
          split at q
          · rename_i hq2; rw [if_pos hq2]; exact q
          · rename_i hq2; rw [if_neg hq2]; exact q.swap (by decide))
  by_cases h6 : a = 6
  · subst h6
    obtain ⟨q0, q3⟩ := hgt (.inr rfl)
    rw [hb3 (.inr rfl)]
    have e : doS ⟨x, zs, bs, rs, 0⟩ (6, m, s) ss = ⟨⟨x + 1, cutS zs 1, bs, rs, 0⟩, true, m, topS zs 1⟩ := rfl
    rw [e]
    by_cases hf : (ss.length : Int) ≤ m
    · rw [decide_eq_true hf, Bool.or_true, if_pos rfl]
      exact does_gone_6 B N x m s As cs u1 u2 u3 zs bs rs ss w h hx hz hf
    · rw [decide_eq_false hf, Bool.or_false]
      by_cases hn : zs.length < 1
      · rw [decide_eq_true (show zs.length < needS 6 from hn), if_pos rfl]
        exact does_few_6 B N x m s As cs u1 u2 u3 zs bs rs ss w h hx hz ⟨hn, by omega⟩
      · rw [decide_eq_false (show ¬ zs.length < needS 6 from hn), if_neg (by decide)]
        exact does_go_6 B N x m s As cs u1 u2 u3 zs bs rs ss w h hx hz (by omega) (by omega) _ (fun W p b => out_on B N (x + 1) m s _ u1 u2 u3 zs bs rs W p (zs.length - 1) (by omega) (by omega))
  by_cases h7 : a = 7
  · subst h7
    rw [hb2 (.inr (.inr (.inl rfl))), decide_eq_false (show ¬ zs.length < needS 7 from Nat.not_lt_zero _), if_neg (by decide)]
    have e : doS ⟨x, zs, bs, rs, 0⟩ (7, m, s) ss = onS ⟨m, zs, bs, rs, 0⟩ := rfl
    rw [e]
    exact does_go_7 B N x m s As cs u1 u2 u3 zs bs rs ss w h hx hz (Nat.zero_le _) trivial _ (fun W p b => leave_on B N (x + 1) m s _ u1 u2 u3 zs bs rs W p)
  by_cases h8 : a = 8
  · subst h8
    rw [hb2 (.inr (.inr (.inr (.inl rfl))))]
    have e : doS ⟨x, zs, bs, rs, 0⟩ (8, m, s) ss = onS ⟨if topS zs 1 = 0 then m else x + 1, cutS zs 1, bs, rs, 0⟩ := rfl
    rw [e]
    by_cases hf : zs.length < 1
    · rw [decide_eq_true (show zs.length < needS 8 from hf), if_pos rfl]
      exact does_few_8 B N x m s As cs u1 u2 u3 zs bs rs ss w h hx hz hf
    · rw [decide_eq_false (show ¬ zs.length < needS 8 from hf), if_neg (by decide)]
      exact does_go_8 B N x m s As cs u1 u2 u3 zs bs rs ss w h hx hz (by omega) trivial _ (fun W p b => unless_on B N (x + 1) m s _ u1 u2 u3 zs bs rs W p (zs.length - 1) (by omega) (by omega))
  by_cases h9 : a = 9
  · subst h9
    rw [hb2 (.inr (.inr (.inr (.inr (.inl rfl))))), decide_eq_false (show ¬ zs.length < needS 9 from Nat.not_lt_zero _), if_neg (by decide)]
    have e : doS ⟨x, zs, bs, rs, 0⟩ (9, m, s) ss = endS ⟨x, zs, bs, rs, 0⟩ 2 := rfl
    rw [e]
    exact does_go_9 B N x m s As cs u1 u2 u3 zs bs rs ss w h hx hz (Nat.zero_le _) trivial _ (fun W p b => (stop_on B N (x + 1) m s _ u1 u2 u3 zs bs rs W p).mono fun e w' q => q.swap (by decide))
  · obtain rfl : a = 10 := by omega
    rw [hb2 (.inr (.inr (.inr (.inr (.inr rfl))))), decide_eq_false (show ¬ zs.length < needS 10 from Nat.not_lt_zero _), if_neg (by decide)]
    have e : doS ⟨x, zs, bs, rs, 0⟩ (10, m, s) ss = endS ⟨x, zs, bs, rs, 0⟩ 1 := rfl
    rw [e]
    exact does_go_10 B N x m s As cs u1 u2 u3 zs bs rs ss w h hx hz (Nat.zero_le _) trivial _ (fun W p b => (end_on B N (x + 1) m s _ u1 u2 u3 zs bs rs W p).mono fun e w' q => q.swap (by decide))

end Go.Proofs.YtpmdfogncoapjaaGreatDoor
