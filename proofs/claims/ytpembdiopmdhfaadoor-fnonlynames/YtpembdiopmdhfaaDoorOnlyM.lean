/- Layer 6 (sums): boxes that a sum does not name do not matter. The laws' pick. No conditions but those typed. -/
import Derived.Test.YtpembdiopmdhfaaDoorNamB
import Derived.Test.YtpembdiopmdhfaaDoorDrawA
namespace Go.Proofs.YtpembdiopmdhfaaDoor
open Go.RowKit
set_option linter.unusedVariables false

/-- The same names, and the same values of those that are named; all values are words. -/
def SameB (ns : List Txt) : List Bx → List Bx → Prop
  | [], [] => True
  | b :: r, o :: q => o.1 = b.1 ∧ (b.1 ∈ ns → o.2 = b.2) ∧ wordB o.2 = true ∧ SameB ns r q
  | _, _ => False
theorem SameB.snoc {ns : List Txt} : ∀ {bs os : List Bx} {b o : Bx}, SameB ns bs os → o.1 = b.1 → (b.1 ∈ ns → o.2 = b.2) → wordB o.2 = true → SameB ns (bs ++ [b]) (os ++ [o])
  | [], [], b, o, _, h1, h2, h3 => ⟨h1, h2, h3, trivial⟩
  | _ :: _, _ :: _, b, o, h, h1, h2, h3 => ⟨h.1, h.2.1, h.2.2.1, SameB.snoc h.2.2.2 h1 h2 h3⟩
theorem SameB.len {ns : List Txt} : ∀ {bs os : List Bx}, SameB ns bs os → os.length = bs.length
  | [], [], _ => rfl
  | _ :: _, _ :: _, h => by rw [List.length_cons, List.length_cons, SameB.len h.2.2.2]
theorem SameB.val {ns : List Txt} {s : Txt} (hs : s ∈ ns) : ∀ {bs os : List Bx}, SameB ns bs os → valueS os s = valueS bs s
  | [], [], _ => rfl
  | b :: r, o :: q, h => by
    obtain ⟨h1, h2, h3, h4⟩ := h
    rw [valueS, valueS, h1, SameB.val hs h4]
    by_cases e : b.1 = s
    · rw [if_pos e, if_pos e, h2 (by rw [e]; exact hs)]
    · rw [if_neg e, if_neg e]
theorem SameB.at_ {ns : List Txt} : ∀ {bs os : List Bx} {k : Nat}, SameB ns bs os → (bs[k]? = none ∧ os[k]? = none) ∨ ∃ b o, bs[k]? = some b ∧ os[k]? = some o ∧ o.1 = b.1 ∧ wordB o.2 = true
  | [], [], k, _ => .inl ⟨rfl, rfl⟩
  | b :: r, o :: q, 0, h => .inr ⟨b, o, rfl, rfl, h.1, h.2.2.1⟩
  | b :: r, o :: q, k + 1, h => by
    rcases SameB.at_ (k := k) h.2.2.2 with q | ⟨b', o', h1, h2, h3⟩
    · exact .inl q
    · exact .inr ⟨b', o', h1, h2, h3⟩
theorem SameB.ok {ns : List Txt} {bs os : List Bx} (h : SameB ns bs os) (hb : boxesB bs = true) : boxesB os = true := by
  unfold boxesB boxesTo at hb ⊢
  rw [Bool.and_eq_true] at hb ⊢
  rw [h.len]
  refine ⟨List.all_eq_true.2 fun k hk => ?_, hb.2⟩
  have h1 := List.all_eq_true.1 hb.1 k hk
  unfold boxAt at h1 ⊢
  rcases h.at_ (k := k) with ⟨q1, _⟩ | ⟨b, o, q1, q2, q3, q4⟩
  · rw [q1] at h1; cases h1
  · rw [q1] at h1
    rw [q2]
    simp only [Bool.and_eq_true] at h1 ⊢
    rw [q3]
    refine ⟨h1.1, q4, ?_⟩
    have h2 := h1.2.2
    cases k with
    | zero => rfl
    | succ j =>
      simp only [risesAt] at h2 ⊢
      rcases h.at_ (k := j) with ⟨p1, _⟩ | ⟨b', o', p1, p2, p3, _⟩
      · rw [p1] at h2; cases h2
      · rw [p1] at h2; rw [p2]; simp only at h2 ⊢; rw [p3]; exact h2
theorem SameB.short {ns : List Txt} {m : Nat} : ∀ {bs os : List Bx}, SameB ns bs os → (∀ b ∈ bs, b.1.length ≤ m) → ∀ b ∈ os, b.1.length ≤ m
  | [], [], _, _, b, hb => by cases hb
  | b :: r, o :: q, h, hm, x, hx => by
    rcases List.mem_cons.1 hx with rfl | hx
    · rw [h.1]; exact hm b (by simp)
    · exact SameB.short h.2.2.2 (fun y hy => hm y (by simp [hy])) x hx
theorem eval_same {bs os : List Bx} : ∀ (t : Sum), t.ok → (∀ s ∈ t.flat, nameB s = true → valueS os s = valueS bs s) → evalT os t = evalT bs t
  | .leaf s, h, hv => by
    rw [evalT, evalT, leafV, leafV]
    cases hr : rdS s with
    | some v => rfl
    | none =>
      have hn : nameB s = true := by rw [← leaf_name hr]; exact h.2
      show some (valueS os s) = some (valueS bs s)
      rw [hv s (by simp [Sum.flat]) hn]
  | .op s a b, h, hv => by
    rw [evalT, evalT, eval_same a h.2.1 (fun x hx => hv x (by simp [Sum.flat, hx])), eval_same b h.2.2 (fun x hx => hv x (by simp [Sum.flat, hx]))]
theorem only_names {ss : List Txt} {a : Int} {bs os : List Bx} (h : SameB (namesS ss a) bs os) (hb : boxesB bs = true) : sumOfS ss a os = sumOfS ss a bs := by
  rcases end_dec ss a with hq | hq
  · rw [sumOf_no (.inl (by omega)), sumOf_no (.inl (by omega))]
  · obtain ⟨k, t, rfl, ht⟩ := sum_of_end hq
    rw [sumOf_tree ht hb, sumOf_tree ht (h.ok hb)]
    refine eval_same t ht.1 fun s hs hn => h.val ?_
    rw [names_tree ht]
    unfold putAll
    exact (putAll_mem _ [] s).2 (.inr (List.mem_filter.2 ⟨hs, hn⟩))

set_option maxHeartbeats 2000000 in
/-- The laws' pick lies below n. -/
theorem pick_any (A : Option Addr) (m c k : Nat) (hm : m ≤ 4096) (hk : k ≤ 12) (w : World) (hs : SeeB w w.heap.size A m) : Calls Tryd.prog 18 #[.slice A m c, .int .i64 (k : Int), .int .i64 100] w fun e w' => (∃ z : Int, e = .returned (.int .i64 z) ∧ 0 ≤ z ∧ z ≤ 99) ∧ w = w' := by
  go_enter Tryd.func18, Tryd.ntmps18
  go_wp2_with fail
  go_loop [7, 8] (fun q i => ∃ (j : Nat) (z : Int), j ≤ m ∧ i = .int .i64 (j : Int) ∧ q = .int .i64 z ∧ 0 ≤ z ∧ z ≤ 1000003) (fun _ i => m - (intOf i).toNat)
  case atStart => exact ⟨0, _, Nat.zero_le _, rfl, rfl, by omega, by omega⟩
  case round =>
    obtain ⟨j, z, hj, rfl, rfl, hz0, hz1⟩ := hrel
    by_cases hlt : j < m
    · obtain ⟨g, o, x, rfl, -, hc, hx0, hx1⟩ := hs.2 j hlt
      have hz2 : 0 ≤ (z * 277 + x + k) % 1000003 := Int.emod_nonneg _ (by omega)
      have hz3 : (z * 277 + x + k) % 1000003 < 1000003 := Int.emod_lt_of_pos _ (by omega)
      go_wp2_with fail
      go_round
      case rel => exact ⟨j + 1, _, by omega, by go_num, rfl, by omega, by omega⟩
      case measure => simp [intOf]; omega
    · go_wp2_with fail
      go_ret
      exact ⟨⟨_, rfl, Int.emod_nonneg _ (by omega), by have := Int.emod_lt_of_pos z (show (0 : Int) < 100 by omega); omega⟩, rfl⟩

end Go.Proofs.YtpembdiopmdhfaaDoor
