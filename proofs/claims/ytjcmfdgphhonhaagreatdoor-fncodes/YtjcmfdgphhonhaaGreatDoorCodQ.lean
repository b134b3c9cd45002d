/- Layer 8 (steps), plain: what is made of a play: each op is one, no place leads out of it, gates are the play's. -/
import Derived.Test.YtjcmfdgphhonhaaGreatDoorCodOz
import Derived.Test.YtjcmfdgphhonhaaGreatDoorRdrQ
namespace Go.Proofs.YtjcmfdgphhonhaaGreatDoor
open Go.RowKit
set_option linter.unusedVariables false

def GoodOp (gg : List Nat) (N : Nat) (o : Opv) : Prop := (N ≤ 300 → opB o = true) ∧ o.1 ≠ 10 ∧ ((o.1 = 7 ∨ o.1 = 8) → o.2.1 ≤ (N : Int)) ∧ ((o.1 = 5 ∨ o.1 = 6) → ∃ g ∈ gg, o.2.1 = ((g : Nat) : Int))
theorem GoodOp.more {gg hh : List Nat} {N M : Nat} {o : Opv} (h : GoodOp gg N o) (hg : ∀ x ∈ gg, x ∈ hh) (hN : N ≤ M) : GoodOp hh M o :=
  ⟨fun q => h.1 (by omega), h.2.1, fun q => by have := h.2.2.1 q; omega, fun q => by obtain ⟨g, h1, h2⟩ := h.2.2.2 q; exact ⟨g, hg g h1, h2⟩⟩
theorem word_of_rdS {s : Txt} {n : Int} (h : rdS s = some n) : wordB n = true := by
  cases s with
  | nil => cases h
  | cons c r =>
    by_cases hc : c = 45
    · subst hc
      rw [rdS_neg] at h
      exact (rdD_some h).2.2.2.1
    · rw [rdS_pos hc] at h
      exact (rdD_some h).2.2.2.1
theorem good_tree {gg : List Nat} {N : Nat} : ∀ t : Sum, t.ok → ∀ o ∈ codeT t, GoodOp gg N o
  | .leaf s, h, o, ho => by
    unfold codeT at ho
    have hl := h.2
    unfold leafB at hl
    cases hr : rdS s with
    | some n =>
      rw [hr] at ho
      have : o = (1, n, []) := by simpa using ho
      subst this
      exact ⟨fun _ => by simp [opB, word_of_rdS hr], by simp, by simp, by simp⟩
    | none =>
      rw [hr] at ho hl
      have : o = (2, 0, s) := by simpa using ho
      subst this
      exact ⟨fun _ => by simp [opB] at hl ⊢; exact hl, by simp, by simp, by simp⟩
  | .op s a b, h, o, ho => by
    unfold codeT at ho
    rcases List.mem_append.1 ho with q | q
    · exact good_tree a h.2.1 o q
    rcases List.mem_append.1 q with q | q
    · exact good_tree b h.2.2 o q
    have : o = (3, opN s, []) := by simpa using q
    subst this
    have h1 := opN_range s
    have h2 := h.1
    exact ⟨fun _ => by simp [opB, inB]; omega, by simp, by simp, by simp⟩
theorem gate_four {s : Txt} {g : Nat} (h : gateN s = some g) : g < 4 := by
  unfold gateN at h
  repeat' split at h
  all_goals first | (injection h with h; omega) | cases h
theorem lin_first {ss : List Txt} {k E : Nat} {a : List Txt} {gg : List Nat} (h : Lin ss k E a gg) (hk : k ≠ E) : ∃ k1 a1 g1 a2 g2, Note ss k k1 a1 g1 ∧ Lin ss k1 E a2 g2 ∧ gg = g1 ++ g2 := by
  cases h with
  | nil => exact absurd rfl hk
  | cons n r => exact ⟨_, _, _, _, _, n, r, rfl⟩
theorem sum_place {ss : List Txt} {j k1 : Nat} {t : Sum} (ht : SumAt ss j t) (h : nnE (sumEndS ss (j : Int)) = some k1) : k1 = j + t.flat.length := by
  have := nnE_some h
  rw [sum_end ht] at this
  omega
theorem note_set {ss : List Txt} {k k1 : Nat} {a : List Txt} {g : List Nat} {t : Sum} (n : Note ss k k1 a g) (hs : sg7 ss k = wSet) (ht : SumAt ss (k + 2) t) : nameB (sg7 ss (k + 1)) = true ∧ k1 = k + 2 + t.flat.length := by
  cases n with
  | set h1 h2 h3 h4 => exact ⟨by rw [h2]; exact h3, sum_place ht h4⟩
  | in_ h1 => rw [hs] at h1; exact absurd h1 (by decide)
  | out h1 => rw [hs] at h1; exact absurd h1 (by decide)
  | ask h1 => rw [hs] at h1; exact absurd h1 (by decide)
  | other h1 => rw [hs] at h1; exact absurd h1 (by decide)
theorem note_in {ss : List Txt} {k k1 : Nat} {a : List Txt} {g : List Nat} (n : Note ss k k1 a g) (hs : sg7 ss k = wIn) : nameB (sg7 ss (k + 1)) = true ∧ k1 = k + 3 ∧ ∃ x, gateN (sg7 ss (k + 2)) = some x ∧ g = [x] := by
  cases n with
  | set h1 => rw [hs] at h1; exact absurd h1 (by decide)
  | in_ h1 h2 h3 h4 => exact ⟨by rw [h2]; exact h3, rfl, _, h4, rfl⟩
  | out h1 => rw [hs] at h1; exact absurd h1 (by decide)
  | ask h1 => rw [hs] at h1; exact absurd h1 (by decide)
  | other h1 => rw [hs] at h1; exact absurd h1 (by decide)
theorem note_out {ss : List Txt} {k k1 : Nat} {a : List Txt} {g : List Nat} {t : Sum} (n : Note ss k k1 a g) (hs : sg7 ss k = wOut) (ht : SumAt ss (k + 2) t) : k1 = k + 2 + t.flat.length ∧ ∃ x, gateN (sg7 ss (k + 1)) = some x ∧ g = [x] := by
  cases n with
  | set h1 => rw [hs] at h1; exact absurd h1 (by decide)
  | in_ h1 => rw [hs] at h1; exact absurd h1 (by decide)
  | out h1 h2 h3 => exact ⟨sum_place ht h3, _, h2, rfl⟩
  | ask h1 => rw [hs] at h1; exact absurd h1 (by decide)
  | other h1 => rw [hs] at h1; exact absurd h1 (by decide)
theorem note_ask {ss : List Txt} {k k1 : Nat} {a : List Txt} {g : List Nat} {t : Sum} (n : Note ss k k1 a g) (hs : sg7 ss k = wIf ∨ sg7 ss k = wWhile) (ht : SumAt ss (k + 1) t) : k1 = k + 1 + t.flat.length := by
  cases n with
  | ask h1 h2 => exact sum_place ht h2
  | set h1 => rcases hs with hs | hs <;> rw [hs] at h1 <;> exact absurd h1 (by decide)
  | in_ h1 => rcases hs with hs | hs <;> rw [hs] at h1 <;> exact absurd h1 (by decide)
  | out h1 => rcases hs with hs | hs <;> rw [hs] at h1 <;> exact absurd h1 (by decide)
  | other h1 => rcases hs with hs | hs <;> rw [hs] at h1 <;> exact absurd h1 (by decide)
theorem note_sign {ss : List Txt} {k k1 : Nat} {a : List Txt} {g : List Nat} (n : Note ss k k1 a g) (hs : sg7 ss k = wStop ∨ sg7 ss k = wOpen ∨ sg7 ss k = wShut) : k1 = k + 1 := by
  cases n with
  | other h1 => rfl
  | set h1 => rcases hs with hs | hs | hs <;> rw [hs] at h1 <;> exact absurd h1 (by decide)
  | in_ h1 => rcases hs with hs | hs | hs <;> rw [hs] at h1 <;> exact absurd h1 (by decide)
  | out h1 => rcases hs with hs | hs | hs <;> rw [hs] at h1 <;> exact absurd h1 (by decide)
  | ask h1 => rcases hs with hs | hs | hs <;> rw [hs] at h1 <;> exact absurd h1 (by decide)
/-- One sign of no note of its own passed over. -/
theorem lin_sign {ss : List Txt} {k E : Nat} {a : List Txt} {gg : List Nat} (h : Lin ss k E a gg) (hs : sg7 ss k = wStop ∨ sg7 ss k = wOpen ∨ sg7 ss k = wShut) (hk : k ≠ E) : ∃ a2 g2, Lin ss (k + 1) E a2 g2 ∧ ∀ x ∈ g2, x ∈ gg := by
  obtain ⟨k1, a1, g1, a2, g2, n, r, rfl⟩ := lin_first h hk
  obtain rfl := note_sign n hs
  exact ⟨a2, g2, r, fun x hx => List.mem_append_right _ hx⟩
theorem lin_ask {ss : List Txt} {k E : Nat} {a : List Txt} {gg : List Nat} {t : Sum} (h : Lin ss k E a gg) (hs : sg7 ss k = wIf ∨ sg7 ss k = wWhile) (ht : SumAt ss (k + 1) t) (hk : k ≠ E) : ∃ a2 g2, Lin ss (k + 1 + t.flat.length) E a2 g2 ∧ ∀ x ∈ g2, x ∈ gg := by
  obtain ⟨k1, a1, g1, a2, g2, n, r, rfl⟩ := lin_first h hk
  obtain rfl := note_ask n hs ht
  exact ⟨a2, g2, r, fun x hx => List.mem_append_right _ hx⟩

theorem turn_good {ss : List Txt} {k e n : Nat} {cs : List Opv} (h : Turn ss k e n cs) : ∀ (E : Nat) (a : List Txt) (gg : List Nat), e ≤ E → Lin ss k E a gg → ∃ a2 g2, Lin ss e E a2 g2 ∧ (∀ x ∈ g2, x ∈ gg) ∧ ∀ o ∈ cs, GoodOp gg (n + cs.length) o := by
  induction h with
  | nil k n => exact fun E a gg hE hl => ⟨a, gg, hl, fun x hx => hx, by simp⟩
  | @set k e n t cs hs ht r ih =>
    intro E a gg hE hl
    have hr := r.len
    obtain ⟨k1, a1, g1, a2, g2, nt, rl, rfl⟩ := lin_first hl (by omega)
    obtain ⟨hn, rfl⟩ := note_set nt hs ht
    obtain ⟨a3, g3, l3, s3, o3⟩ := ih E a2 g2 hE rl
    refine ⟨a3, g3, l3, fun x hx => List.mem_append_right _ (s3 x hx), fun o ho => ?_⟩
    rcases List.mem_append.1 ho with q | q
    · exact good_tree t ht.1 o q
    rcases List.mem_cons.1 q with rfl | q
    · exact ⟨fun _ => by simp [opB, hn], by simp, by simp, by simp⟩
    · exact (o3 o q).more (fun x hx => List.mem_append_right _ hx) (by simp [codeT_len]; omega)
  | @in_ k e n g cs hs hg r ih =>
    intro E a gg hE hl
    have hr := r.len
    obtain ⟨k1, a1, g1, a2, g2, nt, rl, rfl⟩ := lin_first hl (by omega)
    obtain ⟨hn, rfl, x, hx, rfl⟩ := note_in nt hs
    obtain rfl : g = x := by rw [hg] at hx; injection hx
    have h4 := gate_four hg
    obtain ⟨a3, g3, l3, s3, o3⟩ := ih E a2 g2 hE rl
    refine ⟨a3, g3, l3, fun x hx => List.mem_append_right _ (s3 x hx), fun o ho => ?_⟩
    rcases List.mem_cons.1 ho with rfl | q
    · exact ⟨fun _ => by simp [opB, hn, inB]; omega, by simp, by simp, fun _ => ⟨g, by simp, rfl⟩⟩
    · exact (o3 o q).more (fun x hx => List.mem_append_right _ hx) (by simp; omega)
  | @out k e n g t cs hs hg ht r ih =>
    intro E a gg hE hl
    have hr := r.len
    obtain ⟨k1, a1, g1, a2, g2, nt, rl, rfl⟩ := lin_first hl (by omega)
    obtain ⟨rfl, x, hx, rfl⟩ := note_out nt hs ht
    obtain rfl : g = x := by rw [hg] at hx; injection hx
    have h4 := gate_four hg
    obtain ⟨a3, g3, l3, s3, o3⟩ := ih E a2 g2 hE rl
    refine ⟨a3, g3, l3, fun x hx => List.mem_append_right _ (s3 x hx), fun o ho => ?_⟩
    rcases List.mem_append.1 ho with q | q
    · exact good_tree t ht.1 o q
    rcases List.mem_cons.1 q with rfl | q
    · exact ⟨fun _ => by simp [opB, inB]; omega, by simp, by simp, fun _ => ⟨g, by simp, rfl⟩⟩
    · exact (o3 o q).more (fun x hx => List.mem_append_right _ hx) (by simp [codeT_len]; omega)
  | @stop k e n cs hs r ih =>
    intro E a gg hE hl
    have hr := r.len
    obtain ⟨a2, g2, l2, s2⟩ := lin_sign hl (.inl hs) (by omega)
    obtain ⟨a3, g3, l3, s3, o3⟩ := ih E a2 g2 hE l2
    refine ⟨a3, g3, l3, fun x hx => s2 x (s3 x hx), fun o ho => ?_⟩
    rcases List.mem_cons.1 ho with rfl | q
    · exact ⟨fun _ => by simp [opB, inB], by simp, by simp, by simp⟩
    · exact (o3 o q).more s2 (by simp; omega)
  | @loop k e n m t ds cs hs ht ho1 rd hsh r ih1 ih2 =>
    intro E a gg hE hl
    have hr := r.len
    have hd := rd.len
    obtain ⟨a1, g1, l1, s1⟩ := lin_ask hl (.inr hs) ht (by omega)
    obtain ⟨a2, g2, l2, s2⟩ := lin_sign l1 (.inr (.inl ho1)) (by omega)
    obtain ⟨a3, g3, l3, s3, o3⟩ := ih1 E a2 g2 (by omega) l2
    obtain ⟨a4, g4, l4, s4⟩ := lin_sign l3 (.inr (.inr hsh)) (by omega)
    obtain ⟨a5, g5, l5, s5, o5⟩ := ih2 E a4 g4 hE l4
    refine ⟨a5, g5, l5, fun x hx => s1 x (s2 x (s3 x (s4 x (s5 x hx)))), fun o ho => ?_⟩
    rcases List.mem_append.1 ho with q | q
    · exact good_tree t ht.1 o q
    rcases List.mem_cons.1 q with rfl | q
    · exact ⟨fun hN => by simp [opB, inB, codeT_len] at hN ⊢; omega, by simp, fun _ => by simp [codeT_len]; omega, by simp⟩
    rcases List.mem_append.1 q with q | q
    · exact (o3 o q).more (fun x hx => s1 x (s2 x hx)) (by simp [codeT_len]; omega)
    rcases List.mem_cons.1 q with rfl | q
    · exact ⟨fun hN => by simp [opB, inB, codeT_len] at hN ⊢; omega, by simp, fun _ => by simp [codeT_len]; omega, by simp⟩
    · exact (o5 o q).more (fun x hx => s1 x (s2 x (s3 x (s4 x hx)))) (by simp [codeT_len]; omega)
  | @fork k e n m m2 t ds bs cs hs ht ho1 rd hsh ho2 rb hsh2 r ih1 ih2 ih3 =>
    intro E a gg hE hl
    have hr := r.len
    have hd := rd.len
    have hb := rb.len
    obtain ⟨a1, g1, l1, s1⟩ := lin_ask hl (.inl hs) ht (by omega)
    obtain ⟨a2, g2, l2, s2⟩ := lin_sign l1 (.inr (.inl ho1)) (by omega)
    obtain ⟨a3, g3, l3, s3, o3⟩ := ih1 E a2 g2 (by omega) l2
    obtain ⟨a4, g4, l4, s4⟩ := lin_sign l3 (.inr (.inr hsh)) (by omega)
    obtain ⟨a5, g5, l5, s5⟩ := lin_sign l4 (.inr (.inl ho2)) (by omega)
    obtain ⟨a6, g6, l6, s6, o6⟩ := ih2 E a5 g5 (by omega) l5
    obtain ⟨a7, g7, l7, s7⟩ := lin_sign l6 (.inr (.inr hsh2)) (by omega)
    obtain ⟨a8, g8, l8, s8, o8⟩ := ih3 E a7 g7 hE l7
    refine ⟨a8, g8, l8, fun x hx => s1 x (s2 x (s3 x (s4 x (s5 x (s6 x (s7 x (s8 x hx))))))), fun o ho => ?_⟩
    rcases List.mem_append.1 ho with q | q
    · exact good_tree t ht.1 o q
    rcases List.mem_cons.1 q with rfl | q
    · exact ⟨fun hN => by simp [opB, inB, codeT_len] at hN ⊢; omega, by simp, fun _ => by simp [codeT_len]; omega, by simp⟩
    rcases List.mem_append.1 q with q | q
    · exact (o3 o q).more (fun x hx => s1 x (s2 x hx)) (by simp [codeT_len]; omega)
    rcases List.mem_cons.1 q with rfl | q
    · exact ⟨fun hN => by simp [opB, inB, codeT_len] at hN ⊢; omega, by simp, fun _ => by simp [codeT_len]; omega, by simp⟩
    rcases List.mem_append.1 q with q | q
    · exact (o6 o q).more (fun x hx => s1 x (s2 x (s3 x (s4 x (s5 x hx))))) (by simp [codeT_len]; omega)
    · exact (o8 o q).more (fun x hx => s1 x (s2 x (s3 x (s4 x (s5 x (s6 x (s7 x hx))))))) (by simp [codeT_len]; omega)

/-- What is made of a play. -/
theorem code_good {ss : List Txt} (h : playB ss = true) : ∃ cs, codeP ss = cs ++ [(10, 0, [])] ∧ cs.length ≤ 100 ∧ ∀ o ∈ cs, opB o = true ∧ o.1 ≠ 10 ∧ ((o.1 = 7 ∨ o.1 = 8) → o.2.1 ≤ (cs.length : Int)) ∧ ((o.1 = 5 ∨ o.1 = 6) → o.2.1 ∈ gatesP ss) := by
  obtain ⟨hT, hC, hl⟩ := code_yes h
  obtain ⟨_, D, a, g, _, _, hL, _⟩ := play_open h
  have hlen := hT.len
  obtain ⟨_, _, _, _, hG⟩ := turn_good hT ss.length a g (Nat.le_refl _) hL
  refine ⟨turnOf ss, hC, by omega, fun o ho => ?_⟩
  obtain ⟨h1, h2, h3, h4⟩ := hG o ho
  refine ⟨h1 (by omega), h2, fun q => by have := h3 q; omega, fun q => ?_⟩
  obtain ⟨x, hx, e⟩ := h4 q
  rw [gates_yes7 h hL, riseG_mem]
  exact ⟨x, lin_gates hL x hx, hx, e⟩

end Go.Proofs.YtjcmfdgphhonhaaGreatDoor
