/- Layers 7 and 8, in plain words: a part of a list of signs is read as the whole is; plays side by side; signs bear no blank; how deep deeds lie. No program is named here. -/
import Derived.Test.YtjcmfdgphhonhaaGreatDoorDeedP
namespace Go.Proofs.YtjcmfdgphhonhaaGreatDoor
open Go.RowKit
set_option linter.unusedVariables false

/-- From place c on ts has what ss has from place a on, for n signs. -/
def Win (ss : List Txt) (a : Nat) (ts : List Txt) (c n : Nat) : Prop := ∀ j, j < n → ts[c + j]? = ss[a + j]?
theorem Win.at_ {ss ts : List Txt} {a c n k : Nat} (h : Win ss a ts c n) (h1 : a ≤ k) (h2 : k < a + n) : ts[c + (k - a)]? = ss[k]? := by
  have := h (k - a) (by omega)
  rwa [show a + (k - a) = k by omega] at this
theorem Win.sg {ss ts : List Txt} {a c n k : Nat} (h : Win ss a ts c n) (h1 : a ≤ k) (h2 : k < a + n) : sg7 ts (c + (k - a)) = sg7 ss k := by
  unfold sg7
  rw [h.at_ h1 h2]
theorem sumAt_iff {ss : List Txt} {k : Nat} {t : Sum} : SumAt ss k t ↔ t.ok ∧ ∀ j, j < t.flat.length → ss[k + j]? = t.flat[j]? := by
  constructor
  · rintro ⟨h1, rest, h2⟩
    refine ⟨h1, fun j hj => ?_⟩
    have : (ss.drop k)[j]? = t.flat[j]? := by rw [h2, List.getElem?_append_left hj]
    rwa [List.getElem?_drop] at this
  · rintro ⟨h1, h2⟩
    refine ⟨h1, (ss.drop k).drop t.flat.length, ?_⟩
    have hp : (ss.drop k).take t.flat.length = t.flat := by
      refine List.ext_getElem? fun j => ?_
      by_cases hj : j < t.flat.length
      · rw [List.getElem?_take, if_pos hj, List.getElem?_drop, h2 j hj]
      · rw [List.getElem?_take, if_neg hj, List.getElem?_eq_none (by omega)]
    have := List.take_append_drop t.flat.length (ss.drop k)
    rw [hp] at this
    exact this.symm
theorem Win.sum {ss ts : List Txt} {a c n k : Nat} {t : Sum} (h : Win ss a ts c n) (h1 : a ≤ k) (hs : SumAt ss k t) (h2 : k + t.flat.length ≤ a + n) : SumAt ts (c + (k - a)) t := by
  rw [sumAt_iff] at hs ⊢
  refine ⟨hs.1, fun j hj => ?_⟩
  rw [show c + (k - a) + j = c + (k + j - a) by omega, h.at_ (by omega) (by omega)]
  exact hs.2 j hj
theorem Win.end_ {ss ts : List Txt} {a c n k k1 : Nat} (h : Win ss a ts c n) (h1 : a ≤ k) (hs : nnE (sumEndS ss (k : Int)) = some k1) (h2 : k1 ≤ a + n) : nnE (sumEndS ts ((c + (k - a) : Nat) : Int)) = some (c + (k1 - a)) ∧ namesS ts ((c + (k - a) : Nat) : Int) = namesS ss (k : Int) := by
  have e := nnE_some hs
  obtain ⟨j, t, hj, ht⟩ := sum_of_end (ss := ss) (a := (k : Int)) (by omega)
  have hk : j = k := by omega
  subst hk
  have e2 := sum_end ht
  have ek : k1 = j + t.flat.length := by omega
  have hw := h.sum h1 ht (by omega)
  refine ⟨?_, by unfold namesS; rw [signs_tree hw, signs_tree ht]⟩
  rw [sum_end hw, nnE_nat]
  congr 1
  omega
theorem Win.flat {ss ts : List Txt} {a c n k k1 : Nat} (h : Win ss a ts c n) (h1 : a ≤ k) (hf : flatE ss k = some k1) (h2 : k1 ≤ a + n) : flatE ts (c + (k - a)) = some (c + (k1 - a)) := by
  have hlt := (flat_in hf).1
  unfold flatE at hf ⊢
  rw [h.sg h1 (by omega)]
  by_cases q1 : sg7 ss k = wSet
  · rw [if_pos q1] at hf ⊢
    split at hf
    next hn =>
      have he := end_in hf
      rw [show c + (k - a) + 1 = c + (k + 1 - a) by omega, h.sg (by omega) (by omega), if_pos hn, show c + (k - a) + 2 = c + (k + 2 - a) by omega]
      exact (h.end_ (by omega) hf h2).1
    · cases hf
  rw [if_neg q1] at hf ⊢
  by_cases q2 : sg7 ss k = wIn
  · rw [if_pos q2] at hf ⊢
    split at hf
    next hn =>
      injection hf with hf
      rw [show c + (k - a) + 1 = c + (k + 1 - a) by omega, h.sg (by omega) (by omega), show c + (k - a) + 2 = c + (k + 2 - a) by omega, h.sg (by omega) (by omega), if_pos hn]
      congr 1
      omega
    · cases hf
  rw [if_neg q2] at hf ⊢
  by_cases q3 : sg7 ss k = wOut
  · rw [if_pos q3] at hf ⊢
    split at hf
    next hn =>
      have he := end_in hf
      rw [show c + (k - a) + 1 = c + (k + 1 - a) by omega, h.sg (by omega) (by omega), if_pos hn, show c + (k - a) + 2 = c + (k + 2 - a) by omega]
      exact (h.end_ (by omega) hf h2).1
    · cases hf
  rw [if_neg q3] at hf ⊢
  by_cases q4 : sg7 ss k = wStop
  · rw [if_pos q4] at hf ⊢
    injection hf with hf
    congr 1
    omega
  rw [if_neg q4] at hf
  cases hf
theorem Win.ask {ss ts : List Txt} {a c n k k1 : Nat} (h : Win ss a ts c n) (h1 : a ≤ k) (hf : askE ss k = some k1) (h2 : k1 ≤ a + n) : askE ts (c + (k - a)) = some (c + (k1 - a)) := by
  unfold askE at hf ⊢
  rw [show c + (k - a) + 1 = c + (k + 1 - a) by omega]
  exact (h.end_ (by omega) hf h2).1
theorem Win.deeds {ss ts : List Txt} {a c n k e D : Nat} (h : Win ss a ts c n) (hd : Deeds ss k e D) : a ≤ k → e ≤ a + n → Deeds ts (c + (k - a)) (c + (e - a)) D := by
  induction hd with
  | nil k => exact fun _ _ => .nil _
  | flat hf r ih =>
    intro h1 h2
    have q1 := flat_in hf
    have q2 := r.le
    exact .flat (h.flat h1 hf (by omega)) (ih (by omega) h2)
  | @loop k k1 m e D1 D2 b1 b2 b3 d1 b4 d2 ih1 ih2 =>
    intro h1 h2
    have q1 := ask_in b2
    have q2 := d1.le
    have q3 := d2.le
    have q4 := sg7_in (ss := ss) (k := m) (by rw [b4]; simp)
    have i1 := ih1 (by omega) (by omega)
    have i2 := ih2 (by omega) h2
    rw [show c + (k1 + 1 - a) = c + (k1 - a) + 1 by omega] at i1
    rw [show c + (m + 1 - a) = c + (m - a) + 1 by omega] at i2
    exact .loop (by rw [h.sg h1 (by omega)]; exact b1) (h.ask h1 b2 (by omega)) (by rw [h.sg (by omega) (by omega)]; exact b3) i1 (by rw [h.sg (by omega) (by omega)]; exact b4) i2
  | @fork k k1 m m2 e D1 D2 D3 b1 b2 b3 d1 b4 b5 d2 b6 d3 ih1 ih2 ih3 =>
    intro h1 h2
    have q1 := ask_in b2
    have q2 := d1.le
    have q3 := d2.le
    have q5 := d3.le
    have q4 := sg7_in (ss := ss) (k := m) (by rw [b4]; simp)
    have q6 := sg7_in (ss := ss) (k := m2) (by rw [b6]; simp)
    have i1 := ih1 (by omega) (by omega)
    have i2 := ih2 (by omega) (by omega)
    have i3 := ih3 (by omega) h2
    rw [show c + (k1 + 1 - a) = c + (k1 - a) + 1 by omega] at i1
    rw [show c + (m + 2 - a) = c + (m - a) + 2 by omega] at i2
    rw [show c + (m2 + 1 - a) = c + (m2 - a) + 1 by omega] at i3
    exact .fork (by rw [h.sg h1 (by omega)]; exact b1) (h.ask h1 b2 (by omega)) (by rw [h.sg (by omega) (by omega)]; exact b3) i1 (by rw [h.sg (by omega) (by omega)]; exact b4) (by rw [show c + (m - a) + 1 = c + (m + 1 - a) by omega, h.sg (by omega) (by omega)]; exact b5) i2 (by rw [h.sg (by omega) (by omega)]; exact b6) i3
theorem Win.note {ss ts : List Txt} {a c n k e : Nat} {x : List Txt} {g : List Nat} (h : Win ss a ts c n) (hn : Note ss k e x g) (h1 : a ≤ k) (h2 : e ≤ a + n) : Note ts (c + (k - a)) (c + (e - a)) x g := by
  have hlt := hn.lt
  cases hn with
  | set q1 q2 q3 q4 =>
    have he := end_in q4
    have hw := h.end_ (by omega) q4 h2
    rw [show c + (k + 2 - a) = c + (k - a) + 2 by omega] at hw
    rw [← hw.2]
    exact .set (by rw [h.sg h1 (by omega)]; exact q1) (by rw [show c + (k - a) + 1 = c + (k + 1 - a) by omega, h.sg (by omega) (by omega)]; exact q2) q3 hw.1
  | in_ q1 q2 q3 q4 =>
    rw [show c + (k + 3 - a) = c + (k - a) + 3 by omega]
    exact .in_ (by rw [h.sg h1 (by omega)]; exact q1) (by rw [show c + (k - a) + 1 = c + (k + 1 - a) by omega, h.sg (by omega) (by omega)]; exact q2) q3 (by rw [show c + (k - a) + 2 = c + (k + 2 - a) by omega, h.sg (by omega) (by omega)]; exact q4)
  | out q1 q2 q3 =>
    have he := end_in q3
    have hw := h.end_ (by omega) q3 h2
    rw [show c + (k + 2 - a) = c + (k - a) + 2 by omega] at hw
    rw [← hw.2]
    exact .out (by rw [h.sg h1 (by omega)]; exact q1) (by rw [show c + (k - a) + 1 = c + (k + 1 - a) by omega, h.sg (by omega) (by omega)]; exact q2) hw.1
  | ask q1 q2 =>
    have he := ask_in q2
    unfold askE at q2
    have hw := h.end_ (by omega) q2 h2
    rw [show c + (k + 1 - a) = c + (k - a) + 1 by omega] at hw
    rw [← hw.2]
    exact .ask (by rw [h.sg h1 (by omega)]; exact q1) hw.1
  | other q1 =>
    rw [show c + (k + 1 - a) = c + (k - a) + 1 by omega]
    exact .other (by rw [h.sg h1 (by omega)]; exact q1)
theorem Win.lin {ss ts : List Txt} {a c n k e : Nat} {x : List Txt} {g : List Nat} (h : Win ss a ts c n) (hl : Lin ss k e x g) : a ≤ k → e ≤ a + n → Lin ts (c + (k - a)) (c + (e - a)) x g := by
  induction hl with
  | nil k => exact fun _ _ => .nil _
  | cons q r ih =>
    intro h1 h2
    have q1 := q.lt
    have q2 := r.le
    exact .cons (h.note q h1 (by omega)) (ih (by omega) h2)

/-- Names put twice are put once. -/
theorem putAll_iff {xs ys : List Txt} (h : ∀ s, s ∈ xs ↔ s ∈ ys) : putAll xs = putAll ys := by
  refine up_eq (putAll_up xs [] List.Pairwise.nil) (putAll_up ys [] List.Pairwise.nil) fun s => ?_
  show s ∈ xs.foldl putS [] ↔ s ∈ ys.foldl putS []
  rw [putAll_mem, putAll_mem]
  simp [h]
theorem sub_len : ∀ (xs ys : List Txt), xs.Nodup → (∀ s ∈ xs, s ∈ ys) → xs.length ≤ ys.length
  | [], ys, _, _ => Nat.zero_le _
  | x :: r, ys, hn, hs => by
    rw [List.nodup_cons] at hn
    have hx := hs x (by simp)
    have h1 := sub_len r (ys.erase x) hn.2 (fun s h => (List.mem_erase_of_ne (fun q => hn.1 (by rw [← q]; exact h))).2 (hs s (List.mem_cons_of_mem _ h)))
    rw [List.length_erase_of_mem hx] at h1
    have := List.length_pos_of_mem hx
    simp
    omega
theorem putAll_sub {xs ys : List Txt} (h : ∀ s ∈ xs, s ∈ ys) : (putAll xs).length ≤ (putAll ys).length := by
  have hup : ∀ (l : List Txt), l.Pairwise (· < ·) → l.Nodup := fun l hl => hl.imp fun q e => by subst e; exact tx_irr _ q
  have h1 := hup _ (putAll_up xs [] List.Pairwise.nil)
  refine sub_len _ _ h1 fun s hs => ?_
  have hs' : s ∈ xs.foldl putS [] := hs
  rw [putAll_mem] at hs'
  show s ∈ ys.foldl putS []
  rw [putAll_mem]
  rcases hs' with q | q
  · simp at q
  · exact .inr (h s q)
/-- Two plays side by side are one. -/
theorem play_two {ss : List Txt} (h : playB ss = true) : playB (ss ++ ss) = decide ((ss ++ ss).length ≤ 100) := by
  obtain ⟨h1, D, a, g, h2, h3, h4, h5⟩ := play_open h
  by_cases hl : (ss ++ ss).length ≤ 100
  · rw [decide_eq_true hl]
    have w1 : Win ss 0 (ss ++ ss) 0 ss.length := fun j hj => by rw [Nat.zero_add, List.getElem?_append_left hj]
    have w2 : Win ss 0 (ss ++ ss) ss.length ss.length := fun j hj => by rw [Nat.zero_add, List.getElem?_append_right (by omega), Nat.add_sub_cancel_left]
    have d1 := w1.deeds h2 (Nat.le_refl _) (by omega)
    have d2 := w2.deeds h2 (Nat.le_refl _) (by omega)
    have l1 := w1.lin h4 (Nat.le_refl _) (by omega)
    have l2 := w2.lin h4 (Nat.le_refl _) (by omega)
    simp only [Nat.sub_self, Nat.sub_zero, Nat.zero_add, Nat.add_zero] at d1 d2 l1 l2
    have hlen : (ss ++ ss).length = ss.length + ss.length := List.length_append
    rw [play_yes hl (by rw [hlen]; exact d1.trans d2) (by omega) (by rw [hlen]; exact l1.trans l2), decide_eq_true_eq]
    rw [putAll_iff (xs := a ++ a) (ys := a) (fun s => by simp)]
    exact h5
  · rw [decide_eq_false hl]
    exact play_long (by omega)

/-- No blank in a sign of a play. -/
def noB (s : Txt) : Prop := (32 : UInt8) ∉ s
theorem noB_name {s : Txt} (h : nameB s = true) : noB s := fun hm => by
  unfold nameB at h
  rw [Bool.and_eq_true] at h
  have := lowB_yes (List.all_eq_true.1 h.1 _ hm)
  revert this
  decide
theorem noB_word {s : Txt} {v : Int} (h : rdS s = some v) : noB s := fun hm => by
  have hd : ∀ neg d, rdD neg d = some v → (32 : UInt8) ∉ d := fun neg d q hq => by
    have := digB_iff.1 (List.all_eq_true.1 (rdD_some q).2.1 _ hq)
    revert this
    decide
  cases s with
  | nil => simp at hm
  | cons c r =>
    by_cases hc : c = 45
    · subst hc
      rw [rdS_neg] at h
      rcases List.mem_cons.1 hm with q | q
      · revert q; decide
      · exact hd _ _ h q
    · rw [rdS_pos hc] at h
      exact hd _ _ h hm
theorem noB_leaf {s : Txt} (h : leafB s = true) : noB s := by
  unfold leafB at h
  rw [Bool.or_eq_true] at h
  rcases h with h | h
  · obtain ⟨v, hv⟩ := Option.isSome_iff_exists.1 h
    exact noB_word hv
  · exact noB_name h
theorem noB_op {s : Txt} (h : ¬ opN s = 0) : noB s := by
  unfold opN at h
  repeat' split at h
  all_goals first | (subst s; unfold noB; decide) | exact absurd rfl h
theorem noB_gate {s : Txt} {g : Nat} (h : gateN s = some g) : noB s := by
  unfold gateN at h
  repeat' split at h
  all_goals first | (subst s; unfold noB; decide) | cases h
theorem noB_tree : ∀ {t : Sum}, t.ok → ∀ s ∈ t.flat, noB s
  | .leaf s, h, x, hx => by
    simp [Sum.flat] at hx
    subst hx
    exact noB_leaf h.2
  | .op s a b, h, x, hx => by
    simp only [Sum.flat, List.mem_cons, List.mem_append] at hx
    rcases hx with rfl | hx | hx
    · exact noB_op h.1
    · exact noB_tree h.2.1 x hx
    · exact noB_tree h.2.2 x hx
theorem noB_sum {ss : List Txt} {k k1 : Nat} (h : nnE (sumEndS ss (k : Int)) = some k1) : ∀ i, k ≤ i → i < k1 → noB (sg7 ss i) := by
  have e := nnE_some h
  obtain ⟨j, t, hj, ht⟩ := sum_of_end (ss := ss) (a := (k : Int)) (by omega)
  have hk : j = k := by omega
  subst hk
  have e2 := sum_end ht
  have ek : k1 = j + t.flat.length := by omega
  have hw := sumAt_iff.1 ht
  intro i h1 h2
  have h3 := hw.2 (i - j) (by omega)
  rw [show j + (i - j) = i by omega] at h3
  have hx := List.getElem?_eq_getElem (show i - j < t.flat.length by omega)
  rw [sg7_some (h3.trans hx)]
  exact noB_tree hw.1 _ (List.getElem_mem _)
theorem noB_head {s : Txt} (h : headB s = true) : noB s := by
  unfold headB at h
  have := of_decide_eq_true h
  unfold noB
  rcases this with rfl | rfl | rfl | rfl | rfl | rfl <;> decide
theorem noB_flat {ss : List Txt} {k k1 : Nat} (h : flatE ss k = some k1) : ∀ i, k ≤ i → i < k1 → noB (sg7 ss i) := by
  have h0 := noB_head (flat_head h).1
  intro i h1 h2
  by_cases hi : i = k
  · subst hi; exact h0
  unfold flatE at h
  by_cases q1 : sg7 ss k = wSet
  · rw [if_pos q1] at h
    split at h
    next hn =>
      by_cases hi2 : i = k + 1
      · subst hi2; exact noB_name hn
      · exact noB_sum h i (by omega) h2
    · cases h
  rw [if_neg q1] at h
  by_cases q2 : sg7 ss k = wIn
  · rw [if_pos q2] at h
    split at h
    next hn =>
      injection h with h
      by_cases hi2 : i = k + 1
      · subst hi2; exact noB_name hn.1
      · obtain ⟨g, hg⟩ := Option.isSome_iff_exists.1 hn.2
        rw [show i = k + 2 by omega]
        exact noB_gate hg
    · cases h
  rw [if_neg q2] at h
  by_cases q3 : sg7 ss k = wOut
  · rw [if_pos q3] at h
    split at h
    next hn =>
      by_cases hi2 : i = k + 1
      · subst hi2
        obtain ⟨g, hg⟩ := Option.isSome_iff_exists.1 hn
        exact noB_gate hg
      · exact noB_sum h i (by omega) h2
    · cases h
  rw [if_neg q3] at h
  by_cases q4 : sg7 ss k = wStop
  · rw [if_pos q4] at h
    injection h with h
    omega
  rw [if_neg q4] at h
  cases h
theorem Deeds.noB {ss : List Txt} {k e D : Nat} (h : Deeds ss k e D) : ∀ i, k ≤ i → i < e → noB (sg7 ss i) := by
  induction h with
  | nil => intro i h1 h2; omega
  | @flat k k1 e D hf r ih =>
    intro i h1 h2
    by_cases q : i < k1
    · exact noB_flat hf i h1 q
    · exact ih i (by omega) h2
  | @loop k k1 m e D1 D2 b1 b2 b3 d1 b4 d2 ih1 ih2 =>
    intro i h1 h2
    by_cases q0 : i = k
    · subst q0; exact noB_head (by rw [b1]; exact head_while)
    by_cases q1 : i < k1
    · unfold askE at b2; exact noB_sum b2 i (by omega) q1
    by_cases q2 : i = k1
    · subst q2; rw [b3]; unfold Proofs.YtjcmfdgphhonhaaGreatDoor.noB; decide
    by_cases q3 : i < m
    · exact ih1 i (by omega) q3
    by_cases q4 : i = m
    · subst q4; rw [b4]; unfold Proofs.YtjcmfdgphhonhaaGreatDoor.noB; decide
    exact ih2 i (by omega) h2
  | @fork k k1 m m2 e D1 D2 D3 b1 b2 b3 d1 b4 b5 d2 b6 d3 ih1 ih2 ih3 =>
    intro i h1 h2
    by_cases q0 : i = k
    · subst q0; exact noB_head (by rw [b1]; exact head_if)
    by_cases q1 : i < k1
    · unfold askE at b2; exact noB_sum b2 i (by omega) q1
    by_cases q2 : i = k1
    · subst q2; rw [b3]; unfold Proofs.YtjcmfdgphhonhaaGreatDoor.noB; decide
    by_cases q3 : i < m
    · exact ih1 i (by omega) q3
    by_cases q4 : i = m
    · subst q4; rw [b4]; unfold Proofs.YtjcmfdgphhonhaaGreatDoor.noB; decide
    by_cases q5 : i = m + 1
    · subst q5; rw [b5]; unfold Proofs.YtjcmfdgphhonhaaGreatDoor.noB; decide
    by_cases q6 : i < m2
    · exact ih2 i (by omega) q6
    by_cases q7 : i = m2
    · subst q7; rw [b6]; unfold Proofs.YtjcmfdgphhonhaaGreatDoor.noB; decide
    exact ih3 i (by omega) h2
theorem play_noB {ss : List Txt} (h : playB ss = true) : ∀ s ∈ ss, (32 : UInt8) ∉ s := by
  obtain ⟨h1, D, a, g, h2, _⟩ := play_open h
  intro s hs
  obtain ⟨i, hi, rfl⟩ := List.mem_iff_getElem.1 hs
  have := h2.noB i (Nat.zero_le _) hi
  rwa [sg7_some (List.getElem?_eq_getElem hi)] at this

/-- A deed of a play is a play. -/
theorem play_deed {ss : List Txt} {k e D : Nat} (h : playB ss = true) (h0 : ∃ D0, Deeds ss 0 k D0) (ho : One ss k e D) (h9 : ∃ D9, Deeds ss e ss.length D9) : playB ((ss.drop k).take (e - k)) = true ∧ ∀ x ∈ gatesP ((ss.drop k).take (e - k)), x ∈ gatesP ss := by
  obtain ⟨h1, DD, a, g, h2, h3, h4, h5⟩ := play_open h
  obtain ⟨D0, h0⟩ := h0
  obtain ⟨D9, h9⟩ := h9
  have hlt := ho.lt
  have hw : Win ss k ((ss.drop k).take (e - k)) 0 (e - k) := fun j hj => by rw [Nat.zero_add, List.getElem?_take, if_pos hj, List.getElem?_drop]
  have hlen : ((ss.drop k).take (e - k)).length = e - k := by simp; omega
  have hdet := (h0.trans (ho.deeds.trans h9)).det (end_head ss) _ _ h2 (end_head ss)
  have hd := hw.deeds ho.deeds (Nat.le_refl _) (by omega)
  obtain ⟨a0, g0, l0⟩ := h0.lin
  obtain ⟨a1, g1, l1⟩ := ho.deeds.lin
  obtain ⟨a9, g9, l9⟩ := h9.lin
  have hl := hw.lin l1 (Nat.le_refl _) (by omega)
  simp only [Nat.sub_self, Nat.zero_add, Nat.add_zero] at hd hl
  replace hd : Deeds ((ss.drop k).take (e - k)) 0 ((ss.drop k).take (e - k)).length D := by rw [hlen]; exact hd
  replace hl : Lin ((ss.drop k).take (e - k)) 0 ((ss.drop k).take (e - k)).length a1 g1 := by rw [hlen]; exact hl
  obtain ⟨ea, eg⟩ := (l0.trans (l1.trans l9)).det h4
  have hp : playB ((ss.drop k).take (e - k)) = true := by
    have hq := play_yes (ss := (ss.drop k).take (e - k)) (by omega) hd (by omega) hl
    rw [hq, decide_eq_true_eq]
    refine Nat.le_trans (putAll_sub fun s hs => ?_) h5
    rw [← ea]
    simp [hs]
  refine ⟨hp, fun x hx => ?_⟩
  rw [gates_yes7 hp hl] at hx
  rw [gates_yes7 h h4]
  unfold riseG at hx ⊢
  obtain ⟨y, hy, rfl⟩ := List.mem_map.1 hx
  refine List.mem_map.2 ⟨y, ?_, rfl⟩
  rw [List.mem_filter] at hy ⊢
  refine ⟨hy.1, ?_⟩
  have := of_decide_eq_true hy.2
  refine decide_eq_true ?_
  rw [← eg]
  simp [this]

end Go.Proofs.YtjcmfdgphhonhaaGreatDoor
