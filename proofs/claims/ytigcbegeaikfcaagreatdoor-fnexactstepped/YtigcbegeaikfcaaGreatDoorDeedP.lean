/- Layer 7 (plays), in plain words: signs, deeds, blocks, how deep they lie; names and gates noted from left to right. No program is named here. Layer 7 (plays), in plain words: what is still to come where some [ are open; what a play is, its names and its gates. No program is named here. Layer 8 (steps), in plain words: the ops of a sum, of deeds side by side; where they lead. No program is named here. -/
import Derived.Test.YtigcbegeaikfcaaGreatDoorSumS
namespace Go.Proofs.YtigcbegeaikfcaaGreatDoor
set_option linter.unusedVariables false

abbrev wSet : Txt := [115, 101, 116]
abbrev wIn : Txt := [105, 110]
abbrev wOut : Txt := [111, 117, 116]
abbrev wStop : Txt := [115, 116, 111, 112]
abbrev wIf : Txt := [105, 102]
abbrev wWhile : Txt := [119, 104, 105, 108, 101]
abbrev wOpen : Txt := [91]
abbrev wShut : Txt := [93]

/-- The sign at a place; nothing behind the end. -/
def sg7 (ss : List Txt) (k : Nat) : Txt := (ss[k]?).getD []
theorem sg7_some {ss : List Txt} {k : Nat} {x : Txt} (h : ss[k]? = some x) : sg7 ss k = x := by unfold sg7; rw [h]; rfl
theorem sg7_out {ss : List Txt} {k : Nat} (h : ss.length ≤ k) : sg7 ss k = [] := by unfold sg7; rw [List.getElem?_eq_none h]; rfl
theorem sg7_in {ss : List Txt} {k : Nat} (h : sg7 ss k ≠ []) : k < ss.length := by
  by_cases q : k < ss.length
  · exact q
  · exact absurd (sg7_out (by omega)) h
theorem sg7_at {ss : List Txt} {k : Nat} {x : Txt} (h : sg7 ss k = x) (hx : x ≠ []) : ss[k]? = some x := by
  have := sg7_in (ss := ss) (k := k) (by rw [h]; exact hx)
  have e := List.getElem?_eq_getElem this
  rw [← h, sg7_some e, e]

/-- The gate that a sign is. -/
def gateN (s : Txt) : Option Nat := if s = [48] then some 0 else if s = [49] then some 1 else if s = [50] then some 2 else if s = [51] then some 3 else none
theorem gateN_lt {s : Txt} {g : Nat} (h : gateN s = some g) : g < 4 := by
  unfold gateN at h
  repeat' split at h
  all_goals first | (injection h with h; omega) | cases h
theorem gateN_nil : gateN [] = none := by decide
theorem nameB_nil : nameB [] = false := by decide
def nnE (x : Int) : Option Nat := if 0 ≤ x then some x.toNat else none
theorem nnE_some {x : Int} {k : Nat} (h : nnE x = some k) : x = (k : Int) := by
  unfold nnE at h
  split at h
  · injection h with h; omega
  · cases h
theorem nnE_none {x : Int} (h : nnE x = none) : x < 0 := by
  unfold nnE at h
  split at h
  · cases h
  · omega
theorem nnE_nat (k : Nat) : nnE (k : Int) = some k := by unfold nnE; rw [if_pos (by omega)]; simp
theorem nnE_neg : nnE (-1) = none := by decide

/-- The place behind a deed without blocks. -/
def flatE (ss : List Txt) (k : Nat) : Option Nat :=
  if sg7 ss k = wSet then (if nameB (sg7 ss (k + 1)) = true then nnE (sumEndS ss ((k + 2 : Nat) : Int)) else none)
  else if sg7 ss k = wIn then (if nameB (sg7 ss (k + 1)) = true ∧ (gateN (sg7 ss (k + 2))).isSome = true then some (k + 3) else none)
  else if sg7 ss k = wOut then (if (gateN (sg7 ss (k + 1))).isSome = true then nnE (sumEndS ss ((k + 2 : Nat) : Int)) else none)
  else if sg7 ss k = wStop then some (k + 1) else none
/-- The place behind the sum of an if or a while. -/
def askE (ss : List Txt) (k : Nat) : Option Nat := nnE (sumEndS ss ((k + 1 : Nat) : Int))
/-- Does a deed begin with that sign? -/
def headB (s : Txt) : Bool := decide (s = wSet ∨ s = wIn ∨ s = wOut ∨ s = wStop ∨ s = wIf ∨ s = wWhile)
theorem head_shut : headB wShut = false := by decide
theorem head_open : headB wOpen = false := by decide
theorem head_nil : headB [] = false := by decide
theorem head_if : headB wIf = true := by decide
theorem head_while : headB wWhile = true := by decide
theorem flat_head {ss : List Txt} {k k1 : Nat} (h : flatE ss k = some k1) : headB (sg7 ss k) = true ∧ ¬ sg7 ss k = wIf ∧ ¬ sg7 ss k = wWhile := by
  unfold flatE at h
  by_cases h1 : sg7 ss k = wSet
  · rw [h1]; decide
  rw [if_neg h1] at h
  by_cases h2 : sg7 ss k = wIn
  · rw [h2]; decide
  rw [if_neg h2] at h
  by_cases h3 : sg7 ss k = wOut
  · rw [h3]; decide
  rw [if_neg h3] at h
  by_cases h4 : sg7 ss k = wStop
  · rw [h4]; decide
  rw [if_neg h4] at h
  cases h
theorem end_in {ss : List Txt} {k k1 : Nat} (h : nnE (sumEndS ss (k : Int)) = some k1) : k < k1 ∧ k1 ≤ ss.length := by
  have e := nnE_some h
  obtain ⟨j, t, hj, ht⟩ := sum_of_end (ss := ss) (a := (k : Int)) (by omega)
  have hk : j = k := by omega
  subst hk
  have e2 := sum_end ht
  have hl := sum_len ht
  have := t.pos
  omega
theorem flat_in {ss : List Txt} {k k1 : Nat} (h : flatE ss k = some k1) : k < k1 ∧ k1 ≤ ss.length := by
  unfold flatE at h
  by_cases h1 : sg7 ss k = wSet
  · rw [if_pos h1] at h
    split at h
    · have := end_in h; omega
    · cases h
  rw [if_neg h1] at h
  by_cases h2 : sg7 ss k = wIn
  · rw [if_pos h2] at h
    split at h
    next hh =>
      injection h with h
      have := sg7_in (ss := ss) (k := k + 2) (fun q => by rw [q, gateN_nil] at hh; cases hh.2)
      omega
    · cases h
  rw [if_neg h2] at h
  by_cases h3 : sg7 ss k = wOut
  · rw [if_pos h3] at h
    split at h
    · have := end_in h; omega
    · cases h
  rw [if_neg h3] at h
  by_cases h4 : sg7 ss k = wStop
  · rw [if_pos h4] at h
    injection h with h
    have := sg7_in (ss := ss) (k := k) (by rw [h4]; simp)
    omega
  rw [if_neg h4] at h
  cases h
theorem ask_in {ss : List Txt} {k k1 : Nat} (h : askE ss k = some k1) : k + 1 < k1 ∧ k1 ≤ ss.length := end_in h

/-- Some deeds (or none) from place k to place e; D: how deep their blocks lie. -/
inductive Deeds (ss : List Txt) : Nat → Nat → Nat → Prop
  | nil (k : Nat) : Deeds ss k k 0
  | flat {k k1 e D : Nat} : flatE ss k = some k1 → Deeds ss k1 e D → Deeds ss k e D
  | loop {k k1 m e D1 D2 : Nat} : sg7 ss k = wWhile → askE ss k = some k1 → sg7 ss k1 = wOpen → Deeds ss (k1 + 1) m D1 → sg7 ss m = wShut → Deeds ss (m + 1) e D2 → Deeds ss k e (max (D1 + 1) D2)
  | fork {k k1 m m2 e D1 D2 D3 : Nat} : sg7 ss k = wIf → askE ss k = some k1 → sg7 ss k1 = wOpen → Deeds ss (k1 + 1) m D1 → sg7 ss m = wShut → sg7 ss (m + 1) = wOpen → Deeds ss (m + 2) m2 D2 → sg7 ss m2 = wShut → Deeds ss (m2 + 1) e D3 → Deeds ss k e (max (max D1 D2 + 1) D3)
/-- One deed. -/
inductive One (ss : List Txt) : Nat → Nat → Nat → Prop
  | flat {k e : Nat} : flatE ss k = some e → One ss k e 0
  | loop {k k1 m D1 : Nat} : sg7 ss k = wWhile → askE ss k = some k1 → sg7 ss k1 = wOpen → Deeds ss (k1 + 1) m D1 → sg7 ss m = wShut → One ss k (m + 1) (D1 + 1)
  | fork {k k1 m m2 D1 D2 : Nat} : sg7 ss k = wIf → askE ss k = some k1 → sg7 ss k1 = wOpen → Deeds ss (k1 + 1) m D1 → sg7 ss m = wShut → sg7 ss (m + 1) = wOpen → Deeds ss (m + 2) m2 D2 → sg7 ss m2 = wShut → One ss k (m2 + 1) (max D1 D2 + 1)
theorem Deeds.cons {ss : List Txt} {k k1 e D1 D2 : Nat} (h : One ss k k1 D1) (r : Deeds ss k1 e D2) : Deeds ss k e (max D1 D2) := by
  cases h with
  | flat h => rw [Nat.zero_max]; exact .flat h r
  | loop a b c d f => exact .loop a b c d f r
  | fork a b c d f g i j => exact .fork a b c d f g i j r
theorem Deeds.inv {ss : List Txt} {k e D : Nat} (h : Deeds ss k e D) : (k = e ∧ D = 0) ∨ ∃ k1 D1 D2, One ss k k1 D1 ∧ Deeds ss k1 e D2 ∧ D = max D1 D2 := by
  cases h with
  | nil => exact .inl ⟨rfl, rfl⟩
  | flat h r => exact .inr ⟨_, 0, _, .flat h, r, by rw [Nat.zero_max]⟩
  | loop a b c d f r => exact .inr ⟨_, _, _, .loop a b c d f, r, rfl⟩
  | fork a b c d f g i j r => exact .inr ⟨_, _, _, .fork a b c d f g i j, r, rfl⟩
theorem Deeds.trans {ss : List Txt} {k m D1 : Nat} (h : Deeds ss k m D1) : ∀ {e D2 : Nat}, Deeds ss m e D2 → Deeds ss k e (max D1 D2) := by
  induction h with
  | nil k => intro e D2 r; rw [Nat.zero_max]; exact r
  | flat h _ ih => intro e D2 r; exact .flat h (ih r)
  | loop a b c d f _ _ ih => intro e D2 r; rw [Nat.max_assoc]; exact .loop a b c d f (ih r)
  | fork a b c d f g i j _ _ _ ih => intro e D2 r; rw [Nat.max_assoc]; exact .fork a b c d f g i j (ih r)
theorem One.deeds {ss : List Txt} {k e D : Nat} (h : One ss k e D) : Deeds ss k e D := by
  have := Deeds.cons h (.nil e)
  rwa [Nat.max_zero] at this
theorem Deeds.snoc {ss : List Txt} {k m e D1 D2 : Nat} (h : Deeds ss k m D1) (r : One ss m e D2) : Deeds ss k e (max D1 D2) := h.trans r.deeds
theorem One.head {ss : List Txt} {k e D : Nat} (h : One ss k e D) : headB (sg7 ss k) = true := by
  cases h with
  | flat h => exact (flat_head h).1
  | loop a => rw [a]; exact head_while
  | fork a => rw [a]; exact head_if
theorem Deeds.le {ss : List Txt} {k e D : Nat} (h : Deeds ss k e D) : k ≤ e ∧ (e ≤ ss.length ∨ k = e) := by
  induction h with
  | nil => exact ⟨Nat.le_refl _, .inr rfl⟩
  | flat h r ih => have := flat_in h; omega
  | @loop k k1 m e D1 D2 a b c d f r ih1 ih2 =>
    have h1 := ask_in b
    have h2 := sg7_in (ss := ss) (k := m) (by rw [f]; simp)
    omega
  | @fork k k1 m m2 e D1 D2 D3 a b c d f g i j r ih1 ih2 ih3 =>
    have h1 := ask_in b
    have h2 := sg7_in (ss := ss) (k := m2) (by rw [j]; simp)
    omega
theorem One.lt {ss : List Txt} {k e D : Nat} (h : One ss k e D) : k < e ∧ e ≤ ss.length := by
  cases h with
  | flat h => exact flat_in h
  | loop a b c d f =>
    have h1 := ask_in b
    have h2 := sg7_in (by rw [f]; simp : sg7 ss _ ≠ [])
    have h3 := d.le
    omega
  | fork a b c d f g i j =>
    have h1 := ask_in b
    have h2 := sg7_in (by rw [j]; simp : sg7 ss _ ≠ [])
    have h3 := d.le
    have h4 := i.le
    omega

theorem ne_if_while {x : Txt} (h : x = wIf) (k : x = wWhile) : False := by rw [h] at k; revert k; decide
/-- From one place, to a place at which no deed begins, there is one way. -/
theorem Deeds.det {ss : List Txt} {k e D : Nat} (h : Deeds ss k e D) : headB (sg7 ss e) = false → ∀ e' D', Deeds ss k e' D' → headB (sg7 ss e') = false → e = e' ∧ D = D' := by
  have hs : ∀ m, sg7 ss m = wShut → headB (sg7 ss m) = false := fun m h => by rw [h]; exact head_shut
  induction h with
  | nil k =>
    intro h0 e' D' h' h1
    rcases h'.inv with ⟨rfl, rfl⟩ | ⟨_, _, _, ho, _⟩
    · exact ⟨rfl, rfl⟩
    · rw [ho.head] at h0; cases h0
  | flat h r ih =>
    intro h0 e' D' h' h1
    cases h' with
    | nil => rw [(flat_head h).1] at h1; cases h1
    | flat h2 r2 => rw [h] at h2; injection h2 with h2; subst h2; exact ih h0 _ _ r2 h1
    | loop a => exact absurd a (flat_head h).2.2
    | fork a => exact absurd a (flat_head h).2.1
  | loop a b c d f r ih1 ih2 =>
    intro h0 e' D' h' h1
    cases h' with
    | nil => rw [a, head_while] at h1; cases h1
    | flat h2 r2 => exact absurd a (flat_head h2).2.2
    | loop a' b' c' d' f' r' =>
      rw [b] at b'; injection b' with b'; subst b'
      obtain ⟨rfl, rfl⟩ := ih1 (hs _ f) _ _ d' (hs _ f')
      obtain ⟨rfl, rfl⟩ := ih2 h0 _ _ r' h1
      exact ⟨rfl, rfl⟩
    | fork a' => exact (ne_if_while a' a).elim
  | fork a b c d f g i j r ih1 ih2 ih3 =>
    intro h0 e' D' h' h1
    cases h' with
    | nil => rw [a, head_if] at h1; cases h1
    | flat h2 r2 => exact absurd a (flat_head h2).2.1
    | loop a' => exact (ne_if_while a a').elim
    | fork a' b' c' d' f' g' i' j' r' =>
      rw [b] at b'; injection b' with b'; subst b'
      obtain ⟨rfl, rfl⟩ := ih1 (hs _ f) _ _ d' (hs _ f')
      obtain ⟨rfl, rfl⟩ := ih2 (hs _ j) _ _ i' (hs _ j')
      obtain ⟨rfl, rfl⟩ := ih3 h0 _ _ r' h1
      exact ⟨rfl, rfl⟩
theorem shut_head {ss : List Txt} {m : Nat} (h : sg7 ss m = wShut) : headB (sg7 ss m) = false := by rw [h]; exact head_shut
theorem One.det {ss : List Txt} {k e e' D D' : Nat} (h : One ss k e D) (h' : One ss k e' D') : e = e' ∧ D = D' := by
  cases h with
  | flat h =>
    cases h' with
    | flat h2 => rw [h] at h2; injection h2 with h2; exact ⟨h2, rfl⟩
    | loop a => exact absurd a (flat_head h).2.2
    | fork a => exact absurd a (flat_head h).2.1
  | loop a b c d f =>
    cases h' with
    | flat h2 => exact absurd a (flat_head h2).2.2
    | loop a' b' c' d' f' =>
      rw [b] at b'; injection b' with b'; subst b'
      obtain ⟨rfl, rfl⟩ := d.det (shut_head f) _ _ d' (shut_head f')
      exact ⟨rfl, rfl⟩
    | fork a' => exact (ne_if_while a' a).elim
  | fork a b c d f g i j =>
    cases h' with
    | flat h2 => exact absurd a (flat_head h2).2.1
    | loop a' => exact (ne_if_while a a').elim
    | fork a' b' c' d' f' g' i' j' =>
      rw [b] at b'; injection b' with b'; subst b'
      obtain ⟨rfl, rfl⟩ := d.det (shut_head f) _ _ d' (shut_head f')
      obtain ⟨rfl, rfl⟩ := i.det (shut_head j) _ _ i' (shut_head j')
      exact ⟨rfl, rfl⟩
/-- Whoever comes to a place at which no deed begins comes by every place that is reached deed by deed. -/
theorem Deeds.split {ss : List Txt} {a p D1 : Nat} (h : Deeds ss a p D1) : ∀ m D, Deeds ss a m D → headB (sg7 ss m) = false → ∃ D2, Deeds ss p m D2 ∧ D = max D1 D2 := by
  have hc : ∀ {a k1 p D1 D2 : Nat}, One ss a k1 D1 → (∀ m D, Deeds ss k1 m D → headB (sg7 ss m) = false → ∃ D3, Deeds ss p m D3 ∧ D = max D2 D3) → ∀ m D, Deeds ss a m D → headB (sg7 ss m) = false → ∃ D3, Deeds ss p m D3 ∧ D = max (max D1 D2) D3 := by
    intro a k1 p D1 D2 ho ih m D hm hh
    rcases hm.inv with ⟨rfl, rfl⟩ | ⟨k2, E1, E2, h1, h2, rfl⟩
    · rw [ho.head] at hh; cases hh
    · obtain ⟨rfl, rfl⟩ := ho.det h1
      obtain ⟨D3, h3, rfl⟩ := ih m E2 h2 hh
      exact ⟨D3, h3, by rw [Nat.max_assoc]⟩
  induction h with
  | nil k => intro m D hm _; exact ⟨D, hm, by rw [Nat.zero_max]⟩
  | flat h r ih =>
    intro m D hm hh
    have := hc (.flat h) ih m D hm hh
    rwa [Nat.zero_max] at this
  | loop a b c d f r _ ih => exact hc (.loop a b c d f) ih
  | fork a b c d f g i j r _ _ ih => exact hc (.fork a b c d f g i j) ih
/-- Deed by deed one comes to no end where the next one is none. -/
theorem Deeds.stuck {ss : List Txt} {a p m D1 D d : Nat} (h : Deeds ss a p D1) (hm : Deeds ss a m D) (hh : headB (sg7 ss m) = false) (hp : ¬ p = m) (hn : ∀ e E, One ss p e E → d < E) : d < D := by
  obtain ⟨D2, h2, rfl⟩ := h.split m D hm hh
  rcases h2.inv with ⟨q, _⟩ | ⟨k1, E1, E2, h3, h4, rfl⟩
  · exact absurd q hp
  · have := hn _ _ h3
    omega

/-- What is noted at a place: the next place, names, gates. -/
inductive Note (ss : List Txt) : Nat → Nat → List Txt → List Nat → Prop
  | set {k k1 : Nat} {x : Txt} : sg7 ss k = wSet → sg7 ss (k + 1) = x → nameB x = true → nnE (sumEndS ss ((k + 2 : Nat) : Int)) = some k1 → Note ss k k1 (x :: namesS ss ((k + 2 : Nat) : Int)) []
  | in_ {k g : Nat} {x : Txt} : sg7 ss k = wIn → sg7 ss (k + 1) = x → nameB x = true → gateN (sg7 ss (k + 2)) = some g → Note ss k (k + 3) [x] [g]
  | out {k k1 g : Nat} : sg7 ss k = wOut → gateN (sg7 ss (k + 1)) = some g → nnE (sumEndS ss ((k + 2 : Nat) : Int)) = some k1 → Note ss k k1 (namesS ss ((k + 2 : Nat) : Int)) [g]
  | ask {k k1 : Nat} : (sg7 ss k = wIf ∨ sg7 ss k = wWhile) → askE ss k = some k1 → Note ss k k1 (namesS ss ((k + 1 : Nat) : Int)) []
  | other {k : Nat} : (sg7 ss k = wStop ∨ sg7 ss k = wOpen ∨ sg7 ss k = wShut) → Note ss k (k + 1) [] []
theorem w_ne : wSet ≠ wIn ∧ wSet ≠ wOut ∧ wSet ≠ wStop ∧ wSet ≠ wIf ∧ wSet ≠ wWhile ∧ wSet ≠ wOpen ∧ wSet ≠ wShut ∧ wIn ≠ wOut ∧ wIn ≠ wStop ∧ wIn ≠ wIf ∧ wIn ≠ wWhile ∧ wIn ≠ wOpen ∧ wIn ≠ wShut ∧ wOut ≠ wStop ∧ wOut ≠ wIf ∧ wOut ≠ wWhile ∧ wOut ≠ wOpen ∧ wOut ≠ wShut ∧ wStop ≠ wIf ∧ wStop ≠ wWhile ∧ wStop ≠ wOpen ∧ wStop ≠ wShut ∧ wIf ≠ wWhile ∧ wIf ≠ wOpen ∧ wIf ≠ wShut ∧ wWhile ≠ wOpen ∧ wWhile ≠ wShut ∧ wOpen ≠ wShut := by decide
theorem Note.det {ss : List Txt} {k k1 k2 : Nat} {a b : List Txt} {g h : List Nat} (n : Note ss k k1 a g) (m : Note ss k k2 b h) : k1 = k2 ∧ a = b ∧ g = h := by
  cases n with
  | set h1 h2 h3 h4 =>
    cases m with
    | set i1 i2 i3 i4 => rw [h4] at i4; injection i4 with i4; subst h2 i2 i4; exact ⟨rfl, rfl, rfl⟩
    | in_ i1 => rw [h1] at i1; exact absurd i1 (by decide)
    | out i1 => rw [h1] at i1; exact absurd i1 (by decide)
    | ask i1 => rw [h1] at i1; exact absurd i1 (by decide)
    | other i1 => rw [h1] at i1; exact absurd i1 (by decide)
  | in_ h1 h2 h3 h4 =>
    cases m with
    | set i1 => rw [h1] at i1; exact absurd i1 (by decide)
    | in_ i1 i2 i3 i4 => rw [h4] at i4; injection i4 with i4; subst h2 i2 i4; exact ⟨rfl, rfl, rfl⟩
    | out i1 => rw [h1] at i1; exact absurd i1 (by decide)
    | ask i1 => rw [h1] at i1; exact absurd i1 (by decide)
    | other i1 => rw [h1] at i1; exact absurd i1 (by decide)
  | out h1 h2 h3 =>
    cases m with
    | set i1 => rw [h1] at i1; exact absurd i1 (by decide)
    | in_ i1 => rw [h1] at i1; exact absurd i1 (by decide)
    | out i1 i2 i3 => rw [h2] at i2; rw [h3] at i3; injection i2 with i2; injection i3 with i3; subst i2 i3; exact ⟨rfl, rfl, rfl⟩
    | ask i1 => rw [h1] at i1; exact absurd i1 (by decide)
    | other i1 => rw [h1] at i1; exact absurd i1 (by decide)
  | ask h1 h2 =>
    cases m with
    | set i1 => rw [i1] at h1; exact absurd h1 (by decide)
    | in_ i1 => rw [i1] at h1; exact absurd h1 (by decide)
    | out i1 => rw [i1] at h1; exact absurd h1 (by decide)
    | ask i1 i2 => rw [h2] at i2; injection i2 with i2; subst i2; exact ⟨rfl, rfl, rfl⟩
    | other i1 => rcases h1 with h1 | h1 <;> (rw [h1] at i1; exact absurd i1 (by decide))
  | other h1 =>
    cases m with
    | set i1 => rw [i1] at h1; exact absurd h1 (by decide)
    | in_ i1 => rw [i1] at h1; exact absurd h1 (by decide)
    | out i1 => rw [i1] at h1; exact absurd h1 (by decide)
    | ask i1 => rcases i1 with i1 | i1 <;> (rw [i1] at h1; exact absurd h1 (by decide))
    | other i1 => exact ⟨rfl, rfl, rfl⟩
theorem Note.lt {ss : List Txt} {k k1 : Nat} {a : List Txt} {g : List Nat} (n : Note ss k k1 a g) : k < k1 ∧ k1 ≤ ss.length := by
  cases n with
  | set h1 h2 h3 h4 => have := end_in h4; omega
  | in_ h1 h2 h3 h4 =>
    have := sg7_in (ss := ss) (k := k + 2) (fun q => by rw [q, gateN_nil] at h4; cases h4)
    omega
  | out h1 h2 h3 => have := end_in h3; omega
  | ask h1 h2 => have := ask_in h2; omega
  | other h1 =>
    have := sg7_in (ss := ss) (k := k) (fun q => by rw [q] at h1; revert h1; decide)
    omega
/-- What is noted from place k to place e. -/
inductive Lin (ss : List Txt) : Nat → Nat → List Txt → List Nat → Prop
  | nil (k : Nat) : Lin ss k k [] []
  | cons {k k1 e : Nat} {a b : List Txt} {g h : List Nat} : Note ss k k1 a g → Lin ss k1 e b h → Lin ss k e (a ++ b) (g ++ h)
theorem Lin.trans {ss : List Txt} {k m : Nat} {a : List Txt} {g : List Nat} (h : Lin ss k m a g) : ∀ {e : Nat} {b : List Txt} {h : List Nat}, Lin ss m e b h → Lin ss k e (a ++ b) (g ++ h) := by
  induction h with
  | nil k => intro e b h r; exact r
  | cons n _ ih => intro e b h r; rw [List.append_assoc, List.append_assoc]; exact .cons n (ih r)
theorem Note.lin {ss : List Txt} {k e : Nat} {a : List Txt} {g : List Nat} (h : Note ss k e a g) : Lin ss k e a g := by
  have := Lin.cons h (.nil e)
  rwa [List.append_nil, List.append_nil] at this
theorem Lin.snoc {ss : List Txt} {k m e : Nat} {a b : List Txt} {g h : List Nat} (l : Lin ss k m a g) (n : Note ss m e b h) : Lin ss k e (a ++ b) (g ++ h) := l.trans n.lin
theorem Lin.le {ss : List Txt} {k e : Nat} {a : List Txt} {g : List Nat} (h : Lin ss k e a g) : k ≤ e := by
  induction h with
  | nil => exact Nat.le_refl _
  | cons n _ ih => have := n.lt; omega
theorem Lin.det {ss : List Txt} {k e : Nat} {a : List Txt} {g : List Nat} (h : Lin ss k e a g) : ∀ {b : List Txt} {i : List Nat}, Lin ss k e b i → a = b ∧ g = i := by
  induction h with
  | nil k =>
    intro b i h
    cases h with
    | nil => exact ⟨rfl, rfl⟩
    | cons n r => have := n.lt; have := r.le; omega
  | cons n r ih =>
    intro b i h
    cases h with
    | nil => have := n.lt; have := r.le; omega
    | cons n2 r2 =>
      obtain ⟨rfl, rfl, rfl⟩ := n.det n2
      obtain ⟨rfl, rfl⟩ := ih r2
      exact ⟨rfl, rfl⟩
theorem note_flat {ss : List Txt} {k k1 : Nat} (h : flatE ss k = some k1) : ∃ a g, Note ss k k1 a g := by
  unfold flatE at h
  by_cases h1 : sg7 ss k = wSet
  · rw [if_pos h1] at h
    split at h
    next hn => exact ⟨_, _, .set h1 rfl hn h⟩
    · cases h
  rw [if_neg h1] at h
  by_cases h2 : sg7 ss k = wIn
  · rw [if_pos h2] at h
    split at h
    next hh =>
      obtain ⟨g, hg⟩ := Option.isSome_iff_exists.1 hh.2
      injection h with h
      subst h
      exact ⟨_, _, .in_ h2 rfl hh.1 hg⟩
    · cases h
  rw [if_neg h2] at h
  by_cases h3 : sg7 ss k = wOut
  · rw [if_pos h3] at h
    split at h
    next hh =>
      obtain ⟨g, hg⟩ := Option.isSome_iff_exists.1 hh
      exact ⟨_, _, .out h3 hg h⟩
    · cases h
  rw [if_neg h3] at h
  by_cases h4 : sg7 ss k = wStop
  · rw [if_pos h4] at h
    injection h with h
    subst h
    exact ⟨_, _, .other (.inl h4)⟩
  rw [if_neg h4] at h
  cases h
theorem Deeds.lin {ss : List Txt} {k e D : Nat} (h : Deeds ss k e D) : ∃ a g, Lin ss k e a g := by
  induction h with
  | nil k => exact ⟨_, _, .nil k⟩
  | flat h _ ih =>
    obtain ⟨a, g, n⟩ := note_flat h
    obtain ⟨b, i, l⟩ := ih
    exact ⟨_, _, .cons n l⟩
  | loop a b c d f _ ih1 ih2 =>
    obtain ⟨_, _, l1⟩ := ih1
    obtain ⟨_, _, l2⟩ := ih2
    exact ⟨_, _, .cons (.ask (.inr a) b) (.cons (.other (.inr (.inl c))) (l1.trans (.cons (.other (.inr (.inr f))) l2)))⟩
  | fork a b c d f g i j _ ih1 ih2 ih3 =>
    obtain ⟨_, _, l1⟩ := ih1
    obtain ⟨_, _, l2⟩ := ih2
    obtain ⟨_, _, l3⟩ := ih3
    exact ⟨_, _, .cons (.ask (.inl a) b) (.cons (.other (.inr (.inl c))) (l1.trans (.cons (.other (.inr (.inr f))) (.cons (.other (.inr (.inl g))) (l2.trans (.cons (.other (.inr (.inr j))) l3))))))⟩

end Go.Proofs.YtigcbegeaikfcaaGreatDoor

namespace Go.Proofs.YtigcbegeaikfcaaGreatDoor
set_option linter.unusedVariables false

/-- What is still to come behind place k, with these [ open (true: a second one must follow its ]). D: how deep it lies, counted from outside. -/
def Rest (ss : List Txt) : List Bool → Nat → Nat → Nat → Prop
  | [], k, e, D => k = e ∧ D = 0
  | false :: r, k, e, D => ∃ m D1 D2, Deeds ss k m D1 ∧ sg7 ss m = wShut ∧ Rest ss r (m + 1) e D2 ∧ D = max (r.length + 1 + D1) D2
  | true :: r, k, e, D => ∃ m m2 D1 D2 D3, Deeds ss k m D1 ∧ sg7 ss m = wShut ∧ sg7 ss (m + 1) = wOpen ∧ Deeds ss (m + 2) m2 D2 ∧ sg7 ss m2 = wShut ∧ Rest ss r (m2 + 1) e D3 ∧ D = max (max (r.length + 1 + D1) (r.length + 1 + D2)) D3
/-- The same where a deed must come first when nothing is open. -/
def Todo (ss : List Txt) : List Bool → Nat → Nat → Nat → Prop
  | [], k, e, D => One ss k e D
  | b :: r, k, e, D => Rest ss (b :: r) k e D
theorem rest_ge {ss : List Txt} {o : List Bool} {k e D : Nat} (h : Rest ss o k e D) : o.length ≤ D := by
  match o, h with
  | [], _ => exact Nat.zero_le _
  | false :: r, ⟨m, D1, D2, _, _, _, h⟩ => simp; omega
  | true :: r, ⟨m, m2, D1, D2, D3, _, _, _, _, _, _, h⟩ => simp; omega
theorem deeds_first {ss : List Txt} {k k1 m D1 D : Nat} (h : One ss k k1 D1) (hm : sg7 ss m = wShut) (hd : Deeds ss k m D) : ∃ D2, Deeds ss k1 m D2 ∧ D = max D1 D2 := h.deeds.split m D hd (shut_head hm)
theorem todo_one {ss : List Txt} {o : List Bool} {k k1 e D1 D : Nat} (h : One ss k k1 D1) : Todo ss o k e D ↔ ∃ D', Rest ss o k1 e D' ∧ D = max (if o = [] then D1 else o.length + D1) D' := by
  match o with
  | [] =>
    constructor
    · intro q
      obtain ⟨rfl, rfl⟩ := h.det q
      exact ⟨0, ⟨rfl, rfl⟩, by simp⟩
    · rintro ⟨D', ⟨rfl, rfl⟩, rfl⟩
      show One ss k k1 _
      simpa using h
  | false :: r =>
    constructor
    · rintro ⟨m, E1, E2, h1, h2, h3, rfl⟩
      obtain ⟨E3, h4, rfl⟩ := deeds_first h h2 h1
      exact ⟨_, ⟨m, E3, E2, h4, h2, h3, rfl⟩, by simp; omega⟩
    · rintro ⟨D', ⟨m, E1, E2, h1, h2, h3, rfl⟩, rfl⟩
      exact ⟨m, _, E2, .cons h h1, h2, h3, by simp; omega⟩
  | true :: r =>
    constructor
    · rintro ⟨m, m2, E1, E2, E3, h1, h2, h3, h4, h5, h6, rfl⟩
      obtain ⟨E4, h7, rfl⟩ := deeds_first h h2 h1
      exact ⟨_, ⟨m, m2, E4, E2, E3, h7, h2, h3, h4, h5, h6, rfl⟩, by simp; omega⟩
    · rintro ⟨D', ⟨m, m2, E1, E2, E3, h1, h2, h3, h4, h5, h6, rfl⟩, rfl⟩
      exact ⟨m, m2, _, E2, E3, .cons h h1, h2, h3, h4, h5, h6, by simp; omega⟩
theorem todo_flat {ss : List Txt} {o : List Bool} {k k1 e D : Nat} (h : flatE ss k = some k1) : Todo ss o k e D ↔ Rest ss o k1 e D := by
  rw [todo_one (.flat h)]
  constructor
  · rintro ⟨D', h1, rfl⟩
    have := rest_ge h1
    rw [show max (if o = [] then 0 else o.length + 0) D' = D' by split <;> omega]
    exact h1
  · intro h1
    have := rest_ge h1
    exact ⟨D, h1, by split <;> omega⟩
theorem todo_first {ss : List Txt} {o : List Bool} {k e D : Nat} (h : Todo ss o k e D) (hk : ¬ sg7 ss k = wShut) : ∃ k1 D1, One ss k k1 D1 := by
  match o, h with
  | [], h => exact ⟨_, _, h⟩
  | false :: r, ⟨m, E1, E2, h1, h2, h3, _⟩ =>
    rcases h1.inv with ⟨rfl, _⟩ | ⟨k1, D1, _, h4, _⟩
    · exact absurd h2 hk
    · exact ⟨k1, D1, h4⟩
  | true :: r, ⟨m, m2, E1, E2, E3, h1, h2, _⟩ =>
    rcases h1.inv with ⟨rfl, _⟩ | ⟨k1, D1, _, h4, _⟩
    · exact absurd h2 hk
    · exact ⟨k1, D1, h4⟩
theorem todo_loop {ss : List Txt} {o : List Bool} {k k1 e D : Nat} (h1 : sg7 ss k = wWhile) (h2 : askE ss k = some k1) (h3 : sg7 ss k1 = wOpen) : Todo ss o k e D ↔ Rest ss (false :: o) (k1 + 1) e D := by
  constructor
  · intro h
    obtain ⟨k2, D1, ho⟩ := todo_first h (by rw [h1]; decide)
    have hr := (todo_one ho).1 h
    cases ho with
    | flat hf => exact absurd h1 (flat_head hf).2.2
    | fork a => exact (ne_if_while a h1).elim
    | loop a b c d f =>
      rw [h2] at b
      injection b with b
      subst b
      obtain ⟨D', h4, rfl⟩ := hr
      refine ⟨_, _, D', d, f, h4, ?_⟩
      have := rest_ge h4
      split
      next q => subst q; simp; omega
      next q => omega
  · rintro ⟨m, D1, D2, h4, h5, h6, rfl⟩
    refine (todo_one (.loop h1 h2 h3 h4 h5)).2 ⟨D2, h6, ?_⟩
    have := rest_ge h6
    split
    next q => subst q; simp; omega
    next q => omega
theorem todo_fork {ss : List Txt} {o : List Bool} {k k1 e D : Nat} (h1 : sg7 ss k = wIf) (h2 : askE ss k = some k1) (h3 : sg7 ss k1 = wOpen) : Todo ss o k e D ↔ Rest ss (true :: o) (k1 + 1) e D := by
  constructor
  · intro h
    obtain ⟨k2, D1, ho⟩ := todo_first h (by rw [h1]; decide)
    have hr := (todo_one ho).1 h
    cases ho with
    | flat hf => exact absurd h1 (flat_head hf).2.1
    | loop a => exact (ne_if_while h1 a).elim
    | fork a b c d f g i j =>
      rw [h2] at b
      injection b with b
      subst b
      obtain ⟨D', h4, rfl⟩ := hr
      refine ⟨_, _, _, _, D', d, f, g, i, j, h4, ?_⟩
      have := rest_ge h4
      split
      next q => subst q; simp; omega
      next q => omega
  · rintro ⟨m, m2, D1, D2, D3, h4, h5, h6, h7, h8, h9, rfl⟩
    refine (todo_one (.fork h1 h2 h3 h4 h5 h6 h7 h8)).2 ⟨D3, h9, ?_⟩
    have := rest_ge h9
    split
    next q => subst q; simp; omega
    next q => omega
theorem shut_nil {ss : List Txt} {k m D : Nat} (h : sg7 ss k = wShut) (hd : Deeds ss k m D) : k = m ∧ D = 0 := by
  rcases hd.inv with q | ⟨_, _, _, h1, _⟩
  · exact q
  · have := h1.head
    rw [h, head_shut] at this
    cases this
theorem rest_shut {ss : List Txt} {r : List Bool} {k e D : Nat} (h : sg7 ss k = wShut) : Rest ss (false :: r) k e D ↔ ∃ D', Rest ss r (k + 1) e D' ∧ D = max (r.length + 1) D' := by
  constructor
  · rintro ⟨m, D1, D2, h1, h2, h3, rfl⟩
    obtain ⟨rfl, rfl⟩ := shut_nil h h1
    exact ⟨D2, h3, rfl⟩
  · rintro ⟨D', h1, rfl⟩
    exact ⟨k, 0, D', .nil k, h, h1, rfl⟩
theorem rest_next {ss : List Txt} {r : List Bool} {k e D : Nat} (h : sg7 ss k = wShut) (h2 : sg7 ss (k + 1) = wOpen) : Rest ss (true :: r) k e D ↔ Rest ss (false :: r) (k + 2) e D := by
  constructor
  · rintro ⟨m, m2, D1, D2, D3, i1, i2, i3, i4, i5, i6, rfl⟩
    obtain ⟨rfl, rfl⟩ := shut_nil h i1
    exact ⟨m2, D2, D3, i4, i5, i6, by omega⟩
  · rintro ⟨m, D1, D2, i1, i2, i3, rfl⟩
    exact ⟨k, m, 0, D1, D2, .nil k, h, h2, i1, i2, i3, by omega⟩
theorem rest_bad {ss : List Txt} {r : List Bool} {k e D : Nat} (h : sg7 ss k = wShut) (h2 : ¬ sg7 ss (k + 1) = wOpen) : ¬ Rest ss (true :: r) k e D := by
  rintro ⟨m, m2, D1, D2, D3, i1, i2, i3, _⟩
  obtain ⟨rfl, rfl⟩ := shut_nil h i1
  exact h2 i3

/-- Where takesDeed is: from k0 it has come to k, these [ are open (the innermost first), dp: the deepest so far. -/
def AtD (ss : List Txt) (k0 : Nat) (T : List Txt → List Bool → Nat → Nat → Nat → Prop) (o : List Bool) (k dp : Nat) : Prop := o.length ≤ dp ∧ ∀ e D, One ss k0 e D ↔ ∃ D', T ss o k e D' ∧ D = max dp D'
theorem at_start (ss : List Txt) (k : Nat) : AtD ss k Todo [] k 0 := ⟨Nat.le_refl _, fun e D => ⟨fun h => ⟨D, h, by omega⟩, fun ⟨D', h, q⟩ => by rw [q, Nat.zero_max]; exact h⟩⟩
theorem at_flat {ss : List Txt} {k0 k k1 dp : Nat} {o : List Bool} (h : AtD ss k0 Todo o k dp) (hf : flatE ss k = some k1) : AtD ss k0 Rest o k1 dp := ⟨h.1, fun e D => by rw [h.2]; simp only [todo_flat hf]⟩
theorem at_open {ss : List Txt} {k0 k k1 dp : Nat} {o : List Bool} {b : Bool} (h : AtD ss k0 Todo o k dp) (ht : ∀ e D, Todo ss o k e D ↔ Rest ss (b :: o) k1 e D) : AtD ss k0 Todo (b :: o) k1 (max dp (o.length + 1)) := by
  refine ⟨by simp; omega, fun e D => ?_⟩
  rw [h.2]
  constructor
  · rintro ⟨D', h1, rfl⟩
    have h2 := (ht e D').1 h1
    have := rest_ge h2
    refine ⟨D', h2, ?_⟩
    simp at this
    omega
  · rintro ⟨D', h1, rfl⟩
    have := rest_ge (show Rest ss (b :: o) k1 e D' from h1)
    refine ⟨D', (ht e D').2 h1, ?_⟩
    simp at this
    omega
theorem at_next {ss : List Txt} {k0 k dp : Nat} {r : List Bool} (h : AtD ss k0 Todo (true :: r) k dp) (h1 : sg7 ss k = wShut) (h2 : sg7 ss (k + 1) = wOpen) : AtD ss k0 Todo (false :: r) (k + 2) dp :=
  ⟨by have := h.1; simpa using this, fun e D => by rw [h.2]; exact ⟨fun ⟨D', q, e⟩ => ⟨D', (rest_next h1 h2).1 q, e⟩, fun ⟨D', q, e⟩ => ⟨D', (rest_next h1 h2).2 q, e⟩⟩⟩
theorem at_shut {ss : List Txt} {k0 k dp : Nat} {r : List Bool} (h : AtD ss k0 Todo (false :: r) k dp) (h1 : sg7 ss k = wShut) : AtD ss k0 Rest r (k + 1) dp := by
  have hl := h.1
  simp at hl
  refine ⟨by omega, fun e D => ?_⟩
  rw [h.2]
  constructor
  · rintro ⟨D', q, rfl⟩
    obtain ⟨D2, q2, rfl⟩ := (rest_shut h1).1 q
    exact ⟨D2, q2, by omega⟩
  · rintro ⟨D', q, rfl⟩
    exact ⟨_, (rest_shut h1).2 ⟨D', q, rfl⟩, by omega⟩
theorem at_goes {ss : List Txt} {k0 k dp : Nat} {b : Bool} {r : List Bool} (h : AtD ss k0 Rest (b :: r) k dp) : AtD ss k0 Todo (b :: r) k dp := h
theorem at_done {ss : List Txt} {k0 k dp : Nat} (h : AtD ss k0 Rest [] k dp) : One ss k0 k dp := (h.2 k dp).2 ⟨0, ⟨rfl, rfl⟩, by omega⟩
theorem at_fail {ss : List Txt} {k0 k dp : Nat} {o : List Bool} (h : AtD ss k0 Todo o k dp) (hn : ∀ e D, ¬ Todo ss o k e D) : ∀ e D, ¬ One ss k0 e D := fun e D q => by
  obtain ⟨D', q, _⟩ := (h.2 e D).1 q
  exact hn _ _ q
theorem fail_flat {ss : List Txt} {o : List Bool} {k : Nat} (hf : flatE ss k = none) (h1 : ¬ sg7 ss k = wIf) (h2 : ¬ sg7 ss k = wWhile) (h3 : ¬ sg7 ss k = wShut) : ∀ e D, ¬ Todo ss o k e D := fun e D q => by
  obtain ⟨k1, D1, ho⟩ := todo_first q h3
  cases ho with
  | flat h => rw [hf] at h; cases h
  | loop a => exact h2 a
  | fork a => exact h1 a
theorem fail_ask {ss : List Txt} {o : List Bool} {k : Nat} (h1 : sg7 ss k = wIf ∨ sg7 ss k = wWhile) (h2 : ∀ k1, askE ss k = some k1 → ¬ sg7 ss k1 = wOpen) : ∀ e D, ¬ Todo ss o k e D := fun e D q => by
  obtain ⟨k1, D1, ho⟩ := todo_first q (by rcases h1 with h1 | h1 <;> (rw [h1]; decide))
  cases ho with
  | flat h => rcases h1 with h1 | h1; exact (flat_head h).2.1 h1; exact (flat_head h).2.2 h1
  | loop a b c => exact h2 _ b c
  | fork a b c => exact h2 _ b c
theorem fail_shut {ss : List Txt} {k : Nat} (h : sg7 ss k = wShut) : ∀ e D, ¬ Todo ss [] k e D := fun e D q => by
  have := One.head (show One ss k e D from q)
  rw [h, head_shut] at this
  cases this
theorem fail_next {ss : List Txt} {r : List Bool} {k : Nat} (h : sg7 ss k = wShut) (h2 : ¬ sg7 ss (k + 1) = wOpen) : ∀ e D, ¬ Todo ss (true :: r) k e D := fun e D q => rest_bad h h2 q

/-- Is it a play? -/
def PlayP (ss : List Txt) : Prop := ss.length ≤ 100 ∧ ∃ D a g, Deeds ss 0 ss.length D ∧ D ≤ 5 ∧ Lin ss 0 ss.length a g ∧ (putAll a).length ≤ 12
noncomputable instance (ss : List Txt) : Decidable (PlayP ss) := Classical.propDecidable _
noncomputable def playB (ss : List Txt) : Bool := decide (PlayP ss)
/-- What is noted of it all. -/
noncomputable def linOf (ss : List Txt) : List Txt × List Nat := Classical.epsilon fun p => Lin ss 0 ss.length p.1 p.2
theorem linOf_eq {ss : List Txt} {a : List Txt} {g : List Nat} (h : Lin ss 0 ss.length a g) : linOf ss = (a, g) := by
  have := Classical.epsilon_spec (p := fun p : List Txt × List Nat => Lin ss 0 ss.length p.1 p.2) ⟨(a, g), h⟩
  obtain ⟨e1, e2⟩ := Lin.det this h
  exact Prod.ext e1 e2
theorem end_head (ss : List Txt) : headB (sg7 ss ss.length) = false := by rw [sg7_out (Nat.le_refl _)]; exact head_nil
theorem play_yes {ss : List Txt} {a : List Txt} {g : List Nat} {D : Nat} (h1 : ss.length ≤ 100) (h2 : Deeds ss 0 ss.length D) (h3 : D ≤ 5) (h4 : Lin ss 0 ss.length a g) : playB ss = decide ((putAll a).length ≤ 12) := by
  unfold playB
  by_cases h : (putAll a).length ≤ 12
  · rw [decide_eq_true (p := PlayP ss) ⟨h1, D, a, g, h2, h3, h4, h⟩, decide_eq_true h]
  · rw [decide_eq_false (p := PlayP ss), decide_eq_false h]
    rintro ⟨_, D', a', g', _, _, h4', h5⟩
    obtain ⟨rfl, rfl⟩ := h4.det h4'
    exact h h5
theorem play_long {ss : List Txt} (h : 100 < ss.length) : playB ss = false := by
  unfold playB
  exact decide_eq_false fun ⟨q, _⟩ => by omega
theorem play_no {ss : List Txt} (h : ∀ D, Deeds ss 0 ss.length D → 5 < D) : playB ss = false := by
  unfold playB
  refine decide_eq_false ?_
  rintro ⟨_, D, _, _, h1, h2, _⟩
  have := h D h1
  omega
theorem play_open {ss : List Txt} (h : playB ss = true) : PlayP ss := by
  unfold playB at h
  exact of_decide_eq_true h
noncomputable def namesP (ss : List Txt) : List Txt := if playB ss = true then putAll (linOf ss).1 else []
/-- Gates, each once, rising. -/
def riseG (g : List Nat) : List Int := ((List.range 4).filter fun k => decide (k ∈ g)).map Int.ofNat
noncomputable def gatesP (ss : List Txt) : List Int := if playB ss = true then riseG (linOf ss).2 else []
theorem names_no7 {ss : List Txt} (h : playB ss = false) : namesP ss = [] := by unfold namesP; rw [h]; rfl
theorem gates_no7 {ss : List Txt} (h : playB ss = false) : gatesP ss = [] := by unfold gatesP; rw [h]; rfl
theorem names_yes7 {ss : List Txt} {a : List Txt} {g : List Nat} (h : playB ss = true) (hl : Lin ss 0 ss.length a g) : namesP ss = putAll a := by unfold namesP; rw [if_pos h, linOf_eq hl]
theorem gates_yes7 {ss : List Txt} {a : List Txt} {g : List Nat} (h : playB ss = true) (hl : Lin ss 0 ss.length a g) : gatesP ss = riseG g := by unfold gatesP; rw [if_pos h, linOf_eq hl]
theorem lin_gates {ss : List Txt} {k e : Nat} {a : List Txt} {g : List Nat} (h : Lin ss k e a g) : ∀ x ∈ g, x < 4 := by
  induction h with
  | nil => intro x hx; cases hx
  | cons n _ ih =>
    intro x hx
    rcases List.mem_append.1 hx with hx | hx
    · cases n with
      | set => cases hx
      | in_ _ _ _ h => simp at hx; subst hx; exact gateN_lt h
      | out _ h => simp at hx; subst hx; exact gateN_lt h
      | ask => cases hx
      | other => cases hx
    · exact ih x hx
theorem lin_glen {ss : List Txt} {k e : Nat} {a : List Txt} {g : List Nat} (h : Lin ss k e a g) : g.length + k ≤ e := by
  induction h with
  | nil => simp
  | cons n _ ih =>
    have hn := n.lt
    rw [List.length_append]
    cases n <;> simp_all <;> omega

end Go.Proofs.YtigcbegeaikfcaaGreatDoor

namespace Go.Proofs.YtigcbegeaikfcaaGreatDoor
set_option linter.unusedVariables false

def codeT : Sum → List Opv
  | .leaf s => [match rdS s with | some n => (1, n, []) | none => (2, 0, s)]
  | .op s a b => codeT a ++ (codeT b ++ [(3, opN s, [])])
theorem codeT_len : ∀ t : Sum, (codeT t).length = t.flat.length
  | .leaf s => rfl
  | .op s a b => by
    have h1 := codeT_len a
    have h2 := codeT_len b
    simp [codeT, Sum.flat]
    omega

/-- The ops of deeds from place k to place e, n ops ahead of them. -/
inductive Turn (ss : List Txt) : Nat → Nat → Nat → List Opv → Prop
  | nil (k n : Nat) : Turn ss k k n []
  | set {k e n : Nat} {t : Sum} {cs : List Opv} : sg7 ss k = wSet → SumAt ss (k + 2) t → Turn ss (k + 2 + t.flat.length) e (n + t.flat.length + 1) cs → Turn ss k e n (codeT t ++ (4, 0, sg7 ss (k + 1)) :: cs)
  | in_ {k e n g : Nat} {cs : List Opv} : sg7 ss k = wIn → gateN (sg7 ss (k + 2)) = some g → Turn ss (k + 3) e (n + 1) cs → Turn ss k e n ((5, (g : Int), sg7 ss (k + 1)) :: cs)
  | out {k e n g : Nat} {t : Sum} {cs : List Opv} : sg7 ss k = wOut → gateN (sg7 ss (k + 1)) = some g → SumAt ss (k + 2) t → Turn ss (k + 2 + t.flat.length) e (n + t.flat.length + 1) cs → Turn ss k e n (codeT t ++ (6, (g : Int), []) :: cs)
  | stop {k e n : Nat} {cs : List Opv} : sg7 ss k = wStop → Turn ss (k + 1) e (n + 1) cs → Turn ss k e n ((9, 0, []) :: cs)
  | loop {k e n m : Nat} {t : Sum} {ds cs : List Opv} : sg7 ss k = wWhile → SumAt ss (k + 1) t → sg7 ss (k + 1 + t.flat.length) = wOpen → Turn ss (k + 1 + t.flat.length + 1) m (n + t.flat.length + 1) ds → sg7 ss m = wShut → Turn ss (m + 1) e (n + t.flat.length + 1 + ds.length + 1) cs →
      Turn ss k e n (codeT t ++ (8, ((n + t.flat.length + 1 + ds.length + 1 : Nat) : Int), []) :: (ds ++ (7, (n : Int), []) :: cs))
  | fork {k e n m m2 : Nat} {t : Sum} {ds bs cs : List Opv} : sg7 ss k = wIf → SumAt ss (k + 1) t → sg7 ss (k + 1 + t.flat.length) = wOpen → Turn ss (k + 1 + t.flat.length + 1) m (n + t.flat.length + 1) ds → sg7 ss m = wShut → sg7 ss (m + 1) = wOpen → Turn ss (m + 2) m2 (n + t.flat.length + 1 + ds.length + 1) bs → sg7 ss m2 = wShut →
      Turn ss (m2 + 1) e (n + t.flat.length + 1 + ds.length + 1 + bs.length) cs →
      Turn ss k e n (codeT t ++ (8, ((n + t.flat.length + 1 + ds.length + 1 : Nat) : Int), []) :: (ds ++ (7, ((n + t.flat.length + 1 + ds.length + 1 + bs.length : Nat) : Int), []) :: (bs ++ cs)))

theorem ask_sum {ss : List Txt} {k k1 : Nat} (h : nnE (sumEndS ss (k : Int)) = some k1) : ∃ t, SumAt ss k t ∧ k1 = k + t.flat.length := by
  have e := nnE_some h
  obtain ⟨j, t, hj, ht⟩ := sum_of_end (ss := ss) (a := (k : Int)) (by omega)
  have hk : j = k := by omega
  subst hk
  have e2 := sum_end ht
  exact ⟨t, ht, by omega⟩
theorem Deeds.turn {ss : List Txt} {k e D : Nat} (h : Deeds ss k e D) : ∀ n, ∃ cs, Turn ss k e n cs := by
  induction h with
  | nil k => exact fun n => ⟨_, .nil k n⟩
  | @flat k k1 e D h r ih =>
    intro n
    unfold flatE at h
    by_cases h1 : sg7 ss k = wSet
    · rw [if_pos h1] at h
      split at h
      · obtain ⟨t, ht, rfl⟩ := ask_sum h
        obtain ⟨cs, hc⟩ := ih (n + t.flat.length + 1)
        exact ⟨_, .set h1 ht hc⟩
      · cases h
    rw [if_neg h1] at h
    by_cases h2 : sg7 ss k = wIn
    · rw [if_pos h2] at h
      split at h
      next hh =>
        injection h with h
        subst h
        obtain ⟨g, hg⟩ := Option.isSome_iff_exists.1 hh.2
        obtain ⟨cs, hc⟩ := ih (n + 1)
        exact ⟨_, .in_ h2 hg hc⟩
      · cases h
    rw [if_neg h2] at h
    by_cases h3 : sg7 ss k = wOut
    · rw [if_pos h3] at h
      split at h
      next hh =>
        obtain ⟨g, hg⟩ := Option.isSome_iff_exists.1 hh
        obtain ⟨t, ht, rfl⟩ := ask_sum h
        obtain ⟨cs, hc⟩ := ih (n + t.flat.length + 1)
        exact ⟨_, .out h3 hg ht hc⟩
      · cases h
    rw [if_neg h3] at h
    by_cases h4 : sg7 ss k = wStop
    · rw [if_pos h4] at h
      injection h with h
      subst h
      obtain ⟨cs, hc⟩ := ih (n + 1)
      exact ⟨_, .stop h4 hc⟩
    rw [if_neg h4] at h
    cases h
  | loop a b c d f r ih1 ih2 =>
    intro n
    obtain ⟨t, ht, rfl⟩ := ask_sum b
    obtain ⟨ds, ha⟩ := ih1 (n + t.flat.length + 1)
    obtain ⟨cs, hc⟩ := ih2 (n + t.flat.length + 1 + ds.length + 1)
    exact ⟨_, .loop a ht c ha f hc⟩
  | fork a b c d f g i j r ih1 ih2 ih3 =>
    intro n
    obtain ⟨t, ht, rfl⟩ := ask_sum b
    obtain ⟨ds, ha⟩ := ih1 (n + t.flat.length + 1)
    obtain ⟨bs, hb⟩ := ih2 (n + t.flat.length + 1 + ds.length + 1)
    obtain ⟨cs, hc⟩ := ih3 (n + t.flat.length + 1 + ds.length + 1 + bs.length)
    exact ⟨_, .fork a ht c ha f g hb j hc⟩
theorem Turn.len {ss : List Txt} {k e n : Nat} {cs : List Opv} (h : Turn ss k e n cs) : cs.length + k ≤ e := by
  induction h with
  | nil => simp
  | set _ _ _ ih => simp [codeT_len]; omega
  | in_ _ _ _ ih => simp; omega
  | out _ _ _ _ ih => simp [codeT_len]; omega
  | stop _ _ ih => simp; omega
  | loop _ _ _ _ _ _ ih1 ih2 => simp [codeT_len]; omega
  | fork _ _ _ _ _ _ _ _ _ ih1 ih2 ih3 => simp [codeT_len]; omega

/-- The code of a play. -/
noncomputable def turnOf (ss : List Txt) : List Opv := Classical.epsilon fun cs => Turn ss 0 ss.length 0 cs
noncomputable def codeP (ss : List Txt) : List Opv := if playB ss = true then turnOf ss ++ [(10, 0, [])] else []
theorem code_no {ss : List Txt} (h : playB ss = false) : codeP ss = [] := by unfold codeP; rw [h]; rfl
theorem code_yes {ss : List Txt} (h : playB ss = true) : Turn ss 0 ss.length 0 (turnOf ss) ∧ codeP ss = turnOf ss ++ [(10, 0, [])] ∧ ss.length ≤ 100 := by
  obtain ⟨h1, D, a, g, h2, _⟩ := play_open h
  exact ⟨Classical.epsilon_spec (p := fun cs => Turn ss 0 ss.length 0 cs) (h2.turn 0), by unfold codeP; rw [if_pos h], h1⟩

end Go.Proofs.YtigcbegeaikfcaaGreatDoor
