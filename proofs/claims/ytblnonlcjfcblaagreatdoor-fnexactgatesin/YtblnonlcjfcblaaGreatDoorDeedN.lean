/- Layer 7 (plays), in plain words: what is still to come where some [ are open; what a play is, its names and its gates. No program is named here. -/
import Derived.Test.YtblnonlcjfcblaaGreatDoorDeedM
namespace Go.Proofs.YtblnonlcjfcblaaGreatDoor
set_option linter.unusedVariables false

/-- What is still to come behind place k, with these [ open (true: a second one must follow its ]). D: how deep it lies, counted from outside. -/
def Rest (ss : List Txt) : List Bool → Nat → Nat → Nat → Prop
  | [], k, e, D => k = e ∧ D = 0
  | false :: r, k, e, D => ∃ m D1 D2, Deeds ss k m D1 ∧ sg7 ss m = wShut ∧ Rest ss r (m + 1) e D2 ∧ D = max (r.length + 1 + D1) D2
  | true :: r, k, e, D => ∃ m m2 D1 D2 D3, Deeds ss k m D1 ∧ sg7 ss m = wShut ∧ sg7 ss (m + 1) = wOpen ∧ Deeds ss (m + 2) m2 D2 ∧ sg7 ss m2 = wShut ∧ Rest ss r (m2 + 1) e D3 ∧ D = max (max (r.length + 1 + D1) (r.length + 1 + D2)) D3
/-- The same where a deed must come first when nothing is open. -/
def Todo (ss : List Txt) : List Bool → Nat → Nat → Nat → Prop
  | [], k, e, D => One ss k e D
  | b :: r, k, e, D => Rest ss (b :: r) k e D
theorem rest_ge {ss : List Txt} {o : List Bool} {k e D : Nat} (h : Rest ss o k e D) : o.length ≤ D := by
  match o, h with
  | [], _ => exact Nat.zero_le _
  | false :: r, ⟨m, D1, D2, _, _, _, h⟩ => simp; omega
  | true :: r, ⟨m, m2, D1, D2, D3, _, _, _, _, _, _, h⟩ => simp; omega
theorem deeds_first {ss : List Txt} {k k1 m D1 D : Nat} (h : One ss k k1 D1) (hm : sg7 ss m = wShut) (hd : Deeds ss k m D) : ∃ D2, Deeds ss k1 m D2 ∧ D = max D1 D2 := h.deeds.split m D hd (shut_head hm)
theorem todo_one {ss : List Txt} {o : List Bool} {k k1 e D1 D : Nat} (h : One ss k k1 D1) : Todo ss o k e D ↔ ∃ D', Rest ss o k1 e D' ∧ D = max (if o = [] then D1 else o.length + D1) D' := by
  match o with
  | [] =>
    constructor
    · intro q
      obtain ⟨rfl, rfl⟩ := h.det q
      exact ⟨0, ⟨rfl, rfl⟩, by simp⟩
    · rintro ⟨D', ⟨rfl, rfl⟩, rfl⟩
      show One ss k k1 _
      simpa using h
  | false :: r =>
    constructor
    · rintro ⟨m, E1, E2, h1, h2, h3, rfl⟩
      obtain ⟨E3, h4, rfl⟩ := deeds_first h h2 h1
      exact ⟨_, ⟨m, E3, E2, h4, h2, h3, rfl⟩, by simp; omega⟩
    · rintro ⟨D', ⟨m, E1, E2, h1, h2, h3, rfl⟩, rfl⟩
      exact ⟨m, _, E2, .cons h h1, h2, h3, by simp; omega⟩
  | true :: r =>
    constructor
    · rintro ⟨m, m2, E1, E2, E3, h1, h2, h3, h4, h5, h6, rfl⟩
      obtain ⟨E4, h7, rfl⟩ := deeds_first h h2 h1
      exact ⟨_, ⟨m, m2, E4, E2, E3, h7, h2, h3, h4, h5, h6, rfl⟩, by simp; omega⟩
    · rintro ⟨D', ⟨m, m2, E1, E2, E3, h1, h2, h3, h4, h5, h6, rfl⟩, rfl⟩
      exact ⟨m, m2, _, E2, E3, .cons h h1, h2, h3, h4, h5, h6, by simp; omega⟩
theorem todo_flat {ss : List Txt} {o : List Bool} {k k1 e D : Nat} (h : flatE ss k = some k1) : Todo ss o k e D ↔ Rest ss o k1 e D := by
  rw [todo_one (.flat h)]
  constructor
  · rintro ⟨D', h1, rfl⟩
    have := rest_ge h1
    rw [show max (if o = [] then 0 else o.length + 0) D' = D' by split <;> omega]
    exact h1
  · intro h1
    have := rest_ge h1
    exact ⟨D, h1, by split <;> omega⟩
theorem todo_first {ss : List Txt} {o : List Bool} {k e D : Nat} (h : Todo ss o k e D) (hk : ¬ sg7 ss k = wShut) : ∃ k1 D1, One ss k k1 D1 := by
  match o, h with
  | [], h => exact ⟨_, _, h⟩
  | false :: r, ⟨m, E1, E2, h1, h2, h3, _⟩ =>
    rcases h1.inv with ⟨rfl, _⟩ | ⟨k1, D1, _, h4, _⟩
    · exact absurd h2 hk
    · exact ⟨k1, D1, h4⟩
  | true :: r, ⟨m, m2, E1, E2, E3, h1, h2, _⟩ =>
    rcases h1.inv with ⟨rfl, _⟩ | ⟨k1, D1, _, h4, _⟩
    · exact absurd h2 hk
    · exact ⟨k1, D1, h4⟩
theorem todo_loop {ss : List Txt} {o : List Bool} {k k1 e D : Nat} (h1 : sg7 ss k = wWhile) (h2 : askE ss k = some k1) (h3 : sg7 ss k1 = wOpen) : Todo ss o k e D ↔ Rest ss (false :: o) (k1 + 1) e D := by
  constructor
  · intro h
    obtain ⟨k2, D1, ho⟩ := todo_first h (by rw [h1]; decide)
    have hr := (todo_one ho).1 h
    cases ho with
    | flat hf => exact absurd h1 (flat_head hf).2.2
    | fork a => exact (ne_if_while a h1).elim
    | loop a b c d f =>
      rw [h2] at b
      injection b with b
      subst b
      obtain ⟨D', h4, rfl⟩ := hr
      refine ⟨_, _, D', d, f, h4, ?_⟩
      have := rest_ge h4
      split
      next q => subst q; simp; omega
      next q => omega
  · rintro ⟨m, D1, D2, h4, h5, h6, rfl⟩
    refine (todo_one (.loop h1 h2 h3 h4 h5)).2 ⟨D2, h6, ?_⟩
    have := rest_ge h6
    split
    next q => subst q; simp; omega
    next q => omega
theorem todo_fork {ss : List Txt} {o : List Bool} {k k1 e D : Nat} (h1 : sg7 ss k = wIf) (h2 : askE ss k = some k1) (h3 : sg7 ss k1 = wOpen) : Todo ss o k e D ↔ Rest ss (true :: o) (k1 + 1) e D := by
  constructor
  · intro h
    obtain ⟨k2, D1, ho⟩ := todo_first h (by rw [h1]; decide)
    have hr := (todo_one ho).1 h
    cases ho with
    | flat hf => exact absurd h1 (flat_head hf).2.1
    | loop a => exact (ne_if_while h1 a).elim
    | fork a b c d f g i j =>
      rw [h2] at b
      injection b with b
      subst b
      obtain ⟨D', h4, rfl⟩ := hr
      refine ⟨_, _, _, _, D', d, f, g, i, j, h4, ?_⟩
      have := rest_ge h4
      split
      next q => subst q; simp; omega
      next q => omega
  · rintro ⟨m, m2, D1, D2, D3, h4, h5, h6, h7, h8, h9, rfl⟩
    refine (todo_one (.fork h1 h2 h3 h4 h5 h6 h7 h8)).2 ⟨D3, h9, ?_⟩
    have := rest_ge h9
    split
    next q => subst q; simp; omega
    next q => omega
theorem shut_nil {ss : List Txt} {k m D : Nat} (h : sg7 ss k = wShut) (hd : Deeds ss k m D) : k = m ∧ D = 0 := by
  rcases hd.inv with q | ⟨_, _, _, h1, _⟩
  · exact q
  · have := h1.head
    rw [h, head_shut] at this
    cases this
theorem rest_shut {ss : List Txt} {r : List Bool} {k e D : Nat} (h : sg7 ss k = wShut) : Rest ss (false :: r) k e D ↔ ∃ D', Rest ss r (k + 1) e D' ∧ D = max (r.length + 1) D' := by
  constructor
  · rintro ⟨m, D1, D2, h1, h2, h3, rfl⟩
    obtain ⟨rfl, rfl⟩ := shut_nil h h1
    exact ⟨D2, h3, rfl⟩
  · rintro ⟨D', h1, rfl⟩
    exact ⟨k, 0, D', .nil k, h, h1, rfl⟩
theorem rest_next {ss : List Txt} {r : List Bool} {k e D : Nat} (h : sg7 ss k = wShut) (h2 : sg7 ss (k + 1) = wOpen) : Rest ss (true :: r) k e D ↔ Rest ss (false :: r) (k + 2) e D := by
  constructor
  · rintro ⟨m, m2, D1, D2, D3, i1, i2, i3, i4, i5, i6, rfl⟩
    obtain ⟨rfl, rfl⟩ := shut_nil h i1
    exact ⟨m2, D2, D3, i4, i5, i6, by omega⟩
  · rintro ⟨m, D1, D2, i1, i2, i3, rfl⟩
    exact ⟨k, m, 0, D1, D2, .nil k, h, h2, i1, i2, i3, by omega⟩
theorem rest_bad {ss : List Txt} {r : List Bool} {k e D : Nat} (h : sg7 ss k = wShut) (h2 : ¬ sg7 ss (k + 1) = wOpen) : ¬ Rest ss (true :: r) k e D := by
  rintro ⟨m, m2, D1, D2, D3, i1, i2, i3, _⟩
  obtain ⟨rfl, rfl⟩ := shut_nil h i1
  exact h2 i3

/-- Where takesDeed is: from k0 it has come to k, these [ are open (the innermost first), dp: the deepest so far. -/
def AtD (ss : List Txt) (k0 : Nat) (T : List Txt → List Bool → Nat → Nat → Nat → Prop) (o : List Bool) (k dp : Nat) : Prop := o.length ≤ dp ∧ ∀ e D, One ss k0 e D ↔ ∃ D', T ss o k e D' ∧ D = max dp D'
theorem at_start (ss : List Txt) (k : Nat) : AtD ss k Todo [] k 0 := ⟨Nat.le_refl _, fun e D => ⟨fun h => ⟨D, h, by omega⟩, fun ⟨D', h, q⟩ => by rw [q, Nat.zero_max]; exact h⟩⟩
theorem at_flat {ss : List Txt} {k0 k k1 dp : Nat} {o : List Bool} (h : AtD ss k0 Todo o k dp) (hf : flatE ss k = some k1) : AtD ss k0 Rest o k1 dp := ⟨h.1, fun e D => by rw [h.2]; simp only [todo_flat hf]⟩
theorem at_open {ss : List Txt} {k0 k k1 dp : Nat} {o : List Bool} {b : Bool} (h : AtD ss k0 Todo o k dp) (ht : ∀ e D, Todo ss o k e D ↔ Rest ss (b :: o) k1 e D) : AtD ss k0 Todo (b :: o) k1 (max dp (o.length + 1)) := by
  refine ⟨by simp; omega, fun e D => ?_⟩
  rw [h.2]
  constructor
  · rintro ⟨D', h1, rfl⟩
    have h2 := (ht e D').1 h1
    have := rest_ge h2
    refine ⟨D', h2, ?_⟩
    simp at this
    omega
  · rintro ⟨D', h1, rfl⟩
    have := rest_ge (show Rest ss (b :: o) k1 e D' from h1)
    refine ⟨D', (ht e D').2 h1, ?_⟩
    simp at this
    omega
theorem at_next {ss : List Txt} {k0 k dp : Nat} {r : List Bool} (h : AtD ss k0 Todo (true :: r) k dp) (h1 : sg7 ss k = wShut) (h2 : sg7 ss (k + 1) = wOpen) : AtD ss k0 Todo (false :: r) (k + 2) dp :=
  ⟨by have := h.1; simpa using this, fun e D => by rw [h.2]; exact ⟨fun ⟨D', q, e⟩ => ⟨D', (rest_next h1 h2).1 q, e⟩, fun ⟨D', q, e⟩ => ⟨D', (rest_next h1 h2).2 q, e⟩⟩⟩
theorem at_shut {ss : List Txt} {k0 k dp : Nat} {r : List Bool} (h : AtD ss k0 Todo (false :: r) k dp) (h1 : sg7 ss k = wShut) : AtD ss k0 Rest r (k + 1) dp := by
  have hl := h.1
  simp at hl
  refine ⟨by omega, fun e D => ?_⟩
  rw [h.2]
  constructor
  · rintro ⟨D', q, rfl⟩
    obtain ⟨D2, q2, rfl⟩ := (rest_shut h1).1 q
    exact ⟨D2, q2, by omega⟩
  · rintro ⟨D', q, rfl⟩
    exact ⟨_, (rest_shut h1).2 ⟨D', q, rfl⟩, by omega⟩
theorem at_goes {ss : List Txt} {k0 k dp : Nat} {b : Bool} {r : List Bool} (h : AtD ss k0 Rest (b :: r) k dp) : AtD ss k0 Todo (b :: r) k dp := h
theorem at_done {ss : List Txt} {k0 k dp : Nat} (h : AtD ss k0 Rest [] k dp) : One ss k0 k dp := (h.2 k dp).2 ⟨0, ⟨rfl, rfl⟩, by omega⟩
theorem at_fail {ss : List Txt} {k0 k dp : Nat} {o : List Bool} (h : AtD ss k0 Todo o k dp) (hn : ∀ e D, ¬ Todo ss o k e D) : ∀ e D, ¬ One ss k0 e D := fun e D q => by
  obtain ⟨D', q, _⟩ := (h.2 e D).1 q
  exact hn _ _ q
theorem fail_flat {ss : List Txt} {o : List Bool} {k : Nat} (hf : flatE ss k = none) (h1 : ¬ sg7 ss k = wIf) (h2 : ¬ sg7 ss k = wWhile) (h3 : ¬ sg7 ss k = wShut) : ∀ e D, ¬ Todo ss o k e D := fun e D q => by
  obtain ⟨k1, D1, ho⟩ := todo_first q h3
  cases ho with
  | flat h => rw [hf] at h; cases h
  | loop a => exact h2 a
  | fork a => exact h1 a
theorem fail_ask {ss : List Txt} {o : List Bool} {k : Nat} (h1 : sg7 ss k = wIf ∨ sg7 ss k = wWhile) (h2 : ∀ k1, askE ss k = some k1 → ¬ sg7 ss k1 = wOpen) : ∀ e D, ¬ Todo ss o k e D := fun e D q => by
  obtain ⟨k1, D1, ho⟩ := todo_first q (by rcases h1 with h1 | h1 <;> (rw [h1]; decide))
  cases ho with
  | flat h => rcases h1 with h1 | h1; exact (flat_head h).2.1 h1; exact (flat_head h).2.2 h1
  | loop a b c => exact h2 _ b c
  | fork a b c => exact h2 _ b c
theorem fail_shut {ss : List Txt} {k : Nat} (h : sg7 ss k = wShut) : ∀ e D, ¬ Todo ss [] k e D := fun e D q => by
  have := One.head (show One ss k e D from q)
  rw [h, head_shut] at this
  cases this
theorem fail_next {ss : List Txt} {r : List Bool} {k : Nat} (h : sg7 ss k = wShut) (h2 : ¬ sg7 ss (k + 1) = wOpen) : ∀ e D, ¬ Todo ss (true :: r) k e D := fun e D q => rest_bad h h2 q

/-- Is it a play? -/
def PlayP (ss : List Txt) : Prop := ss.length ≤ 100 ∧ ∃ D a g, Deeds ss 0 ss.length D ∧ D ≤ 5 ∧ Lin ss 0 ss.length a g ∧ (putAll a).length ≤ 12
noncomputable instance (ss : List Txt) : Decidable (PlayP ss) := Classical.propDecidable _
noncomputable def playB (ss : List Txt) : Bool := decide (PlayP ss)
/-- What is noted of it all. -/
noncomputable def linOf (ss : List Txt) : List Txt × List Nat := Classical.epsilon fun p => Lin ss 0 ss.length p.1 p.2
theorem linOf_eq {ss : List Txt} {a : List Txt} {g : List Nat} (h : Lin ss 0 ss.length a g) : linOf ss = (a, g) := by
  have := Classical.epsilon_spec (p := fun p : List Txt × List Nat => Lin ss 0 ss.length p.1 p.2) ⟨(a, g), h⟩
  obtain ⟨e1, e2⟩ := Lin.det this h
  exact Prod.ext e1 e2
theorem end_head (ss : List Txt) : headB (sg7 ss ss.length) = false := by rw [sg7_out (Nat.le_refl _)]; exact head_nil
theorem play_yes {ss : List Txt} {a : List Txt} {g : List Nat} {D : Nat} (h1 : ss.length ≤ 100) (h2 : Deeds ss 0 ss.length D) (h3 : D ≤ 5) (h4 : Lin ss 0 ss.length a g) : playB ss = decide ((putAll a).length ≤ 12) := by
  unfold playB
  by_cases h : (putAll a).length ≤ 12
  · rw [decide_eq_true (p := PlayP ss) ⟨h1, D, a, g, h2, h3, h4, h⟩, decide_eq_true h]
  · rw [decide_eq_false (p := PlayP ss), decide_eq_false h]
    rintro ⟨_, D', a', g', _, _, h4', h5⟩
    obtain ⟨rfl, rfl⟩ := h4.det h4'
    exact h h5
theorem play_long {ss : List Txt} (h : 100 < ss.length) : playB ss = false := by
  unfold playB
  exact decide_eq_false fun ⟨q, _⟩ => by omega
theorem play_no {ss : List Txt} (h : ∀ D, Deeds ss 0 ss.length D → 5 < D) : playB ss = false := by
  unfold playB
  refine decide_eq_false ?_
  rintro ⟨_, D, _, _, h1, h2, _⟩
  have := h D h1
  omega
theorem play_open {ss : List Txt} (h : playB ss = true) : PlayP ss := by
  unfold playB at h
  exact of_decide_eq_true h
noncomputable def namesP (ss : List Txt) : List Txt := if playB ss = true then putAll (linOf ss).1 else []
/-- Gates, each once, rising. -/
def riseG (g : List Nat) : List Int := ((List.range 4).filter fun k => decide (k ∈ g)).map Int.ofNat
noncomputable def gatesP (ss : List Txt) : List Int := if playB ss = true then riseG (linOf ss).2 else []
theorem names_no7 {ss : List Txt} (h : playB ss = false) : namesP ss = [] := by unfold namesP; rw [h]; rfl
theorem gates_no7 {ss : List Txt} (h : playB ss = false) : gatesP ss = [] := by unfold gatesP; rw [h]; rfl
theorem names_yes7 {ss : List Txt} {a : List Txt} {g : List Nat} (h : playB ss = true) (hl : Lin ss 0 ss.length a g) : namesP ss = putAll a := by unfold namesP; rw [if_pos h, linOf_eq hl]
theorem gates_yes7 {ss : List Txt} {a : List Txt} {g : List Nat} (h : playB ss = true) (hl : Lin ss 0 ss.length a g) : gatesP ss = riseG g := by unfold gatesP; rw [if_pos h, linOf_eq hl]
theorem lin_gates {ss : List Txt} {k e : Nat} {a : List Txt} {g : List Nat} (h : Lin ss k e a g) : ∀ x ∈ g, x < 4 := by
  induction h with
  | nil => intro x hx; cases hx
  | cons n _ ih =>
    intro x hx
    rcases List.mem_append.1 hx with hx | hx
    · cases n with
      | set => cases hx
      | in_ _ _ _ h => simp at hx; subst hx; exact gateN_lt h
      | out _ h => simp at hx; subst hx; exact gateN_lt h
      | ask => cases hx
      | other => cases hx
    · exact ih x hx
theorem lin_glen {ss : List Txt} {k e : Nat} {a : List Txt} {g : List Nat} (h : Lin ss k e a g) : g.length + k ≤ e := by
  induction h with
  | nil => simp
  | cons n _ ih =>
    have hn := n.lt
    rw [List.length_append]
    cases n <;> simp_all <;> omega

end Go.Proofs.YtblnonlcjfcblaaGreatDoor
