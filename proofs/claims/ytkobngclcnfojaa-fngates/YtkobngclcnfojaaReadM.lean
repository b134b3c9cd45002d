/- A text cut at '/', and the order that it tells. Plain mathematics. -/
import Derived.Test.YtkobngclcnfojaaOrdS
import Derived.Test.YtkobngclcnfojaaRowV
import Derived.Lib.Split
namespace Go.Proofs.Ytkobngclcnfojaa
open Go.RowKit
set_option linter.unusedVariables false

/-- The pieces of a text between signs b. -/
def cutT (b : UInt8) : List UInt8 → List (List UInt8)
  | [] => [[]]
  | c :: l => if c = b then [] :: cutT b l else match cutT b l with
    | [] => [[c]]
    | x :: r => (c :: x) :: r
theorem cutT_ne (b : UInt8) (l : List UInt8) : ∃ x r, cutT b l = x :: r := by
  cases l with
  | nil => exact ⟨[], [], rfl⟩
  | cons c l =>
    unfold cutT
    split
    · exact ⟨_, _, rfl⟩
    · split
      · exact ⟨_, _, rfl⟩
      · exact ⟨_, _, rfl⟩
theorem cutT_pos (b : UInt8) (l : List UInt8) : 1 ≤ (cutT b l).length := by
  obtain ⟨x, r, h⟩ := cutT_ne b l
  rw [h]; simp
theorem cutT_hit (b : UInt8) (l : List UInt8) : cutT b (b :: l) = [] :: cutT b l := by simp [cutT]
theorem cutT_miss {b c : UInt8} (h : ¬ c = b) {l : List UInt8} {x : List UInt8} {r : List (List UInt8)} (e : cutT b l = x :: r) : cutT b (c :: l) = (c :: x) :: r := by simp [cutT, h, e]
theorem cutT_le (b : UInt8) (l : List UInt8) : (cutT b l).length ≤ l.length + 1 := by
  induction l with
  | nil => simp [cutT]
  | cons c l ih =>
    by_cases h : c = b
    · subst h; rw [cutT_hit]; simp; omega
    · obtain ⟨x, r, e⟩ := cutT_ne b l
      rw [cutT_miss h e]; rw [e] at ih; simp at ih ⊢; omega

theorem index_hit (b : UInt8) (l : List UInt8) : Lib.index (b :: l) [b] = 0 := by simp [Lib.index]
theorem index_miss {b c : UInt8} (h : ¬ c = b) (l : List UInt8) : Lib.index (c :: l) [b] = if Lib.index l [b] == -1 then -1 else Lib.index l [b] + 1 := by
  have h' : ¬ b = c := fun e => h e.symm
  simp [Lib.index, h']
theorem index_ge (b : UInt8) (l : List UInt8) : -1 ≤ Lib.index l [b] := by
  induction l with
  | nil => simp [Lib.index]
  | cons c l ih =>
    by_cases h : c = b
    · subst h; rw [index_hit]; decide
    · rw [index_miss h]; split <;> omega
theorem splitK_miss {b c : UInt8} (h : ¬ c = b) (l : List UInt8) (k : Nat) {x : List UInt8} {r : List (List UInt8)} (e : Lib.splitK [b] 0 k l = x :: r) : Lib.splitK [b] 0 k (c :: l) = (c :: x) :: r := by
  cases k with
  | zero => simp only [Lib.splitK] at e ⊢; injection e with e1 e2; subst e1 e2; rfl
  | succ k =>
    simp only [Lib.splitK, index_miss h] at e ⊢
    have hg := index_ge b l
    by_cases hi : Lib.index l [b] = -1
    · simp only [hi, beq_self_eq_true, if_true] at e ⊢
      injection e with e1 e2; subst e1 e2; rfl
    · have h1 : (Lib.index l [b] == -1) = false := by simpa using hi
      have h2 : (Lib.index l [b] + 1 == -1) = false := by simp; omega
      simp only [h1, h2, Bool.false_eq_true, if_false, Nat.add_zero, List.length_singleton] at e ⊢
      have ht : (Lib.index l [b] + 1).toNat = (Lib.index l [b]).toNat + 1 := by omega
      rw [ht, List.take_succ_cons, show (Lib.index l [b]).toNat + 1 + 1 = ((Lib.index l [b]).toNat + 1) + 1 from rfl, List.drop_succ_cons]
      injection e with e1 e2
      subst e1 e2
      rfl
theorem splitK_hit (b : UInt8) (l : List UInt8) (k : Nat) : Lib.splitK [b] 0 (k + 1) (b :: l) = [] :: Lib.splitK [b] 0 k l := by
  simp [Lib.splitK, index_hit]
theorem splitK_all (b : UInt8) (l : List UInt8) : ∀ k, (cutT b l).length ≤ k + 1 → Lib.splitK [b] 0 k l = cutT b l := by
  induction l with
  | nil =>
    intro k _
    cases k with
    | zero => rfl
    | succ k => simp [Lib.splitK, Lib.index, cutT]
  | cons c l ih =>
    intro k hk
    by_cases h : c = b
    · subst h
      rw [cutT_hit] at hk ⊢
      cases k with
      | zero => have := cutT_pos c l; rw [List.length_cons] at hk; omega
      | succ k => rw [splitK_hit, ih k (by simpa using hk)]
    · obtain ⟨x, r, e⟩ := cutT_ne b l
      rw [cutT_miss h e] at hk ⊢
      exact splitK_miss h l k ((ih k (by rw [e]; simpa using hk)).trans e)
theorem splitK_long (b : UInt8) (l : List UInt8) : ∀ k, k + 1 < (cutT b l).length → (Lib.splitK [b] 0 k l).length = k + 1 := by
  induction l with
  | nil => intro k hk; simp [cutT] at hk
  | cons c l ih =>
    intro k hk
    by_cases h : c = b
    · subst h
      rw [cutT_hit] at hk
      cases k with
      | zero => rfl
      | succ k => rw [splitK_hit, List.length_cons, ih k (by simpa using hk)]
    · obtain ⟨x, r, e⟩ := cutT_ne b l
      rw [cutT_miss h e] at hk
      have := ih k (by rw [e]; simpa using hk)
      cases hs : Lib.splitK [b] 0 k l with
      | nil => rw [hs] at this; simp at this
      | cons y s => rw [splitK_miss h l k hs]; rw [hs] at this; simpa using this

/-- The set that a line tells. -/
def upsK (line : List UInt8) (k : Nat) : Nat → Bool := fun j => decide (j < k) && decide (line[j]? = some 49)
def upsT (line : List UInt8) : Int := setN (upsK line line.length)
def signOk (b : UInt8) : Bool := b == 49 || b == 48
def lineOk (n : Nat) (line : List UInt8) : Bool := decide (line.length = n) && line.all signOk
theorem upsK_zero (line : List UInt8) : setN (upsK line 0) = 0 := by
  have : setN (upsK line 0) = setN (fun _ => false) := setN_congr fun x _ => by simp [upsK]
  rw [this]; decide +kernel
theorem upsK_one {line : List UInt8} {k : Nat} (hk : k < 6) (h : line[k]? = some 49) : bits BinOp.or IntKind.i64 (setN (upsK line k)) (wrap64 (2 ^ k)) = setN (upsK line (k + 1)) := by
  rw [setN_or _ k hk]
  refine setN_congr fun x _ => ?_
  simp only [upsK]
  by_cases e : x = k
  · subst e; simp [h]
  · have : (x < k + 1) = (x < k) := propext ⟨fun _ => by omega, fun _ => by omega⟩
    have e2 : (x == k) = false := by simpa using e
    simp [this, e2]
theorem upsK_nil {line : List UInt8} {k : Nat} (h : line[k]? = some 48) : setN (upsK line k) = setN (upsK line (k + 1)) := by
  refine setN_congr fun x _ => ?_
  simp only [upsK]
  by_cases e : x = k
  · subst e; simp [h]
  · have : (x < k + 1) = (x < k) := propext ⟨fun _ => by omega, fun _ => by omega⟩
    simp [this]
/-- The order that a text tells, or none. -/
def readT (l : List UInt8) : Option (List Int) :=
  if (cutT 47 l).length ≤ 6 ∧ ((cutT 47 l).all (lineOk (cutT 47 l).length)) = true ∧ ordS ((cutT 47 l).map upsT) = true then some ((cutT 47 l).map upsT) else none

theorem all_take_succ {p : UInt8 → Bool} {l : List UInt8} {k : Nat} {b : UInt8} (h : (l.take k).all p = true) (hb : l[k]? = some b) (hp : p b = true) : (l.take (k + 1)).all p = true := by
  rw [List.take_add_one, hb, List.all_append, h]; simp [hp]
theorem all_no {p : UInt8 → Bool} {l : List UInt8} {k : Nat} {b : UInt8} (hb : l[k]? = some b) (hp : p b = false) : l.all p = false := by
  rw [List.all_eq_false]; exact ⟨b, List.mem_of_getElem? hb, by simp [hp]⟩

theorem read_no1 {l : List UInt8} (h : 6 < (cutT 47 l).length) : readT l = none := by unfold readT; rw [if_neg (by omega)]
theorem read_no2 {l : List UInt8} {k : Nat} {x : List UInt8} (hx : (cutT 47 l)[k]? = some x) (h : lineOk (cutT 47 l).length x = false) : readT l = none := by
  unfold readT
  rw [if_neg]
  rintro ⟨_, h2, _⟩
  rw [List.all_eq_true.1 h2 x (List.mem_of_getElem? hx)] at h
  cases h

/-- An Order and whether there is one. -/
def OrdOut (w : World) (r : Option (List Int)) (e : Ending) (w' : World) : Prop := ∃ v, e = .returned (.tuple #[.agg #[v], .bool r.isSome]) ∧ OwnI w' w.heap.size 2 v (r.getD []) ∧ Below w.heap.size w w'

theorem read_len (l : List UInt8) : ((readT l).getD []).length ≤ 6 := by
  unfold readT
  split
  · rename_i h; simp; exact h.1
  · simp

end Go.Proofs.Ytkobngclcnfojaa
