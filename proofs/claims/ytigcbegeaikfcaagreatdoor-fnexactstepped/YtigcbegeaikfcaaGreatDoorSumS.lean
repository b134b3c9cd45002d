/- Layer 6 (sums): the program's shapeOf and SumEnd. Condition: the listed variables hold what the program's text lays (Vars). Layer 6 (sums): the program's SumEnd and sumAt; MayFail of both. Condition: the listed variables hold what the program's text lays (Vars). Layer 6 (sums): MayFail, of the program and of the model. Condition for the program's: the listed variables hold what the program's text lays (Vars). Layer 6 (sums): names put in order, each once: by putting one after the other, and by sorting and taking doubles out. No program is named here. -/
import Derived.Test.YtigcbegeaikfcaaGreatDoorLowB
import Derived.Test.YtigcbegeaikfcaaGreatDoorOpR
import Derived.Test.YtigcbegeaikfcaaGreatDoorWordP
import Derived.Lib.SlicesCompact
import Derived.Lib.SlicesS
import Derived.Lib.RowBridge
namespace Go.Proofs.YtigcbegeaikfcaaGreatDoor
open Go.RowKit
set_option linter.unusedVariables false

end Go.Proofs.YtigcbegeaikfcaaGreatDoor

namespace Go.Proofs.YtigcbegeaikfcaaGreatDoor
open Go.RowKit
set_option linter.unusedVariables false

theorem leaf_of_name {s : List UInt8} (h : nameB s = true) : leafB s = true := by unfold leafB; rw [h, Bool.or_true]

/-- The signs of the sum there; none when there is none. -/
def signsS (ss : List (List UInt8)) (a : Int) : List (List UInt8) := if 0 ≤ sumEndS ss a then (ss.drop a.toNat).take (sumEndS ss a - a).toNat else []
theorem signs_no {ss : List (List UInt8)} {a : Int} (h : sumEndS ss a < 0) : signsS ss a = [] := by unfold signsS; rw [if_neg (by omega)]
theorem signs_tree {ss : List (List UInt8)} {k : Nat} {t : Sum} (h : SumAt ss k t) : signsS ss (k : Int) = t.flat := by
  have he := sum_end h
  obtain ⟨h1, rest, h2⟩ := h
  unfold signsS
  rw [he, if_pos (by omega), Int.toNat_natCast, h2, show (((k + t.flat.length : Nat) : Int) - (k : Int)).toNat = t.flat.length by omega, List.take_left' rfl]
theorem signs_short {ss : List (List UInt8)} {a : Int} (h : shortS ss) : shortS (signsS ss a) := by
  unfold signsS
  split
  · exact fun s hs => h s (List.mem_of_mem_drop (List.mem_of_mem_take hs))
  · intro s hs; simp at hs
/-- A part of a row that is read. -/
theorem SeeV.part {w : World} {B g o n c : Nat} {xs : List Value} (h : SeeV w B (.slice (some ⟨g, o, none⟩) n c) xs) (a m : Nat) (hm : a + m ≤ xs.length) : SeeV w B (.slice (some ⟨g, o + a, none⟩) m (c - a)) ((xs.drop a).take m) := by
  obtain ⟨h0, A, c', he, hc, h1⟩ := h
  injection he with e1 e2 e3
  subst e3
  have hl : ((xs.drop a).take m).length = m := by simp; omega
  refine ⟨by omega, some ⟨g, o + a, none⟩, c - a, by rw [hl], by rw [hl]; omega, fun k x hx => ?_⟩
  have hk : k < m := by have := (List.getElem?_eq_some_iff.1 hx).1; omega
  rw [List.getElem?_take, if_pos hk, List.getElem?_drop] at hx
  obtain ⟨g', o', e, hg, hcell⟩ := h1 _ x hx
  rw [← e1] at e
  injection e with e
  injection e with e4 e5
  subst e4 e5
  exact ⟨g, o + a, rfl, hg, by rw [show o + a + k = o + (a + k) by omega]; exact hcell⟩

end Go.Proofs.YtigcbegeaikfcaaGreatDoor

namespace Go.Proofs.YtigcbegeaikfcaaGreatDoor
open Go.RowKit
set_option linter.unusedVariables false

def mayB (ss : List (List UInt8)) (a : Int) : Bool := decide ([47] ∈ signsS ss a)
theorem may_no {ss : List (List UInt8)} {a : Int} (h : sumEndS ss a < 0) : mayB ss a = false := by unfold mayB; rw [signs_no h]; rfl
theorem sign_at {ss : List (List UInt8)} {k p : Nat} {t : Sum} (h : SumAt ss k t) (hp : p < t.flat.length) : ss[k + p]? = t.flat[p]? := by
  obtain ⟨h1, rest, h2⟩ := h
  rw [← List.getElem?_drop, h2, List.getElem?_append_left hp]
theorem mem_take_no {α : Type} {l : List α} {p : Nat} {x y : α} (h : ¬ y ∈ l.take p) (hx : l[p]? = some x) (hn : ¬ x = y) : ¬ y ∈ l.take (p + 1) := by
  rw [List.take_add_one, hx, List.mem_append]
  rintro (q | q)
  · exact h q
  · have : y = x := by simpa using q
    exact hn this.symm

theorem contains_strs (l : List (List UInt8)) (s : List UInt8) : Lib.containsS (l.map fun x => (⟨x.toArray⟩ : ByteArray)) ⟨s.toArray⟩ = decide (s ∈ l) := by
  cases h : Lib.containsS (l.map fun x => (⟨x.toArray⟩ : ByteArray)) ⟨s.toArray⟩
  · symm
    rw [decide_eq_false_iff_not]
    intro hm
    have := (Lib.containsS_iff (l.map fun x => (⟨x.toArray⟩ : ByteArray)) ⟨s.toArray⟩).2 (List.mem_map_of_mem hm)
    rw [h] at this
    cases this
  · symm
    rw [decide_eq_true_eq]
    obtain ⟨x, hx, e⟩ := List.mem_map.1 ((Lib.containsS_iff _ _).1 h)
    injection e with e
    have : x = s := by simpa using e
    rwa [← this]

end Go.Proofs.YtigcbegeaikfcaaGreatDoor

namespace Go.Proofs.YtigcbegeaikfcaaGreatDoor
open Go.RowKit
set_option linter.unusedVariables false

theorem tx_trans {a b c : Txt} (h : a < b) (k : b < c) : a < c := List.lt_trans h k
theorem tx_irr (a : Txt) : ¬ a < a := List.lt_irrefl a
theorem tx_tri (a b : Txt) : a < b ∨ a = b ∨ b < a := by
  by_cases h : a < b
  · exact .inl h
  · by_cases k : b < a
    · exact .inr (.inr k)
    · exact .inr (.inl (List.le_antisymm (by exact k) (by exact h)))

/-- A name more, where it belongs, once. -/
def putS : List Txt → Txt → List Txt
  | [], s => [s]
  | x :: r, s => if x < s then x :: putS r s else if x = s then x :: r else s :: x :: r
theorem put_mem {xs : List Txt} {s y : Txt} : y ∈ putS xs s ↔ y = s ∨ y ∈ xs := by
  induction xs with
  | nil => simp [putS]
  | cons x r ih =>
    rw [putS]
    by_cases h : x < s
    · rw [if_pos h, List.mem_cons, ih, List.mem_cons]
      constructor
      · rintro (h | h | h)
        · exact .inr (.inl h)
        · exact .inl h
        · exact .inr (.inr h)
      · rintro (h | h | h)
        · exact .inr (.inl h)
        · exact .inl h
        · exact .inr (.inr h)
    · rw [if_neg h]
      by_cases k : x = s
      · rw [if_pos k, List.mem_cons, k]
        constructor
        · exact fun q => .inr q
        · rintro (q | q)
          · exact .inl q
          · exact q
      · rw [if_neg k, List.mem_cons]
theorem put_up {xs : List Txt} {s : Txt} (h : xs.Pairwise (· < ·)) : (putS xs s).Pairwise (· < ·) := by
  induction xs with
  | nil => simp [putS]
  | cons x r ih =>
    rw [putS]
    obtain ⟨h1, h2⟩ := List.pairwise_cons.1 h
    by_cases hx : x < s
    · rw [if_pos hx]
      refine List.pairwise_cons.2 ⟨fun y hy => ?_, ih h2⟩
      rcases put_mem.1 hy with rfl | hy
      · exact hx
      · exact h1 y hy
    · rw [if_neg hx]
      by_cases k : x = s
      · rw [if_pos k]; exact h
      · rw [if_neg k]
        have hsx : s < x := by rcases tx_tri s x with q | q | q <;> first | exact q | exact absurd q.symm k | exact absurd q hx
        refine List.pairwise_cons.2 ⟨fun y hy => ?_, h⟩
        rcases List.mem_cons.1 hy with rfl | hy
        · exact hsx
        · exact tx_trans hsx (h1 y hy)
def putAll (xs : List Txt) : List Txt := xs.foldl putS []
theorem putAll_mem : ∀ (xs acc : List Txt) (y : Txt), y ∈ xs.foldl putS acc ↔ y ∈ acc ∨ y ∈ xs
  | [], acc, y => by simp
  | x :: r, acc, y => by
    rw [List.foldl_cons, putAll_mem r, put_mem, List.mem_cons]
    constructor
    · rintro ((h | h) | h)
      · exact .inr (.inl h)
      · exact .inl h
      · exact .inr (.inr h)
    · rintro (h | h | h)
      · exact .inl (.inr h)
      · exact .inl (.inl h)
      · exact .inr h
theorem putAll_up : ∀ (xs acc : List Txt), acc.Pairwise (· < ·) → (xs.foldl putS acc).Pairwise (· < ·)
  | [], acc, h => h
  | x :: r, acc, h => putAll_up r _ (put_up h)
theorem up_eq : ∀ {xs ys : List Txt}, xs.Pairwise (· < ·) → ys.Pairwise (· < ·) → (∀ s, s ∈ xs ↔ s ∈ ys) → xs = ys
  | [], [], _, _, _ => rfl
  | [], y :: ys, _, _, h => absurd ((h y).2 (by simp)) (by simp)
  | x :: xs, [], _, _, h => absurd ((h x).1 (by simp)) (by simp)
  | x :: xs, y :: ys, hx, hy, h => by
    obtain ⟨x1, x2⟩ := List.pairwise_cons.1 hx
    obtain ⟨y1, y2⟩ := List.pairwise_cons.1 hy
    have e : x = y := by
      rcases List.mem_cons.1 ((h x).1 (by simp)) with q | q
      · exact q
      · rcases List.mem_cons.1 ((h y).2 (by simp)) with p | p
        · exact p.symm
        · exact absurd (tx_trans (y1 x q) (x1 y p)) (tx_irr y)
    subst e
    congr 1
    refine up_eq x2 y2 fun s => ⟨fun q => ?_, fun q => ?_⟩
    · rcases List.mem_cons.1 ((h s).1 (List.mem_cons_of_mem _ q)) with rfl | p
      · exact absurd (x1 s q) (tx_irr s)
      · exact p
    · rcases List.mem_cons.1 ((h s).2 (List.mem_cons_of_mem _ q)) with rfl | p
      · exact absurd (y1 s q) (tx_irr s)
      · exact p
theorem comp_up (d : Array Txt) : ∀ m, m ≤ d.size → (∀ i j, i < j → j < m → ¬ d[j]! < d[i]!) → (Lib.compactUpTo d m).Pairwise (· < ·) ∧ ∀ s, s ∈ Lib.compactUpTo d m ↔ ∃ j, j < m ∧ d[j]! = s
  | 0, _, _ => ⟨by simp [Lib.compactUpTo], fun s => by simp [Lib.compactUpTo]⟩
  | m + 1, hm, h => by
    obtain ⟨h1, h2⟩ := comp_up d m (by omega) (fun i j hi hj => h i j hi (by omega))
    rw [Lib.compactUpTo_succ]
    cases hk : Lib.keeps d m
    · have hk' : ¬ (m = 0 ∨ d[m]! ≠ d[m - 1]!) := by simpa [Lib.keeps] using hk
      have hm0 : m ≠ 0 := fun e => hk' (.inl e)
      have he : d[m]! = d[m - 1]! := Classical.byContradiction fun q => hk' (.inr q)
      rw [if_neg (by simp), List.append_nil]
      refine ⟨h1, fun s => (h2 s).trans ⟨fun ⟨j, a, b⟩ => ⟨j, by omega, b⟩, fun ⟨j, a, b⟩ => ?_⟩⟩
      by_cases q : j = m
      · subst q; exact ⟨j - 1, by omega, by rw [← he]; exact b⟩
      · exact ⟨j, by omega, b⟩
    · have hk' : m = 0 ∨ d[m]! ≠ d[m - 1]! := by simpa [Lib.keeps] using hk
      rw [if_pos rfl]
      refine ⟨List.pairwise_append.2 ⟨h1, by simp, fun a ha b hb => ?_⟩, fun s => ?_⟩
      · have hb' : b = d[m]! := by simpa using hb
        obtain ⟨j, hj, rfl⟩ := (h2 a).1 ha
        subst hb'
        have hm0 : m ≠ 0 := by omega
        have hne : d[m]! ≠ d[m - 1]! := hk'.resolve_left hm0
        have hlt : d[m - 1]! < d[m]! := by
          rcases tx_tri d[m - 1]! d[m]! with q | q | q
          · exact q
          · exact absurd q.symm hne
          · exact absurd q (h (m - 1) m (by omega) (by omega))
        by_cases q : j = m - 1
        · rw [q]; exact hlt
        · rcases tx_tri d[j]! d[m - 1]! with p | p | p
          · exact tx_trans p hlt
          · rw [p]; exact hlt
          · exact absurd p (h j (m - 1) (by omega) (by omega))
      · rw [List.mem_append, h2]
        constructor
        · rintro (⟨j, a, b⟩ | a)
          · exact ⟨j, by omega, b⟩
          · have : s = d[m]! := by simpa using a
            exact ⟨m, by omega, this.symm⟩
        · rintro ⟨j, a, b⟩
          by_cases q : j = m
          · subst q; exact .inr (by simp [b])
          · exact .inl ⟨j, by omega, b⟩
theorem sort_put (xs : List Txt) : Lib.compact (xs.mergeSort fun x y => decide (x ≤ y)) = putAll xs := by
  have hs : (xs.mergeSort fun x y => decide (x ≤ y)).Pairwise (fun a b => decide (a ≤ b) = true) := List.pairwise_mergeSort (fun a b c h k => by
      simp only [decide_eq_true_eq] at *
      exact List.le_trans h k) (fun a b => by
      simp only [Bool.or_eq_true, decide_eq_true_eq]
      exact List.le_total a b) xs
  have hp := List.mergeSort_perm xs (fun x y => decide (x ≤ y))
  generalize xs.mergeSort (fun x y => decide (x ≤ y)) = ys at hs hp
  have hd : ∀ j, j < ys.length → ys.toArray[j]! = ys.getD j [] := fun j hj => by simp [hj]
  obtain ⟨h1, h2⟩ := comp_up ys.toArray ys.length (by simp) (fun i j hi hj => by
    have := List.pairwise_iff_getElem.1 hs i j (by omega) hj hi
    simp only [decide_eq_true_eq] at this
    have e1 : ys.toArray[j]! = ys[j] := by simp [hj]
    have e2 : ys.toArray[i]! = ys[i] := by simp [show i < ys.length by omega]
    rw [e1, e2]
    exact this)
  refine up_eq h1 (putAll_up xs [] List.Pairwise.nil) fun s => ?_
  unfold putAll
  rw [putAll_mem]
  unfold Lib.compact
  rw [h2]
  constructor
  · rintro ⟨j, hj, e⟩
    have e1 : ys.toArray[j]! = ys[j] := by simp [hj]
    rw [e1] at e
    exact .inr (hp.mem_iff.1 (by rw [← e]; exact List.getElem_mem hj))
  · rintro (h | h)
    · cases h
    · obtain ⟨j, hj, e⟩ := List.getElem_of_mem (hp.mem_iff.2 h)
      exact ⟨j, hj, by simp [hj, e]⟩
/-- The names of the sum there. -/
def namesS (ss : List Txt) (a : Int) : List Txt := putAll ((signsS ss a).filter nameB)
theorem put_len (xs : List Txt) (s : Txt) : (putS xs s).length ≤ xs.length + 1 := by
  induction xs with
  | nil => simp [putS]
  | cons x r ih =>
    rw [putS]
    repeat' split
    all_goals simp <;> omega
theorem putAll_len : ∀ (xs acc : List Txt), (xs.foldl putS acc).length ≤ acc.length + xs.length
  | [], acc => by simp
  | x :: r, acc => by
    have h1 := putAll_len r (putS acc x)
    have h2 := put_len acc x
    rw [List.foldl_cons, List.length_cons]
    omega
/-- Where it is put. -/
theorem put_at : ∀ {xs : List Txt} {s : Txt} {k : Nat}, k ≤ xs.length → (∀ j, j < k → ∃ x, xs[j]? = some x ∧ x < s) → (∀ y, xs[k]? = some y → ¬ y < s ∧ ¬ y = s) → putS xs s = xs.take k ++ s :: xs.drop k
  | [], s, k, hk, h1, h2 => by
    have : k = 0 := by simpa using hk
    subst this
    rfl
  | x :: r, s, 0, hk, h1, h2 => by
    obtain ⟨a, b⟩ := h2 x rfl
    rw [putS, if_neg a, if_neg b]; rfl
  | x :: r, s, k + 1, hk, h1, h2 => by
    obtain ⟨y, hy, hlt⟩ := h1 0 (by omega)
    have : y = x := by simpa using hy.symm
    subst this
    rw [putS, if_pos hlt, put_at (k := k) (by simpa using hk) (fun j hj => h1 (j + 1) (by omega)) (fun y hy => h2 y (by simpa using hy))]
    rfl
theorem put_there : ∀ {xs : List Txt} {s : Txt} {k : Nat}, (∀ j, j < k → ∃ x, xs[j]? = some x ∧ x < s) → xs[k]? = some s → putS xs s = xs
  | x :: r, s, 0, h1, h2 => by
    have : x = s := by simpa using h2
    rw [putS, if_neg (by rw [this]; exact tx_irr s), if_pos this]
  | x :: r, s, k + 1, h1, h2 => by
    obtain ⟨y, hy, hlt⟩ := h1 0 (by omega)
    have : y = x := by simpa using hy.symm
    subst this
    rw [putS, if_pos hlt, put_there (k := k) (fun j hj => h1 (j + 1) (by omega)) (by simpa using h2)]
  | [], s, k, h1, h2 => by simp at h2

end Go.Proofs.YtigcbegeaikfcaaGreatDoor
