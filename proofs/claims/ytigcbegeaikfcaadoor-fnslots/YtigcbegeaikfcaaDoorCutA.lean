/- A text cut at a sign: plain mathematics, and the model's l1Split. No conditions but those typed. -/
import Derived.Test.YtigcbegeaikfcaaDoorLowA
import Derived.Test.YtigcbegeaikfcaaDoorRows
import Derived.Test.YtigcbegeaikfcaaDoorLowT
import Derived.Test.YtigcbegeaikfcaaDoorWordsA
import Derived.Lib.Split
namespace Go.Proofs.YtigcbegeaikfcaaDoor
open Go.RowKit
set_option linter.unusedVariables false

/-- The pieces of a text between signs b. -/
def cutT (b : UInt8) : List UInt8 → List (List UInt8)
  | [] => [[]]
  | c :: l => if c = b then [] :: cutT b l else match cutT b l with
    | [] => [[c]]
    | x :: r => (c :: x) :: r
theorem cutT_ne (b : UInt8) (l : List UInt8) : ∃ x r, cutT b l = x :: r := by
  cases l with
  | nil => exact ⟨[], [], rfl⟩
  | cons c l =>
    unfold cutT
    split
    · exact ⟨_, _, rfl⟩
    · split
      · exact ⟨_, _, rfl⟩
      · exact ⟨_, _, rfl⟩
theorem cutT_pos (b : UInt8) (l : List UInt8) : 1 ≤ (cutT b l).length := by
  obtain ⟨x, r, h⟩ := cutT_ne b l
  rw [h]; simp
theorem cutT_hit (b : UInt8) (l : List UInt8) : cutT b (b :: l) = [] :: cutT b l := by simp [cutT]
theorem cutT_miss {b c : UInt8} (h : ¬ c = b) {l : List UInt8} {x : List UInt8} {r : List (List UInt8)} (e : cutT b l = x :: r) : cutT b (c :: l) = (c :: x) :: r := by simp [cutT, h, e]
theorem cutT_le (b : UInt8) (l : List UInt8) : (cutT b l).length ≤ l.length + 1 := by
  induction l with
  | nil => simp [cutT]
  | cons c l ih =>
    by_cases h : c = b
    · subst h; rw [cutT_hit]; simp; omega
    · obtain ⟨x, r, e⟩ := cutT_ne b l
      rw [cutT_miss h e]; rw [e] at ih; simp at ih ⊢; omega

theorem index_hit (b : UInt8) (l : List UInt8) : Lib.index (b :: l) [b] = 0 := by simp [Lib.index]
theorem index_miss {b c : UInt8} (h : ¬ c = b) (l : List UInt8) : Lib.index (c :: l) [b] = if Lib.index l [b] == -1 then -1 else Lib.index l [b] + 1 := by
  have h' : ¬ b = c := fun e => h e.symm
  simp [Lib.index, h']
theorem index_ge (b : UInt8) (l : List UInt8) : -1 ≤ Lib.index l [b] := by
  induction l with
  | nil => simp [Lib.index]
  | cons c l ih =>
    by_cases h : c = b
    · subst h; rw [index_hit]; decide
    · rw [index_miss h]; split <;> omega
theorem splitK_miss {b c : UInt8} (h : ¬ c = b) (l : List UInt8) (k : Nat) {x : List UInt8} {r : List (List UInt8)} (e : Lib.splitK [b] 0 k l = x :: r) : Lib.splitK [b] 0 k (c :: l) = (c :: x) :: r := by
  cases k with
  | zero => simp only [Lib.splitK] at e ⊢; injection e with e1 e2; subst e1 e2; rfl
  | succ k =>
    simp only [Lib.splitK, index_miss h] at e ⊢
    have hg := index_ge b l
    by_cases hi : Lib.index l [b] = -1
    · simp only [hi, beq_self_eq_true, if_true] at e ⊢
      injection e with e1 e2; subst e1 e2; rfl
    · have h1 : (Lib.index l [b] == -1) = false := by simpa using hi
      have h2 : (Lib.index l [b] + 1 == -1) = false := by simp; omega
      simp only [h1, h2, Bool.false_eq_true, if_false, Nat.add_zero, List.length_singleton] at e ⊢
      have ht : (Lib.index l [b] + 1).toNat = (Lib.index l [b]).toNat + 1 := by omega
      rw [ht, List.take_succ_cons, show (Lib.index l [b]).toNat + 1 + 1 = ((Lib.index l [b]).toNat + 1) + 1 from rfl, List.drop_succ_cons]
      injection e with e1 e2
      subst e1 e2
      rfl
theorem splitK_hit (b : UInt8) (l : List UInt8) (k : Nat) : Lib.splitK [b] 0 (k + 1) (b :: l) = [] :: Lib.splitK [b] 0 k l := by
  simp [Lib.splitK, index_hit]
theorem splitK_all (b : UInt8) (l : List UInt8) : ∀ k, (cutT b l).length ≤ k + 1 → Lib.splitK [b] 0 k l = cutT b l := by
  induction l with
  | nil =>
    intro k _
    cases k with
    | zero => rfl
    | succ k => simp [Lib.splitK, Lib.index, cutT]
  | cons c l ih =>
    intro k hk
    by_cases h : c = b
    · subst h
      rw [cutT_hit] at hk ⊢
      cases k with
      | zero => have := cutT_pos c l; rw [List.length_cons] at hk; omega
      | succ k => rw [splitK_hit, ih k (by simpa using hk)]
    · obtain ⟨x, r, e⟩ := cutT_ne b l
      rw [cutT_miss h e] at hk ⊢
      exact splitK_miss h l k ((ih k (by rw [e]; simpa using hk)).trans e)
theorem splitK_long (b : UInt8) (l : List UInt8) : ∀ k, k + 1 < (cutT b l).length → (Lib.splitK [b] 0 k l).length = k + 1 := by
  induction l with
  | nil => intro k hk; simp [cutT] at hk
  | cons c l ih =>
    intro k hk
    by_cases h : c = b
    · subst h
      rw [cutT_hit] at hk
      cases k with
      | zero => rfl
      | succ k => rw [splitK_hit, List.length_cons, ih k (by simpa using hk)]
    · obtain ⟨x, r, e⟩ := cutT_ne b l
      rw [cutT_miss h e] at hk
      have := ih k (by rw [e]; simpa using hk)
      cases hs : Lib.splitK [b] 0 k l with
      | nil => rw [hs] at this; simp at this
      | cons y s => rw [splitK_miss h l k hs]; rw [hs] at this; simpa using this

def glue (p : List UInt8) : List (List UInt8) → List (List UInt8)
  | [] => [p]
  | x :: r => (p ++ x) :: r
/-- Where the cutting stands ahead of place i: what is done, and where the piece at hand began. -/
def CutAt (b : UInt8) (l : List UInt8) (i f : Nat) (D : List (List UInt8)) : Prop := f ≤ i ∧ cutT b l = D ++ glue ((l.drop f).take (i - f)) (cutT b (l.drop i))
theorem cut_start (b : UInt8) (l : List UInt8) : CutAt b l 0 0 [] := by
  refine ⟨Nat.le_refl _, ?_⟩
  obtain ⟨x, r, e⟩ := cutT_ne b l
  simp [glue, e]
theorem cut_hit {b : UInt8} {l : List UInt8} {i f : Nat} {D : List (List UInt8)} (h : CutAt b l i f D) (hb : l[i]? = some b) : CutAt b l (i + 1) (i + 1) (D ++ [(l.drop f).take (i - f)]) := by
  refine ⟨Nat.le_refl _, ?_⟩
  have hd : l.drop i = b :: l.drop (i + 1) := by
    have := (List.getElem?_eq_some_iff.1 hb)
    rw [List.drop_eq_getElem_cons this.1, this.2]
  rw [h.2, hd, cutT_hit]
  obtain ⟨x, r, e⟩ := cutT_ne b (l.drop (i + 1))
  simp [glue, e]
theorem cut_miss {b c : UInt8} {l : List UInt8} {i f : Nat} {D : List (List UInt8)} (h : CutAt b l i f D) (hc : l[i]? = some c) (hne : ¬ c = b) : CutAt b l (i + 1) f D := by
  have hle := h.1
  refine ⟨by omega, ?_⟩
  have hq := List.getElem?_eq_some_iff.1 hc
  have hd : l.drop i = c :: l.drop (i + 1) := by rw [List.drop_eq_getElem_cons hq.1, hq.2]
  obtain ⟨x, r, e⟩ := cutT_ne b (l.drop (i + 1))
  rw [h.2, hd, cutT_miss hne e, e]
  have ht : (l.drop f).take (i + 1 - f) = (l.drop f).take (i - f) ++ [c] := by
    rw [show i + 1 - f = (i - f) + 1 from by omega, List.take_add_one, List.getElem?_drop, show f + (i - f) = i from by omega, hc]
    rfl
  simp [glue, ht]
theorem cut_end {b : UInt8} {l : List UInt8} {f : Nat} {D : List (List UInt8)} (h : CutAt b l l.length f D) : cutT b l = D ++ [(l.drop f).take (l.length - f)] := by
  rw [h.2, List.drop_length]
  simp [cutT, glue]
theorem cut_len {b : UInt8} {l : List UInt8} {i f : Nat} {D : List (List UInt8)} (h : CutAt b l i f D) : D.length ≤ l.length := by
  have h1 := cutT_le b l
  have h2 : 1 ≤ (glue ((l.drop f).take (i - f)) (cutT b (l.drop i))).length := by
    obtain ⟨x, r, e⟩ := cutT_ne b (l.drop i)
    rw [e]; simp [glue]
  rw [h.2, List.length_append] at h1
  omega

theorem Tryd.infoStr2 : (Tryd.prog.info? 9).map (fun i => (i.zero, i.size, i.bytes)) = some (some (.string ⟨#[]⟩), 1, 16) := by kernel_rfl
def RowOut (w : World) (ts : List (List UInt8)) (e : Ending) (w' : World) : Prop := ∃ v, e = .returned v ∧ OwnV w' w.heap.size 9 v (ts.map str) ∧ Below w.heap.size w w'

set_option maxHeartbeats 2000000 in
set_option maxRecDepth 100000 in
theorem l1Split_any (l : List UInt8) (hl : l.length ≤ 1048576) (b : UInt8) (w : World) : Calls Tryd.prog 28 #[str l, byte b] w (RowOut w (cutT b l)) := by
  obtain ⟨i0, hi, hz0, hz1, hz2⟩ := info_parts Tryd.infoStr2
  have HS := Lib.hid (cut_start b l)
  have o0 := OwnV.empty w w.heap.size 9 (Nat.le_refl _)
  have b0 : Below w.heap.size w (w.alloc (.cells #[] 9)) := (Below.refl _ _).alloc (Nat.le_refl _) _
  go_enter Tryd.func28, Tryd.ntmps28
  go_wp2_with fail
  go_loopw [5, 6, 7] (fun v f i wr => ∃ (k n : Nat) (D : List (List UInt8)), i = .int .i64 k ∧ f = .int .i64 n ∧ OwnV wr w.heap.size 9 v (D.map str) ∧ Below w.heap.size w wr ∧ ((k ≤ l.length ∧ n ≤ k ∧ CutAt b l k n D) ∨ (k = l.length + 1 ∧ D = cutT b l))) (fun _ _ i _ => l.length + 1 - (intOf i).toNat)
  case atStart => exact ⟨0, 0, [], rfl, rfl, o0, b0, .inl ⟨Nat.zero_le _, Nat.le_refl _, HS.out⟩⟩
  case round =>
    obtain ⟨k, n, D, rfl, rfl, ho, hb, hs⟩ := hrel
    clear o0 b0
    rcases hs with ⟨hk, hn, hcut⟩ | ⟨rfl, rfl⟩
    · have HC := Lib.hid hcut
      have hDl : (D.map str).length ≤ 1048576 := by rw [List.length_map]; have := cut_len hcut; omega
      clear hcut
      have HDl := Lib.hid hDl
      clear hDl
      by_cases hlt : k < l.length
      · have hc := List.getElem?_eq_getElem hlt
        generalize l[k] = c at hc
        have hix := idx_str (P := Tryd.prog) 9 l k c Tryd.underlying9 hc
        have hke : ((k : Int) == (l.length : Int)) = false := by simp; omega
        by_cases hcb : c = b
        · subst hcb
          have HN := Lib.hid (cut_hit HC.out hc)
          have hsl := sub_str (P := Tryd.prog) 9 l n k Tryd.underlying9 hn hk
          have hcc : ((c.toNat : Int) == (c.toNat : Int)) = true := by simp
          clear hc
          generalize hp : (l.drop n).take (k - n) = p at hsl HN
          clear hp
          generalize hxs : D.map str = xs at ho HDl
          have HXS := Lib.hid hxs
          clear hxs
          go_wp2_with (at_builtin; refine wpList_append_own _ rfl _ _ 47 rfl w.heap.size 9 i0 (.string ⟨#[]⟩) 1 16 Tryd.underlying47 hi hz0 hz1 hz2 rfl (by decide) _ _ _ rfl (ho.alloc _) ⟨wr.heap.size, 0, none⟩ 1 1 [str p] rfl rfl ?c1 ?c2 ?c3 ?c4 ?c5 ?_)
          case c1 =>
            intro j u hj
            match j, hj with
            | 0, hj => simp at hj; subst hj; simp [Addr.add]
          case c2 => intro u hu; simp at hu; subst hu; rfl
          case c3 => unfold maxLen; have := HDl.out; omega
          case c4 => have := HDl.out; omega
          case c5 => have := hb.size; simp; omega
          intro v' w4 hown' hgrow _
          obtain ⟨a1, a2⟩ := OwnV.push hb (Nat.le_refl _) ho hown' hgrow
          clear hown' hgrow ho hb hix hsl
          go_wp2
          go_roundw
          case rel => exact ⟨k + 1, k + 1, D ++ [p], by go_num, by go_num, by rw [List.map_append, HXS.out]; exact a1, a2, .inl ⟨by omega, Nat.le_refl _, HN.out⟩⟩
          case measure => simp [intOf]; omega
        · have HN := Lib.hid (cut_miss HC.out hc hcb)
          have hcc : ((c.toNat : Int) == (b.toNat : Int)) = false := u8_ne hcb rfl
          clear hc hcb
          go_wp2_with fail
          go_roundw
          case rel => exact ⟨k + 1, n, D, by go_num, rfl, ho, hb, .inl ⟨by omega, by omega, HN.out⟩⟩
          case measure => simp [intOf]; omega
      · obtain rfl : k = l.length := by omega
        have HN := Lib.hid (cut_end HC.out)
        have hsl := sub_str (P := Tryd.prog) 9 l n l.length Tryd.underlying9 hn hk
        have hke : ((l.length : Int) == (l.length : Int)) = true := by simp
        generalize hp : (l.drop n).take (l.length - n) = p at hsl HN
        clear hp
        generalize hxs : D.map str = xs at ho HDl
        have HXS := Lib.hid hxs
        clear hxs
        go_wp2_with (at_builtin; refine wpList_append_own _ rfl _ _ 47 rfl w.heap.size 9 i0 (.string ⟨#[]⟩) 1 16 Tryd.underlying47 hi hz0 hz1 hz2 rfl (by decide) _ _ _ rfl (ho.alloc _) ⟨wr.heap.size, 0, none⟩ 1 1 [str p] rfl rfl ?d1 ?d2 ?d3 ?d4 ?d5 ?_)
        case d1 =>
          intro j u hj
          match j, hj with
          | 0, hj => simp at hj; subst hj; simp [Addr.add]
        case d2 => intro u hu; simp at hu; subst hu; rfl
        case d3 => unfold maxLen; have := HDl.out; omega
        case d4 => have := HDl.out; omega
        case d5 => have := hb.size; simp; omega
        intro v' w4 hown' hgrow _
        obtain ⟨a1, a2⟩ := OwnV.push hb (Nat.le_refl _) ho hown' hgrow
        clear hown' hgrow ho hb hsl
        go_wp2
        go_roundw
        case rel => exact ⟨l.length + 1, l.length + 1, D ++ [p], by go_num, by go_num, by rw [List.map_append, HXS.out]; exact a1, a2, .inr ⟨rfl, HN.out.symm⟩⟩
        case measure => simp [intOf]
    · go_wp2_with fail
      go_ret
      exact ⟨_, rfl, ho, hb⟩

theorem pj_tail (sep x : List UInt8) (r : List (List UInt8)) : Lib.joinTail sep (x :: r) = sep ++ x ++ Lib.joinTail sep r := by simp [Lib.joinTail]
theorem pj_app {b : UInt8} {y h : List UInt8} {t : List (List UInt8)} (hy : cutT b y = h :: t) : ∀ x : List UInt8, b ∉ x → cutT b (x ++ y) = (x ++ h) :: t
  | [], _ => hy
  | c :: x, hx => by
    rw [List.mem_cons, not_or] at hx
    exact cutT_miss (fun e => hx.1 e.symm) (pj_app hy x hx.2)
theorem pj_cut {b : UInt8} : ∀ (r : List (List UInt8)) (x : List UInt8), (∀ y ∈ x :: r, b ∉ y) → cutT b (Lib.join (x :: r) [b]) = x :: r
  | [], x, h => by
    rw [Lib.join_one]
    have := pj_app (b := b) (y := []) (h := []) (t := []) rfl x (h x (List.mem_cons_self ..))
    simpa using this
  | z :: r, x, h => by
    rw [Lib.join_cons, pj_tail]
    have ih := pj_cut r z (fun y hy => h y (List.mem_cons_of_mem _ hy))
    rw [Lib.join_cons] at ih
    have := pj_app (b := b) (y := b :: (z ++ Lib.joinTail [b] r)) (h := []) (t := z :: r) (by rw [cutT_hit, ih]) x (h x (List.mem_cons_self ..))
    simpa using this
theorem pj_join (b : UInt8) (t : List UInt8) : Lib.join (cutT b t) [b] = t := by
  induction t with
  | nil => rfl
  | cons c l ih =>
    obtain ⟨x, r, e⟩ := cutT_ne b l
    rw [e, Lib.join_cons] at ih
    by_cases h : c = b
    · subst h
      rw [cutT_hit, e, Lib.join_cons, pj_tail, ← ih]
      simp
    · rw [cutT_miss h e, Lib.join_cons, List.cons_append, ih]

end Go.Proofs.YtigcbegeaikfcaaDoor
