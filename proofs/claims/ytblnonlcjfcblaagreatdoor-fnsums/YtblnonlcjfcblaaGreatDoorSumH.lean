/- Layer 6 (sums): what the program's reckoned keeps from round to round: the pile in its box. No conditions but those typed. -/
import Derived.Test.YtblnonlcjfcblaaGreatDoorSumG
import Derived.Test.YtblnonlcjfcblaaGreatDoorSumC
import Derived.Test.YtblnonlcjfcblaaGreatDoorSumF
import Derived.Maps.AppendAt
namespace Go.Proofs.YtblnonlcjfcblaaGreatDoor
open Go.RowKit
set_option linter.unusedVariables false

theorem flat_ok : ∀ (t : Sum), t.ok → ∀ s ∈ t.flat, opN s = 0 → leafB s = true
  | .leaf s, h, x, hx, _ => by
    have : x = s := by simpa [Sum.flat] using hx
    rw [this]; exact h.2
  | .op s a b, h, x, hx, ho => by
    rcases List.mem_cons.1 hx with rfl | hx
    · exact absurd ho h.1
    · rcases List.mem_append.1 hx with hx | hx
      · exact flat_ok a h.2.1 x hx ho
      · exact flat_ok b h.2.2 x hx ho
/-- The k-th sign from the end. -/
theorem rev_at {ts : List (List UInt8)} {k : Nat} {x : List UInt8} (hk : k < ts.length) (hx : ts[ts.length - 1 - k]? = some x) : ts.reverse.drop k = x :: ts.reverse.drop (k + 1) ∧ ts.reverse.take (k + 1) = ts.reverse.take k ++ [x] := by
  have h : ts.reverse[k]? = some x := by rw [List.getElem?_reverse hk]; exact hx
  obtain ⟨hk', hg⟩ := List.getElem?_eq_some_iff.1 h
  exact ⟨by rw [List.drop_eq_getElem_cons hk', hg], by rw [List.take_add_one, h]; rfl⟩
theorem run_leaf {bs : List Bx} {ts : List (List UInt8)} {k : Nat} {x : List UInt8} {p : List Int} (hk : k < ts.length) (hx : ts[ts.length - 1 - k]? = some x) (h : runR bs (ts.reverse.take k) [] = some p) (ho : opN x = 0) :
    runR bs (ts.reverse.take (k + 1)) [] = some (leafV bs x :: p) := by
  rw [(rev_at hk hx).2, runR_app, h]
  exact runR_leaf bs ho p
theorem run_op {bs : List Bx} {ts : List (List UInt8)} {k : Nat} {x : List UInt8} {a b : Int} {q : List Int} (hk : k < ts.length) (hx : ts[ts.length - 1 - k]? = some x) (h : runR bs (ts.reverse.take k) [] = some (a :: b :: q)) (ho : ¬ opN x = 0) (hd : (didS (opN x) a b).2 = true) :
    runR bs (ts.reverse.take (k + 1)) [] = some ((didS (opN x) a b).1 :: q) := by
  rw [(rev_at hk hx).2, runR_app, h]
  exact (runR_op bs ho _).trans (by rw [opR_two, if_pos hd])
theorem run_stop {bs : List Bx} {t : Sum} {k : Nat} {x : List UInt8} {a b : Int} {q : List Int} (ht : t.ok) (hk : k < t.flat.length) (hx : t.flat[t.flat.length - 1 - k]? = some x) (h : runR bs (t.flat.reverse.take k) [] = some (a :: b :: q)) (ho : ¬ opN x = 0) (hd : (didS (opN x) a b).2 = false) :
    evalT bs t = none := by
  have h1 := runR_tree bs t [] ht
  rw [← List.take_append_drop k t.flat.reverse, runR_app, h, (rev_at hk hx).1] at h1
  have h2 : runR bs (x :: t.flat.reverse.drop (k + 1)) (a :: b :: q) = none := by
    rw [runR, if_neg ho, opR_two, if_neg (by rw [hd]; simp)]; rfl
  rw [Option.bind_some, h2] at h1
  cases he : evalT bs t with
  | none => rfl
  | some v => rw [he] at h1; cases h1
theorem run_two {bs : List Bx} {t : Sum} {k : Nat} {x : List UInt8} {p : List Int} (ht : t.ok) (hk : k < t.flat.length) (hx : t.flat[t.flat.length - 1 - k]? = some x) (h : runR bs (t.flat.reverse.take k) [] = some p) (ho : ¬ opN x = 0) :
    ∃ a b q, p = a :: b :: q := by
  have h1 := highR_tree t 0 ht
  have h3 := run_high bs _ _ _ h
  rw [← List.take_append_drop k t.flat.reverse, highR_app, show (0 : Nat) = ([] : List Int).length from rfl, h3, Option.bind_some, (rev_at hk hx).1, highR, if_neg ho] at h1
  match p, h1 with
  | a :: b :: q, _ => exact ⟨a, b, q, rfl⟩
  | [_], h1 => simp at h1
  | [], h1 => simp at h1
theorem run_end {bs : List Bx} {t : Sum} {p : List Int} (ht : t.ok) (h : runR bs (t.flat.reverse.take t.flat.length) [] = some p) : ∃ v, evalT bs t = some v ∧ p = [v] := by
  rw [List.take_of_length_le (by simp), runR_tree bs t [] ht] at h
  cases he : evalT bs t with
  | none => rw [he] at h; cases h
  | some v => rw [he] at h; injection h with h; exact ⟨v, rfl, h.symm⟩

theorem keeps_of_below {B : Nat} {W W' : World} (h : Below W.heap.size W W') : KeepsFrom B W W' :=
  ⟨h.size, fun k o _ hk _ => (h.block k (Array.getElem?_eq_some_iff.1 hk).1).trans hk⟩
theorem Boxed.later {W W' : World} {b : Nat} {t : TypeId} {v : Value} (h : Boxed W b t v) (hb : Below W.heap.size W W') : Boxed W' b t v := (hb.block b h.lt).trans h

/-- An append at a step of a drawn region, inside a fence. -/
theorem stepIn_append {F : Fence} {n : Nat} {P : Program} (w : World) {ops : Array Oper} {o : Oper} {a : Act} {K : Act → World → Prop} {Q : Exit → Act → World → Prop} {E : Prop}
    (hg : o.guard = none) (s x : Operand) (t : TypeId) (hop : o.op = Op.call { callee := Callee.builtin Builtin.append, args := #[s, x], argTypes := #[t, t] })
    (base : Nat) (e : TypeId) (i : TypeInfo) (z : Value) (size bytes : Nat) (h1 : P.underlying t = some (.slice e)) (h2 : P.info? e = some i) (h3 : i.zero = some z) (h4 : i.size = size) (h5 : i.bytes = bytes) (h6 : z.cells.size = size) (h7 : 0 < size)
    (v : Value) (k : Nat) (xs : List Value) (hs : a.eval s = v) (hown : w.ownsRow base e size v k xs) (ad : Addr) (m c : Nat) (news : List Value) (hx : a.eval x = .slice (some ad) m c) (hn : news.length = m * size)
    (hc : ∀ j u, news[j]? = some u → w.cell? (ad.add j) = some u) (h1c : ∀ u ∈ news, u.oneCell' = true) (b1 : k + m ≤ maxLen) (b2 : (k + m) * bytes ≤ 140737488355328) (b3 : base ≤ w.heap.size)
    (hK : ∀ v' w', w'.ownsRow base e size v' (k + m) (xs ++ news) → w.grownBy w' v.ownBlock → K (a.put o.dst v') w') :
    if Region.wanted o (yielded ops a.tmps) = true then Oper.wpIn F n P o a w K Q else E := by
  have hw : Region.wanted o (yielded ops a.tmps) = true := by simp [Region.wanted, hg]
  rw [if_pos hw]
  obtain ⟨v', w', hrun, r1, r2, r3⟩ := run_append_own (P := P) w base t o.type e i z size bytes h1 h2 h3 h4 h5 h6 h7 v k xs hown ad m c news hn hc h1c b1 b2 b3
  unfold Oper.wpIn
  refine ⟨?_, ?_⟩
  · simp [Oper.about, hop, resolve, Target.leads, Sem.run_pure]
  · rw [Oper.semAt_plain F _ _ (by rw [hop]; intro c hc'; cases hc')]
    simp [execOp, hop, resolve, invoke, builtin, hs, hx, hrun, Result.andThen]
    exact hK v' w' r1 r2

/-- The pile p lies in its box; the boxes and the two results in theirs. -/
structure Pile (n : Nat) (w : World) (u : Value) (p : List Int) (v : Value) (W : World) : Prop where
  box : Boxed W (n + 1 + 1 + 1 + 1) 31 v
  row : W.ownsRow (n + 1 + 1 + 1) 2 1 v p.length (p.reverse.map (Value.int .i64))
  bxs : Boxed W n 44 u
  res : Boxed W (n + 1) 2 (.int .i64 0)
  yes : Boxed W (n + 1 + 1) 4 (.bool false)
  old : Below n w W

theorem Pile.own {n : Nat} {w : World} {u : Value} {p : List Int} {v : Value} {W : World} (h : Pile n w u p v W) : OwnV W (n + 1 + 1 + 1) 2 v (p.reverse.map (Value.int .i64)) := by
  have := h.row
  unfold OwnV
  rwa [List.length_map, List.length_reverse]
theorem Pile.at_ {n : Nat} {w : World} {u : Value} {p : List Int} {g m c : Nat} {W : World} (h : Pile n w u p (.slice (some ⟨g, 0, none⟩) m c) W) {k : Nat} {z : Int} (hz : p.reverse[k]? = some z) : W.cell? ⟨g, k, none⟩ = some (.int .i64 z) := by
  obtain ⟨g', o', e, -, hc⟩ := h.own.see.at_ (k := k) (x := .int .i64 z) (by rw [List.getElem?_map, hz]; rfl)
  cases e
  rwa [Nat.zero_add] at hc
theorem Pile.later {n : Nat} {w : World} {u : Value} {p : List Int} {v : Value} {W W' : World} (h : Pile n w u p v W) (hn : n ≤ w.heap.size) (hb : Below W.heap.size W W') : Pile n w u p v W' := by
  refine ⟨Boxed.later h.box hb, ?_, Boxed.later h.bxs hb, Boxed.later h.res hb, Boxed.later h.yes hb, h.old.trans (hb.mono (Nat.le_trans hn h.old.size))⟩
  obtain ⟨hl, hr⟩ := h.row
  rcases hr with hr | ⟨g, cap, cur, h1, h2, h3, h4⟩
  · exact ⟨hl, .inl hr⟩
  · exact ⟨hl, .inr ⟨g, cap, cur, h1, h2, (hb.block g (Array.getElem?_eq_some_iff.1 h3).1).trans h3, h4⟩⟩
theorem boxed_no {X Y : World} {row : Option Nat} {b : Nat} {t : TypeId} {v : Value} (h : Boxed X b t v) (hg : X.grownBy Y row) (hrow : ∀ r, row = some r → ∃ o : Obj, X.heap[r]? = some o ∧ o.isCells = false) : Boxed Y b t v :=
  h.kept hg (fun e' => by
    obtain ⟨o, ho, hc⟩ := hrow b e'.symm
    rw [show X.heap[b]? = _ from h] at ho; cases ho; cases hc)
theorem Pile.kept {n : Nat} {w : World} {u : Value} {p : List Int} {v : Value} {W W' : World} {row : Option Nat} (h : Pile n w u p v W) (hn : n ≤ w.heap.size) (hg : W.grownBy W' row) (hrow : ∀ r, row = some r → n ≤ r ∧ ∃ o : Obj, W.heap[r]? = some o ∧ o.isCells = false) : Pile n w u p v W' := by
  have hr := fun r e => (hrow r e).2
  refine ⟨boxed_no h.box hg hr, h.row.kept hg ?_, boxed_no h.bxs hg hr, boxed_no h.res hg hr, boxed_no h.yes hg hr, h.old.grown hg (Nat.le_trans hn h.old.size) (fun j e => (hrow j e).1)⟩
  rcases h.row.2 with ⟨e, _⟩ | ⟨g, cap, cur, e, _, hgb, _⟩
  · exact .inl (by rw [e]; rfl)
  · refine .inr fun e' => ?_
    rw [e] at e'
    obtain ⟨o, ho, hc⟩ := hr g (by simpa [Value.ownBlock] using e'.symm)
    rw [hgb] at ho; cases ho; cases hc
/-- Behind 'pile = append(pile[:j], x)': the append's two words, then the store. -/
theorem Pile.push {n : Nat} {w : World} {u : Value} {p p' : List Int} {v v' : Value} {W w1 : World} {o : Obj} (h : Pile n w u p v W) (hn : n ≤ w.heap.size) {x : Value} (hs : Boxed W (n + 1 + 1 + 1 + 1 + 1) 22 x)
    (hown : w1.ownsRow (n + 1 + 1 + 1) 2 1 v' p'.length (p'.reverse.map (Value.int .i64))) (hgrow : (W.alloc o).grownBy w1 v.ownBlock) :
    Boxed w1 (n + 1 + 1 + 1 + 1) 31 v ∧ Pile n w u p' v' (w1.setCell ⟨n + 1 + 1 + 1 + 1, 0, none⟩ v') ∧ KeepsOthers W (w1.setCell ⟨n + 1 + 1 + 1 + 1, 0, none⟩ v') ∧ Below n W (w1.setCell ⟨n + 1 + 1 + 1 + 1, 0, none⟩ v') ∧ Boxed (w1.setCell ⟨n + 1 + 1 + 1 + 1, 0, none⟩ v') (n + 1 + 1 + 1 + 1 + 1) 22 x := by
  have hlt := h.box.lt
  obtain ⟨h1, h2, h3, h4, h5⟩ := h.box.appended (by decide) h.row (by omega) (by omega) hown hgrow
  have hrow : ∀ j, v.ownBlock = some j → n + 1 + 1 + 1 ≤ j := fun j hj => (World.ownsRow.lt h.row j hj).1
  have low : ∀ (b : Nat) (t : TypeId) (y : Value), b < n + 1 + 1 + 1 → Boxed W b t y → Boxed (w1.setCell ⟨n + 1 + 1 + 1 + 1, 0, none⟩ v') b t y := fun b t y hb hy =>
    (h5.block b hb).trans hy
  refine ⟨h1, ⟨h2, h3, low _ _ _ (by omega) h.bxs, low _ _ _ (by omega) h.res, low _ _ _ (by omega) h.yes, h.old.trans (h5.mono (by omega))⟩, h4, h5.mono (by omega), ?_⟩
  have q1 : Boxed w1 (n + 1 + 1 + 1 + 1 + 1) 22 x := (hs.alloc o).kept hgrow (hs.not_row (by decide) h.row)
  exact q1.kept (grownBy_setCell' w1 _ v') (by simp)
theorem some_ne {a b : Nat} (h : a ≠ b) : some a ≠ some b := fun q => by injection q with q; exact h q
theorem Pile.zero {n : Nat} {w : World} {u : Value} {p : List Int} {v : Value} {W : World} (h : Pile n w u p v W) : Pile n w u p v ((W.setCell ⟨n + 1, 0, none⟩ (.int .i64 0)).setCell ⟨n + 1 + 1, 0, none⟩ (.bool false)) := by
  have hrow : ∀ j, v.ownBlock = some j → n + 1 + 1 + 1 ≤ j := fun j hj => (World.ownsRow.lt h.row j hj).1
  have g1 := grownBy_setCell' W (n + 1) (.int .i64 0)
  have g2 := grownBy_setCell' (W.setCell ⟨n + 1, 0, none⟩ (.int .i64 0)) (n + 1 + 1) (.bool false)
  refine ⟨(h.box.kept g1 (some_ne (by omega))).kept g2 (some_ne (by omega)), (h.row.kept g1 (.inr fun e => ?_)).kept g2 (.inr fun e => ?_), (h.bxs.kept g1 (some_ne (by omega))).kept g2 (some_ne (by omega)), (h.res.set _).kept g2 (some_ne (by omega)), (h.yes.kept g1 (some_ne (by omega))).set _,
    (h.old.setCell (p := ⟨n + 1, 0, none⟩) (by simp) _).setCell (p := ⟨n + 1 + 1, 0, none⟩) (by simp; omega) _⟩
  · have := hrow _ e; omega
  · have := hrow _ e; omega
theorem row_cut {W : World} {base : Nat} {e : TypeId} {g m j cap : Nat} {xs : List Value} (h : W.ownsRow base e 1 (.slice (some ⟨g, 0, none⟩) m cap) m xs) (hj : j ≤ m) : W.ownsRow base e 1 (.slice (some ⟨g, 0, none⟩) j cap) j (xs.take j) := by
  obtain ⟨hl, h⟩ := h
  rcases h with ⟨h, _⟩ | ⟨g2, cap2, cur, h1, h2, h3, h4, h5, h6, h7⟩
  · cases h
  · injection h1 with e1 e2 e3
    injection e1 with e1
    injection e1 with e1
    subst e1 e3
    refine ⟨by rw [List.length_take]; omega, .inr ⟨g, cap, cur, rfl, h2, h3, by omega, h5, h6, ?_⟩⟩
    rw [← h7, List.take_take]
    congr 1
    omega
theorem keepbox_mk {n b : Nat} {W W' : World} {x : Value} (h1 : Below n W W') (h2 : Boxed W b 22 x) (h3 : Boxed W' b 22 x) : KeepBox n b W W' := by
  refine ⟨h1, fun v hv => ?_⟩
  have : some (Obj.cells #[x] 22 (0, 0)) = some (Obj.cells #[v] 22 (0, 0)) := (show W.heap[b]? = _ from h2).symm.trans hv
  injection this with this
  injection this with this
  have e : x = v := by simpa using this
  rwa [← e]
theorem Pile.le {n : Nat} {w : World} {u : Value} {p : List Int} {v : Value} {W : World} (h : Pile n w u p v W) : n ≤ W.heap.size := by have := h.box.lt; omega

end Go.Proofs.YtblnonlcjfcblaaGreatDoor
