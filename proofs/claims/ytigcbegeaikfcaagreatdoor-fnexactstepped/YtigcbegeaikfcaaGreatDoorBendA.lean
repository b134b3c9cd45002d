/- A text that is bent by what is drawn: some text, not much longer. -/
import Derived.Test.YtigcbegeaikfcaaGreatDoorDrawA
import Derived.Deep.AppendLies
import Derived.Deep.RegionLaw
import Derived.Deep.CutRange
namespace Go.Proofs.YtigcbegeaikfcaaGreatDoor
open Go.RowKit
set_option linter.unusedVariables false

theorem Tryz.infoByte3 : (Tryz.prog.info? 5).map (fun i => (i.zero, i.size, i.bytes)) = some (some (.int .u8 0), 1, 1) := by kernel_rfl

/-- An append at a step of a region that draws; the new value is a letter. -/
theorem step_append_any {P : Program} (w : World) {ops : Array Oper} {o : Oper} {a : Act} {K : Act → World → Prop} {Q : Exit → Act → World → Prop} {E : Prop} (hgd : o.guard = none) (s x : Operand) (t : TypeId)
    (ho : o.op = .call { callee := .builtin .append, args := #[s, x], argTypes := #[t, t] }) (B : Nat) (e : TypeId) (i : TypeInfo) (z : Value) (ht : P.underlying t = some (.slice e)) (hi : P.info? e = some i) (hz : i.zero = some z)
    (hsize : i.size = 1) (hby : i.bytes = 1) (hzs : z.cells.size = 1) (v : Value) (xs : List Value) (hs : a.eval s = v) (hown : OwnV w B e v xs)
    (ad : Addr) (m c : Nat) (news : List Value) (hx : a.eval x = .slice (some ad) m c) (hl : news.length = m) (hnews : ∀ j u, news[j]? = some u → w.cell? (ad.add j) = some u) (h1 : ∀ u ∈ news, u.oneCell' = true)
    (hb : xs.length + m ≤ 100000) (hbase : B ≤ w.heap.size)
    (h : ∀ v' w', OwnV w' B e v' (xs ++ news) → w.grownBy w' v.ownBlock → (v' = .slice none 0 0 ↔ v = .slice none 0 0 ∧ m = 0) → (v'.ownBlock = v.ownBlock ∨ v'.ownBlock = some w.heap.size) → K (a.put o.dst v') w') :
    if Region.wanted o (yielded ops a.tmps) = true then Oper.wp P o a w K Q else E := by
  have hw : Region.wanted o (yielded ops a.tmps) = true := by simp [Region.wanted, hgd]
  rw [if_pos hw]
  obtain ⟨v', w', hr, h2, h3, h4, h5⟩ := run_append_own_at (P := P) w B t o.type e i z 1 1 ht hi hz hsize hby hzs (by decide) v xs.length xs hown ad m c news (by omega) hnews h1 (by unfold maxLen; omega) (by omega) hbase
  unfold Oper.wp execOp
  simp only [ho, resolve, invoke, builtin, Sem.run_bind, Sem.run_pure, Result.andThen_ok, List.map_toArray, List.map_cons, List.map_nil, hs, hx, hr]
  exact h v' w' (by unfold OwnV; rw [List.length_append, hl]; exact h2) h3 h4 h5

/-- Block b is a row of the call's own, whose first cells are xs and may be written. -/
structure RV (B : Nat) (b c : Nat) (xs : List Value) (W : World) : Prop where
  cap : xs.length ≤ c
  low : B ≤ b
  lt : b < W.heap.size
  cell : ∀ k x, xs[k]? = some x → W.cell? ⟨b, k, none⟩ = some x
  free : ∀ k, k < xs.length → W.frozen? ⟨b, k, none⟩ = false
theorem RV.keep {B b c : Nat} {xs : List Value} {W W' : World} (h : RV B b c xs W) (hs : W.heap.size ≤ W'.heap.size) (hb : W'.heap[b]? = W.heap[b]?) : RV B b c xs W' :=
  ⟨h.cap, h.low, Nat.lt_of_lt_of_le h.lt hs, fun k x hx => (World.cell?_of_block hb).trans (h.cell k x hx), fun k hk => (World.frozen?_of_block hb).trans (h.free k hk)⟩
theorem RV.of_own {B : Nat} {e : TypeId} {v : Value} {xs : List Value} {W : World} (h : OwnV W B e v xs) (hn : v ≠ .slice none 0 0) : ∃ b c, v = .slice (some ⟨b, 0, none⟩) xs.length c ∧ v.ownBlock = some b ∧ RV B b c xs W := by
  have hsee := h.see
  obtain ⟨hl, h⟩ := h
  rcases h with ⟨h, _⟩ | ⟨q, cap, cur, hv, hb, hg, hnc, hcm, hcs, ht⟩
  · exact absurd h hn
  · subst hv
    refine ⟨q, cap, rfl, rfl, hnc, hb, (Array.getElem?_eq_some_iff.1 hg).1, fun k x hx => ?_, fun k _ => frozen_row hg⟩
    obtain ⟨q', o', he, _, hc⟩ := hsee.at_ hx
    injection he with he
    injection he with h1 h2
    subst h1 h2
    rwa [Nat.zero_add] at hc

/-- The cursor, the row at b, and what was there. -/
structure Bw (w0 : World) (g b c : Nat) (xs : List Value) (W : World) : Prop where
  cur : Cur W g
  row : RV w0.heap.size b c xs W
  old : w0.grownBy W (some g)
  lt : g < w0.heap.size
theorem Bw.size {w0 W : World} {g b c : Nat} {xs : List Value} (h : Bw w0 g b c xs W) : w0.heap.size ≤ W.heap.size := h.old.size
theorem Bw.below {w0 W W' : World} {g b c : Nat} {xs : List Value} (h : Bw w0 g b c xs W) (hb : Below W.heap.size W W') : Bw w0 g b c xs W' :=
  ⟨h.cur.later hb, h.row.keep hb.size (hb.block _ h.row.lt), grown_trans h.old (grown_of_below hb _), h.lt⟩
theorem Bw.drew {w0 W : World} {g b c : Nat} {xs : List Value} (h : Bw w0 g b c xs W) : Bw w0 g b c xs W.drew := h.below (Below.refl _ _).drew
theorem Bw.alloc {w0 W : World} {g b c : Nat} {xs : List Value} (h : Bw w0 g b c xs W) (o : Obj) : Bw w0 g b c xs (W.alloc o) := h.below ((Below.refl _ _).alloc (Nat.le_refl _) _)
/-- A draw. -/
theorem Bw.draw {w0 W W' : World} {g b c : Nat} {xs : List Value} (h : Bw w0 g b c xs W) (hc : Cur W' g) (hg : W.grownBy W' (some g)) : Bw w0 g b c xs W' :=
  ⟨hc, h.row.keep hg.size (hg.block b h.row.lt (fun e => by injection e with e; have := h.row.low; have := h.lt; omega)), grown_trans h.old hg, h.lt⟩
/-- Another row of the call's own has grown. -/
theorem Bw.other {w0 W W' : World} {g b c q : Nat} {xs : List Value} (h : Bw w0 g b c xs W) (hq : w0.heap.size ≤ q) (hne : b ≠ q) (hg : W.grownBy W' (some q)) : Bw w0 g b c xs W' := by
  have hlt := h.lt
  refine ⟨?_, h.row.keep hg.size (hg.block b h.row.lt (fun e => by injection e; omega)), ?_, h.lt⟩
  · have hl := h.cur.lt
    obtain ⟨A, n, c, i, x, hh, hs, hi⟩ := h.cur
    refine ⟨A, n, c, i, x, (hg.block g hl (fun e => by injection e; omega)).trans hh, hs.keep fun p hp => World.cell?_of_block (hg.block p.block (by omega) (fun e => by injection e; omega)), hi⟩
  · refine ⟨hg.os.trans h.old.os, hg.tape.trans h.old.tape, hg.output.trans h.old.output, Nat.le_trans h.old.size hg.size, fun k hk hkg => ?_⟩
    exact (hg.block k (Nat.lt_of_lt_of_le hk h.old.size) (fun e => by injection e; omega)).trans (h.old.block k hk hkg)
theorem Bw.to {w0 W : World} {g b c b' c' : Nat} {xs ys : List Value} (h : Bw w0 g b c xs W) (hr : RV w0.heap.size b' c' ys W) : Bw w0 g b' c' ys W := ⟨h.cur, hr, h.old, h.lt⟩
theorem Bw.take {w0 W : World} {g b c : Nat} {xs : List Value} (h : Bw w0 g b c xs W) (k : Nat) (hk : k ≤ xs.length) : Bw w0 g b c (xs.take k) W := by
  have hl : (xs.take k).length = k := by simp; omega
  refine h.to ⟨by have := h.row.cap; omega, h.row.low, h.row.lt, fun j x hx => h.row.cell j x ?_, fun j hj => h.row.free j (by omega)⟩
  rw [List.getElem?_take] at hx
  split at hx
  · exact hx
  · cases hx
theorem Bw.set {w0 W : World} {g b c : Nat} {xs : List Value} (h : Bw w0 g b c xs W) (k : Nat) (hk : k < xs.length) (u : Value) : Bw w0 g b c (xs.set k u) (W.setCell ⟨b, k, none⟩ u) := by
  have hb := h.row.low
  have hlt := h.lt
  obtain ⟨x, hx⟩ : ∃ x, W.cell? ⟨b, k, none⟩ = some x := ⟨_, h.row.cell k xs[k] (List.getElem?_eq_getElem hk)⟩
  refine ⟨h.cur.far (by simp; omega) u, ⟨by simpa using h.row.cap, hb, by simpa using h.row.lt, fun j y hy => ?_, fun j hj => ?_⟩, ?_, h.lt⟩
  · rw [List.getElem?_set] at hy
    by_cases e : k = j
    · subst e
      rw [if_pos rfl, if_pos hk] at hy
      injection hy with hy
      subst hy
      exact World.cell?_setCell_same W _ _ hx
    · rw [if_neg e] at hy
      exact (World.cell?_setCell_other W _ _ _ (fun q => by injection q; omega)).trans (h.row.cell j y hy)
  · rw [World.frozen?_setCell]
    exact h.row.free j (by simpa using hj)
  · refine ⟨h.old.os, h.old.tape, h.old.output, by simpa using h.old.size, fun i hi hig => ?_⟩
    exact (Below.heap_setCell W _ _ i (by simp; omega)).trans (h.old.block i hi hig)
/-- What the row holds, from k on, for an append. -/
theorem Bw.news {w0 W : World} {g b c : Nat} {xs : List Value} (h : Bw w0 g b c xs W) (k : Nat) : ∀ j u, (xs.drop k)[j]? = some u → W.cell? ((⟨b, k, none⟩ : Addr).add j) = some u := by
  intro j u hj
  rw [List.getElem?_drop] at hj
  have hadd : (⟨b, k, none⟩ : Addr).add j = ⟨b, k + j, none⟩ := by unfold Addr.add; split <;> simp_all
  rw [hadd]; exact h.row.cell _ _ hj
theorem Bw.newsTake {w0 W : World} {g b c : Nat} {xs : List Value} (h : Bw w0 g b c xs W) (k : Nat) : ∀ j u, (xs.take k)[j]? = some u → W.cell? ((⟨b, 0, none⟩ : Addr).add j) = some u := by
  intro j u hj
  refine h.news 0 j u ?_
  rw [List.drop_zero]
  rw [List.getElem?_take] at hj
  split at hj
  · exact hj
  · cases hj
theorem bytes_one (l : List UInt8) : ∀ u ∈ l.map byte, u.oneCell' = true := by
  intro u hu
  obtain ⟨x, _, rfl⟩ := List.mem_map.1 hu
  rfl
/-- Behind an append onto another row v0 (its block q) of the call's own. -/
structure App (w0 : World) (g b c : Nat) (xs : List Value) (v : Value) (ys : List Value) (W : World) : Prop where
  own : OwnV W w0.heap.size 5 v ys
  some_ : v ≠ .slice none 0 0
  far : ∀ q, v.ownBlock = some q → w0.heap.size ≤ q ∧ b ≠ q
  bw : Bw w0 g b c xs W
theorem App.new {w0 W : World} {g b c : Nat} {xs : List Value} (h : Bw w0 g b c xs W) : App w0 g b c xs (.slice (some ⟨W.heap.size, 0, none⟩) 0 0) [] (W.alloc (.cells #[] 5)).drew :=
  ⟨OwnV.drewN (OwnV.empty W w0.heap.size 5 h.size) 1, by simp, fun q e => by
    have : q = W.heap.size := by simpa [Value.ownBlock] using e.symm
    have := h.size; have := h.row.lt; omega, (h.alloc _).drew⟩
theorem App.block {w0 W : World} {g b c : Nat} {xs ys : List Value} {v : Value} (h : App w0 g b c xs v ys W) : ∃ q c', v = .slice (some ⟨q, 0, none⟩) ys.length c' ∧ v.ownBlock = some q ∧ RV w0.heap.size q c' ys W := RV.of_own h.own h.some_
theorem App.next {w0 W W' : World} {g b c m : Nat} {xs ys zs : List Value} {v v' : Value} (h : App w0 g b c xs v ys W) (o : OwnV W' w0.heap.size 5 v' zs) (hg : W.grownBy W' v.ownBlock) (hn : v' = .slice none 0 0 ↔ v = .slice none 0 0 ∧ m = 0)
    (ha : v'.ownBlock = v.ownBlock ∨ v'.ownBlock = some W.heap.size) : App w0 g b c xs v' zs W' := by
  obtain ⟨q, c', _, e, _⟩ := h.block
  have hq := h.far q e
  refine ⟨o, fun e => h.some_ (hn.1 e).1, fun p hp => ?_, ?_⟩
  · rcases ha with ha | ha
    · rw [hp, e] at ha; injection ha with ha; subst ha; exact hq
    · rw [hp] at ha; injection ha with ha
      have := h.bw.size; have := h.bw.row.lt; omega
  · rw [e] at hg
    exact h.bw.other hq.1 hq.2 hg
/-- Behind a draw. -/
theorem App.draw {w0 W W' : World} {g b c : Nat} {xs ys : List Value} {v : Value} (h : App w0 g b c xs v ys W) (hc : Cur W' g) (hg : W.grownBy W' (some g)) : App w0 g b c xs v ys W' := by
  obtain ⟨q, c', _, e, _⟩ := h.block
  have hq := h.far q e
  refine ⟨World.ownsRow.kept h.own hg (.inr ?_), h.some_, h.far, h.bw.draw hc hg⟩
  rw [e]
  intro e2; injection e2 with e2
  have := h.bw.lt; omega
theorem App.alloc {w0 W : World} {g b c : Nat} {xs ys : List Value} {v : Value} (h : App w0 g b c xs v ys W) (o : Obj) : App w0 g b c xs v ys (W.alloc o) := ⟨h.own.alloc o, h.some_, h.far, h.bw.alloc o⟩
theorem App.fin {w0 W : World} {g b c : Nat} {xs : List Value} {v : Value} {l : List UInt8} (h : App w0 g b c xs v (l.map byte) W) : ∃ q c', v = .slice (some ⟨q, 0, none⟩) l.length c' ∧ Bw w0 g q c' (l.map byte) W := by
  obtain ⟨q, c', e, _, r⟩ := h.block
  rw [List.length_map] at e
  exact ⟨q, c', e, h.bw.to r⟩

end Go.Proofs.YtigcbegeaikfcaaGreatDoor
