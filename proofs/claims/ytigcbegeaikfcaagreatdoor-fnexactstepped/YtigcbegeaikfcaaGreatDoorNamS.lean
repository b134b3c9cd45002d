/- A range over a function whose calls of yield are known one by one, by their number: the k-th round is handed arg k. (The kit's laws ask the round at every value of a type; where a round is safe only at the value that comes next, that is too much.) No program is named here. slices.Backward at []string: what it hands back, and what that feeds to a loop. No conditions but those typed. Layer 6 (sums): what the program's reckoned keeps from round to round: the pile in its box. No conditions but those typed. Layer 6 (sums): NamesIn, of the model and of the program. Condition for the program's: the listed variables hold what the program's text lays (Vars). The walk of FnExactNamesIn. Condition: the listed variables hold what the program's text lays (Vars). -/
import Derived.Test.YtigcbegeaikfcaaGreatDoorLowB
import Derived.Test.YtigcbegeaikfcaaGreatDoorSumS
import Derived.Test.YtigcbegeaikfcaaGreatDoorDeedS
import Derived.Test.YtigcbegeaikfcaaGreatDoorLowT
import Derived.RangeFuncBox
import Derived.RangeFuncLeaves
import Derived.RangeFuncCalls
import Derived.Shelf.Abstract
import Derived.WalkKit
import Derived.OwnWalkIn
import Derived.TacticsInMore
import Derived.LoopNIn
import Derived.LoopIn
import Derived.Sort.QuietIn
import Derived.Maps.AppendAt
import Derived.Sort.OwnSorted
namespace Go.Proofs.YtigcbegeaikfcaaGreatDoor
open Go.RowKit
set_option linter.unusedVariables false

/-- Function g (with lb captured), handed a yield: it calls it with arg 0, arg 1 .. one behind the other, N times at most, until a round says no more; a round that goes on keeps Kp. -/
def Feeds (n : Nat) (P : Program) (g : Nat) (lb : Array Value) (N : Nat) (arg : Nat → Array Value) (Kp : World → World → Prop) (w : World) : Prop :=
  ∀ (l : Nat) (J : Nat → World → Prop) (Jx : World → Prop) (W : World), Below w.heap.size w W →
    (∀ k W1, k < N → J k W1 → YieldAt Fence.wide (n - 1) P l (arg k) W1 fun e W' => (e = .returned (.bool true) ∧ J (k + 1) W' ∧ Kp W1 W') ∨ (e = .returned (.bool false) ∧ Jx W')) →
    J 0 W → CallsIn Fence.wide n P g (#[.func (.yield l) #[] #[]] ++ lb) W fun e W' => (∃ v, e = .returned v) ∧ (J N W' ∨ Jx W')

/-- How round k may be left: it goes on, or it returns. -/
def RoundOut (B : Nat) (Kp : World → World → Prop) (I : World → Prop) (Ix : World → Prop) (W : World) : Exit → Act → World → Prop
  | .normal, _, W' => KeepsFrom B W W' ∧ Kp W W' ∧ I W'
  | .ret, _, W' => KeepsFrom B W W' ∧ Ix W'
  | _, _, _ => False

/-- The marks that an outermost loop leaves. -/
def marked (D : Nat) (a : Act) : Act := { a with defers := { target := .collected D, args := #[] } :: a.defers }

theorem wp_feeds {P : Program} {n : Nat} {g : Operand} {ps : Array Tmp} {assign body : Code} {Q : Exit → Act → World → Prop} {a : Act} {w : World} (h1 : 1 ≤ n) {gf : Nat} {lb : Array Value} (hg : a.eval g = .func (.func gf) #[] lb)
    (eg : ∀ args w, (callFunc gf args).run P w = .ok (.enter gf args) w) {N : Nat} {arg : Nat → Array Value} {Kp : World → World → Prop} (hfeed : Feeds (n - 1) P gf lb N arg Kp w) (hKt : ∀ {X Y Z : World}, Kp X Y → Kp Y Z → Kp X Z)
    (hKp : ∀ (X : World) (l : Nat) (o o' : Obj), w.heap.size ≤ l → X.heap[l]? = some o → o.isCells = false → Kp X (X.putObj l o')) (hps : ∀ k, k < N → (arg k).size = ps.size)
    (I : Nat → World → Prop) (Ix : World → Prop) (hI : OwnFrom w.heap.size I) (hIx : OwnFrom w.heap.size (fun (_ : Unit) => Ix)) (h0 : I 0 w) (a₁ : Nat → Act)
    (hassign : ∀ (l k : Nat) (W : World) (K : Act → World → Prop), k < N → K (a₁ k) W →
      assign.wpIn (Fence.wide.inRound l) (n - 1 - 1) P (Exit.then K (fun _ _ _ => False)) { tmps := (ps.zip (arg k)).foldl (fun t (p, v) => t.setIfInBounds p v) a.tmps, defers := [] } W)
    (hbody : ∀ (l k : Nat) (W : World), k < N → I k W → body.wpIn (Fence.wide.inRound l) (n - 1 - 1) P (RoundOut w.heap.size Kp (I (k + 1)) Ix W) (a₁ k) W)
    (hdone : ∀ (D : Nat) (W : World), w.heap.size ≤ D → I N W → W.heap[D]? = some (.deferred (some [])) → Q .normal (marked D a) W)
    (hstop : ∀ (D : Nat) (W : World), w.heap.size ≤ D → Ix W → W.heap[D]? = some (.deferred (some [])) → Code.ret.wpIn Fence.wide n P Q (marked D a) W) :
    (Code.rangeFunc g ps assign body).wpIn Fence.wide n P Q a w := by
  refine wpIn_rangeFunc fun fn hfn => ?_
  -- the loop's record, in a state and with a jump that waits
  let rc : LoopState → Option Code → Loop := fun st pe => { state := st, pending := pe, fn, tmps := a.tmps, params := ps, assign, body, defers := w.heap.size }
  let dn := w.heap.size
  have enter := run_enterLoop_outer (P := P) (w := w) fn a.tmps ps assign body
  obtain ⟨W1, e1⟩ : ∃ W1, W1 = (w.alloc (.deferred (some []))).alloc (.loop (rc .ready none)) := ⟨_, rfl⟩
  have old1 : Below w.heap.size w W1 := by rw [e1]; exact ((Below.refl _ w).alloc (Nat.le_refl _) _).alloc (by simp) _
  have rec1 : W1.heap[dn + 1]? = some (.loop (rc .ready none)) := by
    have := World.alloc_heap_new (w.alloc (.deferred (some []))) (.loop (rc .ready none))
    rw [World.size_alloc] at this
    rw [e1]; exact this
  have def1 : W1.heap[dn]? = some (.deferred (some [])) := by
    rw [e1, Below.heap_alloc _ _ _ (by simp [dn])]
    exact World.alloc_heap_new w _
  have inv1 : I 0 W1 := by rw [e1]; exact hI.alloc _ (hI.alloc _ h0)
  refine ⟨dn + 1, [{ target := .collected dn, args := #[] }], W1, { target := .fn (.func gf) lb, args := #[.func (.yield (dn + 1)) #[] #[]] }, W1, gf, #[.func (.yield (dn + 1)) #[] #[]] ++ lb, W1, by rw [e1]; exact enter, ?_, fun f' _ => trivial, ?_, fun _ => h1, ?_⟩
  · simp only [resolve, hg]
    simp [go_sem]
  · simp [invoke, go_sem, eg]
  refine (hfeed (dn + 1) (fun k W => I k W ∧ W.heap[dn + 1]? = some (.loop (rc .ready none)) ∧ W.heap[dn]? = some (.deferred (some [])))
    (fun W => Ix W ∧ W.heap[dn + 1]? = some (.loop (rc .done (some .ret))) ∧ W.heap[dn]? = some (.deferred (some []))) W1 old1 ?_ ⟨inv1, rec1, def1⟩).mono ?_
  · -- one round
    rintro k W hk ⟨hi, hr, hd⟩
    have hy := run_yield (P := P) (args := arg k) hr (hps k hk)
    have lt : dn + 1 < W.heap.size := (Array.getElem?_eq_some_iff.1 hr).1
    refine ⟨fn, _, assign, body, hy, roundIn_of_wpIn hfn (hassign _ k W _ hk ⟨_, run_beginRound hr rfl, ?_⟩)⟩
    have busy : (W.putObj (dn + 1) (.loop { rc .ready none with state := .busy })).heap[dn + 1]? = some (.loop { rc .ready none with state := .busy }) := World.putObj_heap_same lt
    have stay : (W.putObj (dn + 1) (.loop { rc .ready none with state := .busy })).heap[dn]? = some (.deferred (some [])) := (World.putObj_heap_other (by omega)).trans hd
    have keep := hKp W (dn + 1) _ (.loop { rc .ready none with state := .busy }) (by omega) hr rfl
    refine wpIn_mono (hbody _ k _ hk (hI.putObj _ hi (by omega) hr rfl)) ?_
    rintro e a3 W3 hp
    cases e with
    | normal =>
      obtain ⟨kf, kb, i3⟩ := hp
      have b3 := kf.same _ _ (by omega) busy rfl
      have d3 := kf.same _ _ (Nat.le_refl _) stay rfl
      refine ⟨_, _, run_endRound none b3, .inl ⟨rfl, ⟨hI.putObj _ i3 (by omega) b3 rfl, ?_, ?_⟩, hKt (hKt keep kb) (hKp _ _ _ _ (by omega) b3 rfl)⟩⟩
      · exact World.putObj_heap_same (Array.getElem?_eq_some_iff.1 b3).1
      · exact (World.putObj_heap_other (by omega)).trans d3
    | ret =>
      obtain ⟨kf, i3⟩ := hp
      have b3 := kf.same _ _ (by omega) busy rfl
      have d3 := kf.same _ _ (Nat.le_refl _) stay rfl
      refine ⟨_, _, run_endRound (some .ret) b3, .inr ⟨rfl, hIx.putObj (s := ()) _ i3 (by omega) b3 rfl, ?_, ?_⟩⟩
      · exact World.putObj_heap_same (Array.getElem?_eq_some_iff.1 b3).1
      · exact (World.putObj_heap_other (by omega)).trans d3
    | exit id => exact hp.elim
    | goto t => exact hp.elim
    | panic ch => exact hp.elim
    | outgrown => exact hp.elim
  · -- behind the iterator
    rintro e W2 ⟨⟨v, rfl⟩, ⟨hi, hr, hd⟩ | ⟨hi, hr, hd⟩⟩
    · exact ⟨none, _, run_endLoop hr (by simp [rc]), hdone dn _ (Nat.le_refl _) (hI.putObj _ hi (by omega) hr rfl) ((World.putObj_heap_other (by omega)).trans hd)⟩
    · exact ⟨some .ret, _, run_endLoop hr (by simp [rc]), hstop dn _ (Nat.le_refl _) (hIx.putObj (s := ()) _ hi (by omega) hr rfl) ((World.putObj_heap_other (by omega)).trans hd)⟩
/-! A region that draws its order, in a round: as outside one, where no operation is a 'defer'. -/
def noDeferB (o : Oper) : Bool := match o.op with
  | .defer _ => false
  | _ => true
theorem noDefer_of {o : Oper} (h : noDeferB o = true) : ∀ c, o.op ≠ .defer c := by
  intro c e
  unfold noDeferB at h
  rw [e] at h
  cases h
theorem opIn_round {F : Fence} {l n : Nat} {P : Program} {o : Oper} {a : Act} {w : World} {K : Act → World → Prop} {Q : Exit → Act → World → Prop} (hnd : ∀ c, o.op ≠ .defer c) (hro : F.round = none) (h : o.wpIn F n P a w K Q) : o.wpIn (F.inRound l) n P a w K Q := by
  unfold Oper.wpIn at *
  rw [hro, Oper.semAt_none] at h
  rw [Oper.semAt_plain (F.inRound l) _ _ hnd]
  exact h
theorem anyIn_round {F : Fence} {l n : Nat} {P : Program} {md : Region.Mode} {ops : Array Oper} {Q : Exit → Act → World → Prop} (hnd : ∀ (i : Nat) (o : Oper), ops[i]? = some o → ∀ c, o.op ≠ .defer c) (hro : F.round = none) :
    ∀ (fuel : Nat) (listed : Array Bool) (a : Act) (w : World), wpAnyIn F n P md ops Q fuel listed a w → wpAnyIn (F.inRound l) n P md ops Q fuel listed a w
  | 0, _, _, _, h => h
  | fuel + 1, listed, a, w, h => ⟨h.1, fun i hi => by
    have h2 := h.2 i hi
    unfold wpOpIn at h2 ⊢
    cases ho : ops[i]? with
    | none =>
      simp only [ho] at h2 ⊢
      exact anyIn_round hnd hro fuel _ a w h2
    | some o =>
      simp only [ho] at h2 ⊢
      by_cases hw : Region.wanted o (yielded ops a.tmps) = true
      · rw [if_pos hw] at h2 ⊢
        exact opIn_round (hnd i o ho) hro (Oper.wpIn_mono (fun a' w' q => anyIn_round hnd hro fuel _ a' w' q) h2)
      · rw [if_neg hw] at h2 ⊢
        exact ⟨h2.1, anyIn_round hnd hro fuel _ _ _ h2.2⟩⟩
/-- One walk of the lexical order serves every order, in a round. -/
theorem region_quiet_round {n : Nat} {P : Program} {id l : Nat} {Q : Exit → Act → World → Prop} {a : Act} {w : World} {L : List Oper} (hnd : L.all noDeferB = true) (hm : P.follows .mixedOrders = true) (hB : Region.lexB .any L.toArray = true)
    (h : wpQuietIn Fence.wide n P L.toArray (fun w' => ∃ n, w' = w.drewN n) (fun a' => ∀ w', (∃ n, w' = w.drewN n) → Q .normal a' w') L a) : (Code.region id L.toArray true).wpIn (Fence.wide.inRound l) n P Q a w := by
  simp only [Region.lexB, Bool.and_eq_true] at hB
  have hnd' : ∀ (i : Nat) (o : Oper), L.toArray[i]? = some o → ∀ c, o.op ≠ .defer c := fun i o ho => noDefer_of (List.all_eq_true.1 hnd o (by
    rw [List.getElem?_toArray] at ho
    exact List.mem_of_getElem? ho))
  refine wpIn_region_any hm (anyIn_round hnd' rfl _ _ _ _ (wpAnyIn_of_quiet (C := fun w' => ∃ n, w' = w.drewN n) (Q := fun a' => ∀ w', (∃ n, w' = w.drewN n) → Q .normal a' w') rfl (fun _ w' hw' h => h w' hw') _ _ _ _ ⟨1, rfl⟩ ?_))
  have := wpAnyQIn_lex (F := Fence.wide) (n := n) (P := P) (C := fun w' => ∃ n, w' = w.drewN n) (Q := fun a' => ∀ w', (∃ n, w' = w.drewN n) → Q .normal a' w') (md := .any) hB.1 L.toArray.toList 0 (Array.replicate L.toArray.size false) a (by simp) (by simpa using hB.2) (by simpa using h)
  simpa using this

end Go.Proofs.YtigcbegeaikfcaaGreatDoor

namespace Go.Proofs.YtigcbegeaikfcaaGreatDoor
open Go.RowKit
set_option linter.unusedVariables false
attribute [local go_sem] Oper.semAt_some

/-- What round k is handed: place and text, the last one first. -/
def backArg (ss : List (List UInt8)) (k : Nat) : Array Value := #[.int .i64 ((ss.length : Int) - 1 - k), str (ss.getD (ss.length - 1 - k) [])]
/-- What a round keeps: what lies below n₀, and the box b. -/
def KeepBox (n₀ b : Nat) (X Y : World) : Prop := Below n₀ X Y ∧ ∀ v, Boxed X b 48 v → Boxed Y b 48 v
theorem KeepBox.refl (n₀ b : Nat) (X : World) : KeepBox n₀ b X X := ⟨Below.refl _ _, fun _ h => h⟩
theorem KeepBox.trans {n₀ b : Nat} {X Y Z : World} (h : KeepBox n₀ b X Y) (k : KeepBox n₀ b Y Z) : KeepBox n₀ b X Z := ⟨h.1.trans k.1, fun v q => k.2 v (h.2 v q)⟩

end Go.Proofs.YtigcbegeaikfcaaGreatDoor

namespace Go.Proofs.YtigcbegeaikfcaaGreatDoor
open Go.RowKit
set_option linter.unusedVariables false

theorem flat_ok : ∀ (t : Sum), t.ok → ∀ s ∈ t.flat, opN s = 0 → leafB s = true
  | .leaf s, h, x, hx, _ => by
    have : x = s := by simpa [Sum.flat] using hx
    rw [this]; exact h.2
  | .op s a b, h, x, hx, ho => by
    rcases List.mem_cons.1 hx with rfl | hx
    · exact absurd ho h.1
    · rcases List.mem_append.1 hx with hx | hx
      · exact flat_ok a h.2.1 x hx ho
      · exact flat_ok b h.2.2 x hx ho
/-- The k-th sign from the end. -/
theorem rev_at {ts : List (List UInt8)} {k : Nat} {x : List UInt8} (hk : k < ts.length) (hx : ts[ts.length - 1 - k]? = some x) : ts.reverse.drop k = x :: ts.reverse.drop (k + 1) ∧ ts.reverse.take (k + 1) = ts.reverse.take k ++ [x] := by
  have h : ts.reverse[k]? = some x := by rw [List.getElem?_reverse hk]; exact hx
  obtain ⟨hk', hg⟩ := List.getElem?_eq_some_iff.1 h
  exact ⟨by rw [List.drop_eq_getElem_cons hk', hg], by rw [List.take_add_one, h]; rfl⟩
theorem run_leaf {bs : List Bx} {ts : List (List UInt8)} {k : Nat} {x : List UInt8} {p : List Int} (hk : k < ts.length) (hx : ts[ts.length - 1 - k]? = some x) (h : runR bs (ts.reverse.take k) [] = some p) (ho : opN x = 0) :
    runR bs (ts.reverse.take (k + 1)) [] = some (leafV bs x :: p) := by
  rw [(rev_at hk hx).2, runR_app, h]
  exact runR_leaf bs ho p
theorem run_op {bs : List Bx} {ts : List (List UInt8)} {k : Nat} {x : List UInt8} {a b : Int} {q : List Int} (hk : k < ts.length) (hx : ts[ts.length - 1 - k]? = some x) (h : runR bs (ts.reverse.take k) [] = some (a :: b :: q)) (ho : ¬ opN x = 0) (hd : (didS (opN x) a b).2 = true) :
    runR bs (ts.reverse.take (k + 1)) [] = some ((didS (opN x) a b).1 :: q) := by
  rw [(rev_at hk hx).2, runR_app, h]
  exact (runR_op bs ho _).trans (by rw [opR_two, if_pos hd])
theorem run_stop {bs : List Bx} {t : Sum} {k : Nat} {x : List UInt8} {a b : Int} {q : List Int} (ht : t.ok) (hk : k < t.flat.length) (hx : t.flat[t.flat.length - 1 - k]? = some x) (h : runR bs (t.flat.reverse.take k) [] = some (a :: b :: q)) (ho : ¬ opN x = 0) (hd : (didS (opN x) a b).2 = false) :
    evalT bs t = none := by
  have h1 := runR_tree bs t [] ht
  rw [← List.take_append_drop k t.flat.reverse, runR_app, h, (rev_at hk hx).1] at h1
  have h2 : runR bs (x :: t.flat.reverse.drop (k + 1)) (a :: b :: q) = none := by
    rw [runR, if_neg ho, opR_two, if_neg (by rw [hd]; simp)]; rfl
  rw [Option.bind_some, h2] at h1
  cases he : evalT bs t with
  | none => rfl
  | some v => rw [he] at h1; cases h1
theorem run_two {bs : List Bx} {t : Sum} {k : Nat} {x : List UInt8} {p : List Int} (ht : t.ok) (hk : k < t.flat.length) (hx : t.flat[t.flat.length - 1 - k]? = some x) (h : runR bs (t.flat.reverse.take k) [] = some p) (ho : ¬ opN x = 0) :
    ∃ a b q, p = a :: b :: q := by
  have h1 := highR_tree t 0 ht
  have h3 := run_high bs _ _ _ h
  rw [← List.take_append_drop k t.flat.reverse, highR_app, show (0 : Nat) = ([] : List Int).length from rfl, h3, Option.bind_some, (rev_at hk hx).1, highR, if_neg ho] at h1
  match p, h1 with
  | a :: b :: q, _ => exact ⟨a, b, q, rfl⟩
  | [_], h1 => simp at h1
  | [], h1 => simp at h1
theorem run_end {bs : List Bx} {t : Sum} {p : List Int} (ht : t.ok) (h : runR bs (t.flat.reverse.take t.flat.length) [] = some p) : ∃ v, evalT bs t = some v ∧ p = [v] := by
  rw [List.take_of_length_le (by simp), runR_tree bs t [] ht] at h
  cases he : evalT bs t with
  | none => rw [he] at h; cases h
  | some v => rw [he] at h; injection h with h; exact ⟨v, rfl, h.symm⟩

theorem keeps_of_below {B : Nat} {W W' : World} (h : Below W.heap.size W W') : KeepsFrom B W W' :=
  ⟨h.size, fun k o _ hk _ => (h.block k (Array.getElem?_eq_some_iff.1 hk).1).trans hk⟩
theorem Boxed.later {W W' : World} {b : Nat} {t : TypeId} {v : Value} (h : Boxed W b t v) (hb : Below W.heap.size W W') : Boxed W' b t v := (hb.block b h.lt).trans h

/-- An append at a step of a drawn region, inside a fence. -/
theorem stepIn_append {F : Fence} {n : Nat} {P : Program} (w : World) {ops : Array Oper} {o : Oper} {a : Act} {K : Act → World → Prop} {Q : Exit → Act → World → Prop} {E : Prop}
    (hg : o.guard = none) (s x : Operand) (t : TypeId) (hop : o.op = Op.call { callee := Callee.builtin Builtin.append, args := #[s, x], argTypes := #[t, t] })
    (base : Nat) (e : TypeId) (i : TypeInfo) (z : Value) (size bytes : Nat) (h1 : P.underlying t = some (.slice e)) (h2 : P.info? e = some i) (h3 : i.zero = some z) (h4 : i.size = size) (h5 : i.bytes = bytes) (h6 : z.cells.size = size) (h7 : 0 < size)
    (v : Value) (k : Nat) (xs : List Value) (hs : a.eval s = v) (hown : w.ownsRow base e size v k xs) (ad : Addr) (m c : Nat) (news : List Value) (hx : a.eval x = .slice (some ad) m c) (hn : news.length = m * size)
    (hc : ∀ j u, news[j]? = some u → w.cell? (ad.add j) = some u) (h1c : ∀ u ∈ news, u.oneCell' = true) (b1 : k + m ≤ maxLen) (b2 : (k + m) * bytes ≤ 140737488355328) (b3 : base ≤ w.heap.size)
    (hK : ∀ v' w', w'.ownsRow base e size v' (k + m) (xs ++ news) → w.grownBy w' v.ownBlock → K (a.put o.dst v') w') :
    if Region.wanted o (yielded ops a.tmps) = true then Oper.wpIn F n P o a w K Q else E := by
  have hw : Region.wanted o (yielded ops a.tmps) = true := by simp [Region.wanted, hg]
  rw [if_pos hw]
  obtain ⟨v', w', hrun, r1, r2, r3⟩ := run_append_own (P := P) w base t o.type e i z size bytes h1 h2 h3 h4 h5 h6 h7 v k xs hown ad m c news hn hc h1c b1 b2 b3
  unfold Oper.wpIn
  refine ⟨?_, ?_⟩
  · simp [Oper.about, hop, resolve, Target.leads, Sem.run_pure]
  · rw [Oper.semAt_plain F _ _ (by rw [hop]; intro c hc'; cases hc')]
    simp [execOp, hop, resolve, invoke, builtin, hs, hx, hrun, Result.andThen]
    exact hK v' w' r1 r2

theorem row_cut {W : World} {base : Nat} {e : TypeId} {g m j cap : Nat} {xs : List Value} (h : W.ownsRow base e 1 (.slice (some ⟨g, 0, none⟩) m cap) m xs) (hj : j ≤ m) : W.ownsRow base e 1 (.slice (some ⟨g, 0, none⟩) j cap) j (xs.take j) := by
  obtain ⟨hl, h⟩ := h
  rcases h with ⟨h, _⟩ | ⟨g2, cap2, cur, h1, h2, h3, h4, h5, h6, h7⟩
  · cases h
  · injection h1 with e1 e2 e3
    injection e1 with e1
    injection e1 with e1
    subst e1 e3
    refine ⟨by rw [List.length_take]; omega, .inr ⟨g, cap, cur, rfl, h2, h3, by omega, h5, h6, ?_⟩⟩
    rw [← h7, List.take_take]
    congr 1
    omega

end Go.Proofs.YtigcbegeaikfcaaGreatDoor

namespace Go.Proofs.YtigcbegeaikfcaaGreatDoor
open Go.RowKit Go.Sort
set_option linter.unusedVariables false

theorem putAll_yes {l : List Txt} {p : Nat} {x : Txt} (hx : l[p]? = some x) (h : nameB x = true) : putAll ((l.take (p + 1)).filter nameB) = putS (putAll ((l.take p).filter nameB)) x := by
  unfold putAll
  rw [List.take_add_one, hx, List.filter_append, List.foldl_append]
  simp [h]
theorem filt_yes {l : List Txt} {p : Nat} {x : Txt} (hx : l[p]? = some x) (h : nameB x = true) : (l.take (p + 1)).filter nameB = (l.take p).filter nameB ++ [x] := by
  rw [List.take_add_one, hx, List.filter_append]
  simp [h]
theorem filt_no {l : List Txt} {p : Nat} {x : Txt} (hx : l[p]? = some x) (h : nameB x = false) : (l.take (p + 1)).filter nameB = (l.take p).filter nameB := by
  rw [List.take_add_one, hx, List.filter_append]
  simp [h]
theorem names_no {ss : List Txt} {a : Int} (h : sumEndS ss a < 0) : namesS ss a = [] := by unfold namesS; rw [signs_no h]; rfl
theorem names_tree {ss : List Txt} {k : Nat} {t : Sum} (h : SumAt ss k t) : namesS ss (k : Int) = putAll (t.flat.filter nameB) := by unfold namesS; rw [signs_tree h]
theorem putAll_le (l : List Txt) (p : Nat) : (putAll ((l.take p).filter nameB)).length ≤ p := by
  have h1 := putAll_len ((l.take p).filter nameB) []
  have h2 := List.length_filter_le nameB (l.take p)
  rw [List.length_take] at h2
  unfold putAll
  simp at h1
  omega

set_option maxHeartbeats 4000000 in
theorem sNamesIn_any (B : Nat) (v : Value) (ss : List Txt) (a : Int) (w : World) (h : SeeV w B v (ss.map str)) (hB : B ≤ w.heap.size) (hS : shortS ss) (hn : ss.length ≤ 1048576) :
    Calls Tryz.prog 121 #[v, .int .i64 a] w (PutOut w.heap.size (namesS ss a) w) := by
  obtain ⟨A, c, e⟩ := strs_shape h
  subst e
  have bA : Below w.heap.size w (w.alloc (.cells #[] 9)) := (Below.refl _ w).alloc (Nat.le_refl _) _
  have oA := OwnV.empty w w.heap.size 9 (Nat.le_refl _)
  rcases end_dec ss a with hq | hq
  · have HE := Lib.hid (names_no (show sumEndS ss a < 0 by omega))
    have HQ := Lib.hid hq
    clear hq
    rw [HE.out]
    go_enter Tryz.func121, Tryz.ntmps121
    go_wp2_with fail
    generalize w.alloc _ = WA at bA oA ⊢
    refine (sSumEnd_any B _ ss a _ (h.below (bA.mono hB)) (Nat.le_trans hB bA.size) hS hn).mono ?_
    rintro e w1 ⟨rfl, b1⟩
    rw [HQ.out]
    have o1 := oA.later b1
    replace b1 := below_then bA b1 (Nat.le_refl _)
    go_wp2_with fail
    go_loopw [1, 5] (fun i j wr => i = .int .i64 a ∧ j = .slice (some ⟨w.heap.size, 0, none⟩) 0 0 ∧ wr = w1) (fun _ _ _ => 0)
    case atStart => exact ⟨rfl, rfl, rfl⟩
    case round =>
      obtain ⟨rfl, rfl, rfl⟩ := hrel
      by_cases ha : a < 0
      · have hd : decide (0 ≤ a) = false := by simp; omega
        go_wp2_with fail
        go_ret
        exact ⟨_, _, rfl, o1, b1⟩
      · have hd : decide (0 ≤ a) = true := by simp; omega
        go_wp2_with fail
        go_ret
        exact ⟨_, _, rfl, o1, b1⟩
  · obtain ⟨k, t, rfl, ht⟩ := sum_of_end hq
    have HT := Lib.hid ht
    have HQ := Lib.hid (sum_end ht)
    have hl := sum_len ht
    have HM := Lib.hid (names_tree ht)
    clear ht hq
    rw [HM.out]
    generalize hm : t.flat.length = m at HQ hl
    have HL := Lib.hid hm
    clear hm
    go_enter Tryz.func121, Tryz.ntmps121
    go_wp2_with fail
    generalize w.alloc _ = WA at bA oA ⊢
    refine (sSumEnd_any B _ ss _ _ (h.below (bA.mono hB)) (Nat.le_trans hB bA.size) hS hn).mono ?_
    rintro e w1 ⟨rfl, b1⟩
    rw [HQ.out]
    have o1 := oA.later b1
    replace b1 := below_then bA b1 (Nat.le_refl _)
    go_wp2_with fail
    go_loopw [1, 5] (fun i j wr => ∃ (p g c : Nat) (xs : List Txt), p ≤ m ∧ i = .int .i64 ((k + p : Nat) : Int) ∧ j = .slice (some ⟨g, 0, none⟩) xs.length c ∧ xs = putAll ((t.flat.take p).filter nameB) ∧ OwnV wr w.heap.size 9 (.slice (some ⟨g, 0, none⟩) xs.length c) (xs.map str) ∧ Below w.heap.size w wr) (fun i _ _ => k + m - (intOf i).toNat)
    case atStart => exact ⟨0, _, _, [], Nat.zero_le _, rfl, rfl, rfl, o1, b1⟩
    case round =>
      obtain ⟨p, g, c2, xs, hp, rfl, rfl, hxs, ho, hbw⟩ := hrel
      have HXS := Lib.hid hxs
      have hlx : xs.length ≤ p := by rw [hxs]; exact putAll_le _ _
      clear hxs
      by_cases hlt : p < m
      · have hx := List.getElem?_eq_getElem (show k + p < ss.length by omega)
        generalize ss[k + p]'(_) = x at hx
        have hsx := hS x (List.mem_of_getElem? hx)
        obtain ⟨g2, o2, rfl, -, hcx⟩ := strs_at (h.below (hbw.mono hB)) hx
        have HX : Hid (t.flat[p]? = some x) := Lib.hid (by rw [← sign_at HT.out (by have := HL.out; omega)]; exact hx)
        clear hx
        cases hnm : nameB x
        · have HE : Hid (xs = putAll ((t.flat.take (p + 1)).filter nameB)) := Lib.hid (by rw [filt_no HX.out hnm]; exact HXS.out)
          have HNM := Lib.hid hnm
          clear hnm
          go_wp2_with fail
          refine (sNameOk_any x hsx _).mono ?_
          rintro e w' ⟨rfl, rfl⟩
          rw [HNM.out]
          go_wp2_with fail
          go_roundw
          case rel => exact ⟨p + 1, g, c2, xs, by omega, by go_num, rfl, HE.out, ho, hbw⟩
          case measure => simp [intOf]; omega
        · have HE : Hid (putS xs x = putAll ((t.flat.take (p + 1)).filter nameB)) := Lib.hid (by rw [putAll_yes HX.out hnm, ← HXS.out])
          have HNM := Lib.hid hnm
          clear hnm
          go_wp2_with fail
          refine (sNameOk_any x hsx _).mono ?_
          rintro e w' ⟨rfl, rfl⟩
          rw [HNM.out]
          go_wp2_with fail
          refine (l6Put_any _ g c2 xs x _ ho hbw.size (by omega)).mono ?_
          rintro e w2 ⟨g3, c3, rfl, o3, b3⟩
          go_wp2_with fail
          go_roundw
          case rel => exact ⟨p + 1, g3, c3, putS xs x, by omega, by go_num, rfl, HE.out, o3, below_then hbw b3 (Nat.le_refl _)⟩
          case measure => simp [intOf]; omega
      · have HE : Hid (xs = putAll (t.flat.filter nameB)) := Lib.hid (by
          have := HXS.out
          rwa [List.take_of_length_le (by have := HL.out; omega)] at this)
        go_wp2_with fail
        go_ret
        rw [← HE.out]
        exact ⟨_, _, rfl, ho, hbw⟩

end Go.Proofs.YtigcbegeaikfcaaGreatDoor

namespace Go.Proofs.YtigcbegeaikfcaaGreatDoor
open Go.RowKit
set_option linter.unusedVariables false

theorem OwnV.apart {w w' : World} {B : Nat} {e : TypeId} {v : Value} {xs : List Value} {row : Option Nat} (h : OwnV w B e v xs) (hg : w.grownBy w' row) (hr : ∀ g, row = some g → g < B) : OwnV w' B e v xs := by
  have hlt := h.lt
  obtain ⟨hl, h⟩ := h
  refine ⟨hl, ?_⟩
  rcases h with h | ⟨b, cap, cur, rfl, hb', hg', h⟩
  · exact .inl h
  · exact .inr ⟨b, cap, cur, rfl, hb', by rw [hg.block b (hlt b rfl).2 (fun e => by have := hr b e.symm; omega)]; exact hg', h⟩
theorem names_le (ss : List Txt) (a : Int) : (namesS ss a).length ≤ ss.length := by
  unfold namesS putAll
  have h1 := putAll_len ((signsS ss a).filter nameB) []
  have h2 := List.length_filter_le nameB (signsS ss a)
  have h3 : (signsS ss a).length ≤ ss.length := by
    unfold signsS
    split
    · rw [List.length_take, List.length_drop]; omega
    · simp
  simp at h1
  omega

end Go.Proofs.YtigcbegeaikfcaaGreatDoor
