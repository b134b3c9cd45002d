/- A range over a function whose calls of yield are known one by one, by their number: the k-th round is handed arg k. (The kit's laws ask the round at every value of a type; where a round is safe only at the value that comes next, that is too much.) No program is named here. -/
import Derived.RangeFuncBox
import Derived.RangeFuncLeaves
import Derived.RangeFuncCalls
import Derived.Shelf.Abstract
import Derived.WalkKit
import Derived.OwnWalkIn
import Derived.TacticsInMore
import Derived.LoopNIn
import Derived.LoopIn
import Derived.Sort.QuietIn
namespace Go.Proofs.YtblnonlcjfcblaaGreatDoor
open Go.RowKit
set_option linter.unusedVariables false

/-- Function g (with lb captured), handed a yield: it calls it with arg 0, arg 1 .. one behind the other, N times at most, until a round says no more; a round that goes on keeps Kp. -/
def Feeds (n : Nat) (P : Program) (g : Nat) (lb : Array Value) (N : Nat) (arg : Nat → Array Value) (Kp : World → World → Prop) (w : World) : Prop :=
  ∀ (l : Nat) (J : Nat → World → Prop) (Jx : World → Prop) (W : World), Below w.heap.size w W →
    (∀ k W1, k < N → J k W1 → YieldAt Fence.wide (n - 1) P l (arg k) W1 fun e W' => (e = .returned (.bool true) ∧ J (k + 1) W' ∧ Kp W1 W') ∨ (e = .returned (.bool false) ∧ Jx W')) →
    J 0 W → CallsIn Fence.wide n P g (#[.func (.yield l) #[] #[]] ++ lb) W fun e W' => (∃ v, e = .returned v) ∧ (J N W' ∨ Jx W')

/-- How round k may be left: it goes on, or it returns. -/
def RoundOut (B : Nat) (Kp : World → World → Prop) (I : World → Prop) (Ix : World → Prop) (W : World) : Exit → Act → World → Prop
  | .normal, _, W' => KeepsFrom B W W' ∧ Kp W W' ∧ I W'
  | .ret, _, W' => KeepsFrom B W W' ∧ Ix W'
  | _, _, _ => False

/-- The marks that an outermost loop leaves. -/
def marked (D : Nat) (a : Act) : Act := { a with defers := { target := .collected D, args := #[] } :: a.defers }

theorem wp_feeds {P : Program} {n : Nat} {g : Operand} {ps : Array Tmp} {assign body : Code} {Q : Exit → Act → World → Prop} {a : Act} {w : World} (h1 : 1 ≤ n) {gf : Nat} {lb : Array Value} (hg : a.eval g = .func (.func gf) #[] lb)
    (eg : ∀ args w, (callFunc gf args).run P w = .ok (.enter gf args) w) {N : Nat} {arg : Nat → Array Value} {Kp : World → World → Prop} (hfeed : Feeds (n - 1) P gf lb N arg Kp w) (hKt : ∀ {X Y Z : World}, Kp X Y → Kp Y Z → Kp X Z)
    (hKp : ∀ (X : World) (l : Nat) (o o' : Obj), w.heap.size ≤ l → X.heap[l]? = some o → o.isCells = false → Kp X (X.putObj l o')) (hps : ∀ k, k < N → (arg k).size = ps.size)
    (I : Nat → World → Prop) (Ix : World → Prop) (hI : OwnFrom w.heap.size I) (hIx : OwnFrom w.heap.size (fun (_ : Unit) => Ix)) (h0 : I 0 w) (a₁ : Nat → Act)
    (hassign : ∀ (l k : Nat) (W : World) (K : Act → World → Prop), k < N → K (a₁ k) W →
      assign.wpIn (Fence.wide.inRound l) (n - 1 - 1) P (Exit.then K (fun _ _ _ => False)) { tmps := (ps.zip (arg k)).foldl (fun t (p, v) => t.setIfInBounds p v) a.tmps, defers := [] } W)
    (hbody : ∀ (l k : Nat) (W : World), k < N → I k W → body.wpIn (Fence.wide.inRound l) (n - 1 - 1) P (RoundOut w.heap.size Kp (I (k + 1)) Ix W) (a₁ k) W)
    (hdone : ∀ (D : Nat) (W : World), w.heap.size ≤ D → I N W → W.heap[D]? = some (.deferred (some [])) → Q .normal (marked D a) W)
    (hstop : ∀ (D : Nat) (W : World), w.heap.size ≤ D → Ix W → W.heap[D]? = some (.deferred (some [])) → Code.ret.wpIn Fence.wide n P Q (marked D a) W) :
    (Code.rangeFunc g ps assign body).wpIn Fence.wide n P Q a w := by
  refine wpIn_rangeFunc fun fn hfn => ?_
  -- the loop's record, in a state and with a jump that waits
  let rc : LoopState → Option Code → Loop := fun st pe => { state := st, pending := pe, fn, tmps := a.tmps, params := ps, assign, body, defers := w.heap.size }
  let dn := w.heap.size
  have enter := run_enterLoop_outer (P := P) (w := w) fn a.tmps ps assign body
  obtain ⟨W1, e1⟩ : ∃ W1, W1 = (w.alloc (.deferred (some []))).alloc (.loop (rc .ready none)) := ⟨_, rfl⟩
  have old1 : Below w.heap.size w W1 := by rw [e1]; exact ((Below.refl _ w).alloc (Nat.le_refl _) _).alloc (by simp) _
  have rec1 : W1.heap[dn + 1]? = some (.loop (rc .ready none)) := by
    have := World.alloc_heap_new (w.alloc (.deferred (some []))) (.loop (rc .ready none))
    rw [World.size_alloc] at this
    rw [e1]; exact this
  have def1 : W1.heap[dn]? = some (.deferred (some [])) := by
    rw [e1, Below.heap_alloc _ _ _ (by simp [dn])]
    exact World.alloc_heap_new w _
  have inv1 : I 0 W1 := by rw [e1]; exact hI.alloc _ (hI.alloc _ h0)
  refine ⟨dn + 1, [{ target := .collected dn, args := #[] }], W1, { target := .fn (.func gf) lb, args := #[.func (.yield (dn + 1)) #[] #[]] }, W1, gf, #[.func (.yield (dn + 1)) #[] #[]] ++ lb, W1, by rw [e1]; exact enter, ?_, fun f' _ => trivial, ?_, fun _ => h1, ?_⟩
  · simp only [resolve, hg]
    simp [go_sem]
  · simp [invoke, go_sem, eg]
  refine (hfeed (dn + 1) (fun k W => I k W ∧ W.heap[dn + 1]? = some (.loop (rc .ready none)) ∧ W.heap[dn]? = some (.deferred (some [])))
    (fun W => Ix W ∧ W.heap[dn + 1]? = some (.loop (rc .done (some .ret))) ∧ W.heap[dn]? = some (.deferred (some []))) W1 old1 ?_ ⟨inv1, rec1, def1⟩).mono ?_
  · -- one round
    rintro k W hk ⟨hi, hr, hd⟩
    have hy := run_yield (P := P) (args := arg k) hr (hps k hk)
    have lt : dn + 1 < W.heap.size := (Array.getElem?_eq_some_iff.1 hr).1
    refine ⟨fn, _, assign, body, hy, roundIn_of_wpIn hfn (hassign _ k W _ hk ⟨_, run_beginRound hr rfl, ?_⟩)⟩
    have busy : (W.putObj (dn + 1) (.loop { rc .ready none with state := .busy })).heap[dn + 1]? = some (.loop { rc .ready none with state := .busy }) := World.putObj_heap_same lt
    have stay : (W.putObj (dn + 1) (.loop { rc .ready none with state := .busy })).heap[dn]? = some (.deferred (some [])) := (World.putObj_heap_other (by omega)).trans hd
    have keep := hKp W (dn + 1) _ (.loop { rc .ready none with state := .busy }) (by omega) hr rfl
    refine wpIn_mono (hbody _ k _ hk (hI.putObj _ hi (by omega) hr rfl)) ?_
    rintro e a3 W3 hp
    cases e with
    | normal =>
      obtain ⟨kf, kb, i3⟩ := hp
      have b3 := kf.same _ _ (by omega) busy rfl
      have d3 := kf.same _ _ (Nat.le_refl _) stay rfl
      refine ⟨_, _, run_endRound none b3, .inl ⟨rfl, ⟨hI.putObj _ i3 (by omega) b3 rfl, ?_, ?_⟩, hKt (hKt keep kb) (hKp _ _ _ _ (by omega) b3 rfl)⟩⟩
      · exact World.putObj_heap_same (Array.getElem?_eq_some_iff.1 b3).1
      · exact (World.putObj_heap_other (by omega)).trans d3
    | ret =>
      obtain ⟨kf, i3⟩ := hp
      have b3 := kf.same _ _ (by omega) busy rfl
      have d3 := kf.same _ _ (Nat.le_refl _) stay rfl
      refine ⟨_, _, run_endRound (some .ret) b3, .inr ⟨rfl, hIx.putObj (s := ()) _ i3 (by omega) b3 rfl, ?_, ?_⟩⟩
      · exact World.putObj_heap_same (Array.getElem?_eq_some_iff.1 b3).1
      · exact (World.putObj_heap_other (by omega)).trans d3
    | exit id => exact hp.elim
    | goto t => exact hp.elim
    | panic ch => exact hp.elim
    | outgrown => exact hp.elim
  · -- behind the iterator
    rintro e W2 ⟨⟨v, rfl⟩, ⟨hi, hr, hd⟩ | ⟨hi, hr, hd⟩⟩
    · exact ⟨none, _, run_endLoop hr (by simp [rc]), hdone dn _ (Nat.le_refl _) (hI.putObj _ hi (by omega) hr rfl) ((World.putObj_heap_other (by omega)).trans hd)⟩
    · exact ⟨some .ret, _, run_endLoop hr (by simp [rc]), hstop dn _ (Nat.le_refl _) (hIx.putObj (s := ()) _ hi (by omega) hr rfl) ((World.putObj_heap_other (by omega)).trans hd)⟩
/-! A region that draws its order, in a round: as outside one, where no operation is a 'defer'. -/
def noDeferB (o : Oper) : Bool := match o.op with
  | .defer _ => false
  | _ => true
theorem noDefer_of {o : Oper} (h : noDeferB o = true) : ∀ c, o.op ≠ .defer c := by
  intro c e
  unfold noDeferB at h
  rw [e] at h
  cases h
theorem opIn_round {F : Fence} {l n : Nat} {P : Program} {o : Oper} {a : Act} {w : World} {K : Act → World → Prop} {Q : Exit → Act → World → Prop} (hnd : ∀ c, o.op ≠ .defer c) (hro : F.round = none) (h : o.wpIn F n P a w K Q) : o.wpIn (F.inRound l) n P a w K Q := by
  unfold Oper.wpIn at *
  rw [hro, Oper.semAt_none] at h
  rw [Oper.semAt_plain (F.inRound l) _ _ hnd]
  exact h
theorem anyIn_round {F : Fence} {l n : Nat} {P : Program} {md : Region.Mode} {ops : Array Oper} {Q : Exit → Act → World → Prop} (hnd : ∀ (i : Nat) (o : Oper), ops[i]? = some o → ∀ c, o.op ≠ .defer c) (hro : F.round = none) :
    ∀ (fuel : Nat) (listed : Array Bool) (a : Act) (w : World), wpAnyIn F n P md ops Q fuel listed a w → wpAnyIn (F.inRound l) n P md ops Q fuel listed a w
  | 0, _, _, _, h => h
  | fuel + 1, listed, a, w, h => ⟨h.1, fun i hi => by
    have h2 := h.2 i hi
    unfold wpOpIn at h2 ⊢
    cases ho : ops[i]? with
    | none =>
      simp only [ho] at h2 ⊢
      exact anyIn_round hnd hro fuel _ a w h2
    | some o =>
      simp only [ho] at h2 ⊢
      by_cases hw : Region.wanted o (yielded ops a.tmps) = true
      · rw [if_pos hw] at h2 ⊢
        exact opIn_round (hnd i o ho) hro (Oper.wpIn_mono (fun a' w' q => anyIn_round hnd hro fuel _ a' w' q) h2)
      · rw [if_neg hw] at h2 ⊢
        exact ⟨h2.1, anyIn_round hnd hro fuel _ _ _ h2.2⟩⟩
/-- One walk of the lexical order serves every order, in a round. -/
theorem region_quiet_round {n : Nat} {P : Program} {id l : Nat} {Q : Exit → Act → World → Prop} {a : Act} {w : World} {L : List Oper} (hnd : L.all noDeferB = true) (hm : P.follows .mixedOrders = true) (hB : Region.lexB .any L.toArray = true)
    (h : wpQuietIn Fence.wide n P L.toArray (fun w' => ∃ n, w' = w.drewN n) (fun a' => ∀ w', (∃ n, w' = w.drewN n) → Q .normal a' w') L a) : (Code.region id L.toArray true).wpIn (Fence.wide.inRound l) n P Q a w := by
  simp only [Region.lexB, Bool.and_eq_true] at hB
  have hnd' : ∀ (i : Nat) (o : Oper), L.toArray[i]? = some o → ∀ c, o.op ≠ .defer c := fun i o ho => noDefer_of (List.all_eq_true.1 hnd o (by
    rw [List.getElem?_toArray] at ho
    exact List.mem_of_getElem? ho))
  refine wpIn_region_any hm (anyIn_round hnd' rfl _ _ _ _ (wpAnyIn_of_quiet (C := fun w' => ∃ n, w' = w.drewN n) (Q := fun a' => ∀ w', (∃ n, w' = w.drewN n) → Q .normal a' w') rfl (fun _ w' hw' h => h w' hw') _ _ _ _ ⟨1, rfl⟩ ?_))
  have := wpAnyQIn_lex (F := Fence.wide) (n := n) (P := P) (C := fun w' => ∃ n, w' = w.drewN n) (Q := fun a' => ∀ w', (∃ n, w' = w.drewN n) → Q .normal a' w') (md := .any) hB.1 L.toArray.toList 0 (Array.replicate L.toArray.size false) a (by simp) (by simpa using hB.2) (by simpa using h)
  simpa using this

end Go.Proofs.YtblnonlcjfcblaaGreatDoor
