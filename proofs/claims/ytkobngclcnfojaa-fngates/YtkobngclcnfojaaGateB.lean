/- The model's MaySee, SeenBy and OwnOf. -/
import Derived.Test.YtkobngclcnfojaaGateA
namespace Go.Proofs.Ytkobngclcnfojaa
open Go.RowKit
set_option linter.unusedVariables false

theorem see_of {us gs : List Int} {r : Int} {k : Nat} (h : gatesS us gs = true) (hk : k < gs.length) : maySeeS us gs r k = seeP us gs r k := by
  have : isG gs k = true := decide_eq_true (by omega)
  simp only [maySeeS, h, this, Bool.true_and]
theorem right_gates {us gs : List Int} {r : Int} (h : rightS us gs r = true) : gatesS us gs = true := by
  simp only [rightS, Bool.and_eq_true] at h; exact h.1
theorem seeP_at {us gs : List Int} {r : Int} {k : Nat} {x : Int} (hx : gs[k]? = some x) : seeP us gs r k = belowS us x r := by
  simp [seeP, hx]
theorem ownP_at {gs : List Int} {r : Int} {k : Nat} {x : Int} (hx : gs[k]? = some x) : ownP gs r k = (x == r) := by
  simp [ownP, hx]
theorem see_out {us gs : List Int} {r g : Int} (h : isG gs g = false) : maySeeS us gs r g = false := by
  simp [maySeeS, h]

set_option maxHeartbeats 2000000 in
theorem sMaySee_any (B : Nat) (v u : Value) (us gs : List Int) (r g : Int) (w : World) (hs : SeeI w B v us) (ht : SeeI w B u gs) (hB : B ≤ w.heap.size) :
    Calls Try.prog 13 #[.agg #[v], u, .int .i64 r, .int .i64 g] w (BoolOf w (maySeeS us gs r g)) := by
  have S0 := Sg.box hs ht hB 26
  obtain ⟨A, c, rfl⟩ := hs.shape
  obtain ⟨A', c', rfl⟩ := ht.shape
  have hm' := ht.1
  unfold maxLen at hm'
  clear hs ht
  go_enter Try.func13, Try.ntmps13
  have c0 := S0.cell
  go_wp2_with fail
  generalize w.alloc _ = W at S0 c0 ⊢
  generalize w.heap.size = o at S0 c0 ⊢
  have d0 := later_cell c0
  have T1 : Hid (∀ i : Later W, Calls Try.prog 38 #[.agg #[.slice A us.length c], .slice A' gs.length c', .int .i64 r] i.now (BoolOf i.now (rightS us gs r))) := Lib.hid fun i => by
    have := S0.next i.old; exact l4Right_any o _ _ us gs r _ this.see this.gat this.le
  cases hr : rightS us gs r
  · have HE := Lib.hid (not_right_see (g := g) hr)
    rw [hr] at T1
    clear hr
    refine region_later (by kernel_rfl) (by kernel_rfl) ?_
    repeat (go_big_quiet_step ((go_at_call 38; exact later_call (T1.out _))))
    refine wpQuiet_nil ?_
    rintro w2 ⟨⟨_, hbk⟩, rfl⟩
    go_wp2_with fail
    go_ret
    exact ⟨by rw [HE.out]; rfl, (S0.next hbk).old⟩
  · rw [hr] at T1
    by_cases h0 : 0 ≤ g
    · have h0' : decide (0 ≤ g) = true := decide_eq_true h0
      by_cases h1 : g < gs.length
      · have h1' : decide (g < (gs.length : Int)) = true := decide_eq_true h1
        obtain ⟨k, rfl⟩ := Int.eq_ofNat_of_zero_le h0
        obtain ⟨b, rfl, hb, h6⟩ := right_rank hr
        obtain ⟨q, p, x, rfl, -, hx, hcx⟩ := S0.gat.at_ (k := k) (by omega)
        obtain ⟨a, rfl, ha⟩ := right_gate hr hx
        have HE : Hid (maySeeS us gs b k = upB us a b) := Lib.hid (by rw [see_of (right_gates hr) (by omega), seeP_at hx, right_up hr ha hb])
        have T2 : Hid (∀ i : Later W, Calls Try.prog 39 #[.agg #[.slice A us.length c], .int .i64 a, .int .i64 b] i.now (BoolOf i.now (upB us a b))) := Lib.hid fun i => by
          have := S0.next i.old; exact l2Below_any o _ us a b ha (by omega) _ this.see this.le
        have dx := later_cell hcx
        clear hr hx
        refine region_later (by kernel_rfl) (by kernel_rfl) ?_
        repeat (go_big_quiet_step (first | (go_at_call 38; exact later_call (T1.out _)) | (go_at_call 39; exact later_call (T2.out _))))
        refine wpQuiet_nil ?_
        rintro w2 ⟨⟨_, hbk⟩, rfl⟩
        go_wp2_with fail
        go_ret
        exact ⟨by rw [HE.out]; rfl, (S0.next hbk).old⟩
      · have h1' : decide (g < (gs.length : Int)) = false := decide_eq_false h1
        have HE := Lib.hid (see_out (us := us) (gs := gs) (r := r) (g := g) (decide_eq_false (by omega)))
        clear hr
        refine region_later (by kernel_rfl) (by kernel_rfl) ?_
        repeat (go_big_quiet_step ((go_at_call 38; exact later_call (T1.out _))))
        refine wpQuiet_nil ?_
        rintro w2 ⟨⟨_, hbk⟩, rfl⟩
        go_wp2_with fail
        go_ret
        exact ⟨by rw [HE.out]; rfl, (S0.next hbk).old⟩
    · have h0' : decide (0 ≤ g) = false := decide_eq_false h0
      have HE := Lib.hid (see_out (us := us) (gs := gs) (r := r) (g := g) (decide_eq_false (by omega)))
      clear hr
      refine region_later (by kernel_rfl) (by kernel_rfl) ?_
      repeat (go_big_quiet_step ((go_at_call 38; exact later_call (T1.out _))))
      refine wpQuiet_nil ?_
      rintro w2 ⟨⟨_, hbk⟩, rfl⟩
      go_wp2_with fail
      go_ret
      exact ⟨by rw [HE.out]; rfl, (S0.next hbk).old⟩

/-- A row of the call's own is handed back. -/
def IntsOut (w : World) (zs : List Int) (e : Ending) (w' : World) : Prop := ∃ v, e = .returned v ∧ OwnI w' w.heap.size 2 v zs ∧ Below w.heap.size w w'

theorem sel_none {p : Int → Bool} {k : Nat} (h : ∀ j : Nat, j < k → p j = false) : sel p k = [] := by
  induction k with
  | zero => rfl
  | succ k ih => rw [sel_no (h k (by omega)), ih fun j hj => h j (by omega)]
theorem seen_not {us gs : List Int} {r : Int} (h : rightS us gs r = false) : seenS us gs r = [] := by
  simp only [seenS]
  split
  · rename_i hg
    simp only [rightS, hg, Bool.true_and] at h
    exact sel_none fun j hj => by simp [seeP, belowS, h]
  · rfl
theorem own_not {us gs : List Int} {r : Int} (h : rightS us gs r = false) : ownS us gs r = [] := by
  simp only [ownS]
  split
  · rename_i hg
    have hg' := hg
    simp only [rightS, hg, Bool.true_and] at h
    simp only [gatesS, Bool.and_eq_true, ranksS, List.all_eq_true] at hg'
    refine sel_none fun j hj => ?_
    have hx : gs[j]? = some gs[j] := List.getElem?_eq_getElem hj
    rw [ownP_at hx]
    have := hg'.2.1 gs[j] (List.getElem_mem _)
    by_cases e : gs[j] = r
    · rw [e, h] at this; cases this
    · simpa using e
  · rfl
theorem seen_yes {us gs : List Int} {r : Int} (h : rightS us gs r = true) : seenS us gs r = sel (seeP us gs r) gs.length := by simp [seenS, right_gates h]
theorem own_yes {us gs : List Int} {r : Int} (h : rightS us gs r = true) : ownS us gs r = sel (ownP gs r) gs.length := by simp [ownS, right_gates h]

theorem gates_four {us gs : List Int} (h : gatesS us gs = true) : gs.length ≤ 4 := by
  simp only [gatesS, Bool.and_eq_true, inB, decide_eq_true_eq] at h
  omega
theorem right_four {us gs : List Int} {r : Int} (h : rightS us gs r = true) : gs.length ≤ 4 := by
  have := right_gates h
  simp only [gatesS, Bool.and_eq_true, inB, decide_eq_true_eq] at this
  omega
theorem Sg.push {w0 W W' : World} {o : Nat} {v u : Value} {us gs : List Int} (h : Sg w0 o v u us gs W) (h0 : w0.heap.size ≤ o) {ob : Obj} {row : Option Nat} (hg : (W.alloc ob).grownBy W' row) (hr : ∀ g, row = some g → o < g) : Sg w0 o v u us gs W' := by
  have hlt := h.lt
  have ho : o < (W.alloc ob).heap.size := by simp; omega
  refine ⟨?_, ?_, ?_, Nat.lt_of_lt_of_le ho hg.size, ?_⟩
  · rw [World.cell?_of_block (hg.block o ho (fun e => by have := hr o e.symm; omega)), World.cell?_alloc_lt _ _ _ (by simpa using hlt)]; exact h.cell
  · exact (h.see.alloc h.le ob).grown hg (Nat.le_of_lt ho) (fun g e => Nat.le_of_lt (hr g e))
  · exact (h.gat.alloc h.le ob).grown hg (Nat.le_of_lt ho) (fun g e => Nat.le_of_lt (hr g e))
  · exact (h.old.alloc h.old.size ob).grown hg (by have := h.old.size; simp; omega) (fun g e => by have := hr g e; omega)
theorem own_more {w1 : World} {B : Nat} {e : TypeId} {v' : Value} {zs : List Int} {z : Int} (h1 : w1.ownsRow B e 1 v' (zs.length + 1) (zs.map (Value.int .i64) ++ [.int .i64 z])) : OwnI w1 B e v' (zs ++ [z]) := by
  unfold OwnI
  simpa using h1

set_option maxHeartbeats 4000000 in
set_option maxRecDepth 100000 in
theorem sSeenBy_any (B : Nat) (v u : Value) (us gs : List Int) (r : Int) (w : World) (hs : SeeI w B v us) (ht : SeeI w B u gs) (hB : B ≤ w.heap.size) :
    Calls Try.prog 15 #[.agg #[v], u, .int .i64 r] w (IntsOut w (seenS us gs r)) := by
  have S0 := Sg.box hs ht hB 26
  have O0 := OwnI.empty (w.alloc (.cells #[v] 26)) (w.heap.size + 1) 2 (by simp)
  have S1 := S0.next ((Below.refl _ _).alloc (Nat.le_refl _) (.cells #[] 2))
  rw [World.size_alloc] at O0
  obtain ⟨A, c, rfl⟩ := hs.shape
  obtain ⟨A', c', rfl⟩ := ht.shape
  have hm' := ht.1
  unfold maxLen at hm'
  clear hs ht S0
  obtain ⟨i0, hi, hz0, hz1, hz2⟩ := info_parts Try.infoInt64
  go_enter Try.func15, Try.ntmps15
  go_wp2_with fail
  generalize World.alloc _ (.cells #[] 2) = W at S1 O0 ⊢
  cases hr : rightS us gs r
  · have HE := Lib.hid (seen_not hr)
    go_loopw [7, 8] (fun z i wr => i = .int .i64 0 ∧ z = .slice (some ⟨w.heap.size + 1, 0, none⟩) 0 0 ∧ wr = W) (fun _ _ _ => 0)
    case atStart => exact ⟨rfl, rfl, rfl⟩
    case round =>
      obtain ⟨rfl, rfl, rfl⟩ := hrel
      have c1 := S1.cell
      by_cases hl : 0 < gs.length
      · go_wp2_with fail
        refine (l4Right_any w.heap.size _ _ us gs r _ S1.see S1.gat S1.le).mono ?_
        rintro e w1 ⟨rfl, hb1⟩
        rw [hr]
        go_wp2_with fail
        go_ret
        exact ⟨_, rfl, by rw [HE.out]; exact (own_later O0 hb1).less (by omega), (S1.next hb1).old⟩
      · go_wp2_with fail
        go_ret
        exact ⟨_, rfl, by rw [HE.out]; exact O0.less (by omega), S1.old⟩
  · have HE := Lib.hid (seen_yes hr)
    have h4 : gs.length ≤ 4 := right_four hr
    obtain ⟨b, rfl, hb, h6⟩ := right_rank hr
    have HG : Hid (∀ (k : Nat) (x : Int), gs[k]? = some x → ∃ a : Nat, x = a ∧ a < us.length) := Lib.hid fun k x hx => right_gate hr hx
    have HU : Hid (∀ a : Nat, a < us.length → belowS us a b = upB us a b) := Lib.hid fun a ha => right_up hr ha hb
    have HR := Lib.hid hr
    clear hr
    go_loopw [7, 8] (fun z i wr => ∃ k : Nat, k ≤ gs.length ∧ i = .int .i64 k ∧ OwnI wr (w.heap.size + 1) 2 z (sel (seeP us gs b) k) ∧ Sg w w.heap.size (.slice A us.length c) (.slice A' gs.length c') us gs wr) (fun _ i _ => gs.length - (intOf i).toNat)
    case atStart => exact ⟨0, Nat.zero_le _, rfl, O0, S1⟩
    case round =>
      obtain ⟨k, hk, rfl, o2, S2⟩ := hrel
      clear S1 O0
      have hl := sel_le (seeP us gs b) k
      have c2 := S2.cell
      by_cases hlt : k < gs.length
      · go_wp2_with fail
        refine (l4Right_any w.heap.size _ _ us gs _ _ S2.see S2.gat S2.le).mono ?_
        rintro e w1 ⟨rfl, hb1⟩
        rw [HR.out]
        have o3 := own_later o2 hb1
        have S3 := S2.next hb1
        have c3 := S3.cell
        clear S2 c2 o2 hb1
        obtain ⟨q, p, x, rfl, -, hx, hcx⟩ := S3.gat.at_ hlt
        obtain ⟨a, rfl, ha⟩ := HG.out k x hx
        have i1 : (k : Int) < gs.length := by omega
        have T2 : Hid (∀ i : Later w1, Calls Try.prog 39 #[.agg #[.slice A us.length c], .int .i64 a, .int .i64 b] i.now (BoolOf i.now (upB us a b))) := Lib.hid (fun i => by have := S3.next i.old; exact l2Below_any w.heap.size _ us a b ha (by omega) _ this.see this.le)
        have HX : Hid (seeP us gs b k = upB us a b) := Lib.hid (by rw [seeP_at hx, HU.out a ha])
        clear hx
        cases hp : upB us a b
        · have RR := Lib.hid (sel_no (HX.out.trans hp))
          rw [hp] at T2; have d0 := later_cell c3; have dx := later_cell hcx; (go_wp2_with fail); refine region_later (by kernel_rfl) (by kernel_rfl) ?_; (repeat (go_big_quiet_step ((go_at_call 39; exact later_call (T2.out _))))); refine wpQuiet_nil ?_; rintro w5 ⟨⟨_, hbk⟩, rfl⟩; have o5 := own_later o3 hbk; have S5 := S3.next hbk; clear o3 S3 c3 hcx d0 dx hbk T2
          go_wp2_with fail
          go_roundw
          case rel => exact ⟨k + 1, by omega, by go_num, by rw [RR.out]; exact o5, S5⟩
          case measure => simp [intOf]; omega
        · have RR := Lib.hid (sel_yes (HX.out.trans hp))
          rw [hp] at T2; have d0 := later_cell c3; have dx := later_cell hcx; (go_wp2_with fail); refine region_later (by kernel_rfl) (by kernel_rfl) ?_; (repeat (go_big_quiet_step ((go_at_call 39; exact later_call (T2.out _))))); refine wpQuiet_nil ?_; rintro w5 ⟨⟨_, hbk⟩, rfl⟩; have o5 := own_later o3 hbk; have S5 := S3.next hbk; clear o3 S3 c3 hcx d0 dx hbk T2
          have gz := S5.lt
          go_wp2_with (at_builtin; refine wpList_append_own _ rfl _ _ 24 rfl (w.heap.size + 1) 2 i0 (.int .i64 0) 1 8 Try.underlying24 hi hz0 hz1 hz2 rfl (by decide) _ _ _ rfl (o5.alloc _) ⟨w5.heap.size, 0, none⟩ 1 1 [.int .i64 k] rfl rfl ?c1 ?c2 ?c3 ?c4 ?c5 ?_)
          case c1 =>
            intro j u hj
            match j, hj with
            | 0, hj => simp at hj; subst hj; simp [Addr.add]
          case c2 => intro u hu; simp at hu; subst hu; rfl
          case c3 => unfold maxLen; omega
          case c4 => omega
          case c5 => simp; omega
          intro v' w6 hown' hgrow _
          have o6 := own_more hown'
          have S6 := S5.push (Nat.le_refl _) hgrow (fun g e => (o5.lt g e).1)
          clear hown' hgrow
          go_wp2
          go_roundw
          case rel => exact ⟨k + 1, by omega, by go_num, by rw [RR.out]; exact o6, S6⟩
          case measure => simp [intOf]; omega
      · obtain rfl : k = gs.length := by omega
        go_wp2_with fail
        go_ret
        exact ⟨_, rfl, by rw [HE.out]; exact o2.less (by omega), S2.old⟩

set_option maxHeartbeats 4000000 in
set_option maxRecDepth 100000 in
theorem sOwnOf_any (B : Nat) (v u : Value) (us gs : List Int) (r : Int) (w : World) (hs : SeeI w B v us) (ht : SeeI w B u gs) (hB : B ≤ w.heap.size) :
    Calls Try.prog 16 #[.agg #[v], u, .int .i64 r] w (IntsOut w (ownS us gs r)) := by
  have S0 := Sg.box hs ht hB 26
  have O0 := OwnI.empty (w.alloc (.cells #[v] 26)) (w.heap.size + 1) 2 (by simp)
  have S1 := S0.next ((Below.refl _ _).alloc (Nat.le_refl _) (.cells #[] 2))
  rw [World.size_alloc] at O0
  obtain ⟨A, c, rfl⟩ := hs.shape
  obtain ⟨A', c', rfl⟩ := ht.shape
  have hm' := ht.1
  unfold maxLen at hm'
  clear hs ht S0
  obtain ⟨i0, hi, hz0, hz1, hz2⟩ := info_parts Try.infoInt64
  go_enter Try.func16, Try.ntmps16
  go_wp2_with fail
  generalize World.alloc _ (.cells #[] 2) = W at S1 O0 ⊢
  cases hr : rightS us gs r
  · have HE := Lib.hid (own_not hr)
    go_loopw [7, 8] (fun z i wr => i = .int .i64 0 ∧ z = .slice (some ⟨w.heap.size + 1, 0, none⟩) 0 0 ∧ wr = W) (fun _ _ _ => 0)
    case atStart => exact ⟨rfl, rfl, rfl⟩
    case round =>
      obtain ⟨rfl, rfl, rfl⟩ := hrel
      have c1 := S1.cell
      by_cases hl : 0 < gs.length
      · go_wp2_with fail
        refine (l4Right_any w.heap.size _ _ us gs r _ S1.see S1.gat S1.le).mono ?_
        rintro e w1 ⟨rfl, hb1⟩
        rw [hr]
        go_wp2_with fail
        go_ret
        exact ⟨_, rfl, by rw [HE.out]; exact (own_later O0 hb1).less (by omega), (S1.next hb1).old⟩
      · go_wp2_with fail
        go_ret
        exact ⟨_, rfl, by rw [HE.out]; exact O0.less (by omega), S1.old⟩
  · have HE := Lib.hid (own_yes hr)
    have h4 : gs.length ≤ 4 := right_four hr
    obtain ⟨b, rfl, hb, h6⟩ := right_rank hr
    have HG : Hid (∀ (k : Nat) (x : Int), gs[k]? = some x → ∃ a : Nat, x = a ∧ a < us.length) := Lib.hid fun k x hx => right_gate hr hx
    have HU : Hid (∀ a : Nat, a < us.length → belowS us a b = upB us a b) := Lib.hid fun a ha => right_up hr ha hb
    have HR := Lib.hid hr
    clear hr
    go_loopw [7, 8] (fun z i wr => ∃ k : Nat, k ≤ gs.length ∧ i = .int .i64 k ∧ OwnI wr (w.heap.size + 1) 2 z (sel (ownP gs b) k) ∧ Sg w w.heap.size (.slice A us.length c) (.slice A' gs.length c') us gs wr) (fun _ i _ => gs.length - (intOf i).toNat)
    case atStart => exact ⟨0, Nat.zero_le _, rfl, O0, S1⟩
    case round =>
      obtain ⟨k, hk, rfl, o2, S2⟩ := hrel
      clear S1 O0
      have hl := sel_le (ownP gs b) k
      have c2 := S2.cell
      by_cases hlt : k < gs.length
      · go_wp2_with fail
        refine (l4Right_any w.heap.size _ _ us gs _ _ S2.see S2.gat S2.le).mono ?_
        rintro e w1 ⟨rfl, hb1⟩
        rw [HR.out]
        have o3 := own_later o2 hb1
        have S3 := S2.next hb1
        have c3 := S3.cell
        clear S2 c2 o2 hb1
        obtain ⟨q, p, x, rfl, -, hx, hcx⟩ := S3.gat.at_ hlt
        obtain ⟨a, rfl, ha⟩ := HG.out k x hx
        have i1 : (k : Int) < gs.length := by omega
        skip
        have HX : Hid (ownP gs b k = ((a : Int) == (b : Int))) := Lib.hid (by rw [ownP_at hx])
        clear hx
        cases hp : ((a : Int) == (b : Int))
        · have RR := Lib.hid (sel_no (HX.out.trans hp))
          have o5 := o3; have S5 := S3; generalize hw5 : w1 = w5 at *; clear o3 S3
          go_wp2_with fail
          go_roundw
          case rel => exact ⟨k + 1, by omega, by go_num, by rw [RR.out]; exact o5, S5⟩
          case measure => simp [intOf]; omega
        · have RR := Lib.hid (sel_yes (HX.out.trans hp))
          have o5 := o3; have S5 := S3; generalize hw5 : w1 = w5 at *; clear o3 S3
          have gz := S5.lt
          go_wp2_with (at_builtin; refine wpList_append_own _ rfl _ _ 24 rfl (w.heap.size + 1) 2 i0 (.int .i64 0) 1 8 Try.underlying24 hi hz0 hz1 hz2 rfl (by decide) _ _ _ rfl (o5.alloc _) ⟨w5.heap.size, 0, none⟩ 1 1 [.int .i64 k] rfl rfl ?c1 ?c2 ?c3 ?c4 ?c5 ?_)
          case c1 =>
            intro j u hj
            match j, hj with
            | 0, hj => simp at hj; subst hj; simp [Addr.add]
          case c2 => intro u hu; simp at hu; subst hu; rfl
          case c3 => unfold maxLen; omega
          case c4 => omega
          case c5 => simp; omega
          intro v' w6 hown' hgrow _
          have o6 := own_more hown'
          have S6 := S5.push (Nat.le_refl _) hgrow (fun g e => (o5.lt g e).1)
          clear hown' hgrow
          go_wp2
          go_roundw
          case rel => exact ⟨k + 1, by omega, by go_num, by rw [RR.out]; exact o6, S6⟩
          case measure => simp [intOf]; omega
      · obtain rfl : k = gs.length := by omega
        go_wp2_with fail
        go_ret
        exact ⟨_, rfl, by rw [HE.out]; exact o2.less (by omega), S2.old⟩

end Go.Proofs.Ytkobngclcnfojaa
