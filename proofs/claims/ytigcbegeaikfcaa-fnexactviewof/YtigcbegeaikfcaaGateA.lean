/- Gates: what they are (twins), and the model's GatesOk, MaySee. -/
import Derived.Test.YtigcbegeaikfcaaLatN
namespace Go.Proofs.Ytigcbegeaikfcaa
open Go.RowKit
set_option linter.unusedVariables false

/-- Ranks there are. -/
def ranksS (us gs : List Int) : Bool := gs.all (isR us)
/-- Right gates. -/
def gatesS (us gs : List Int) : Bool := latS us && (ranksS us gs && inB gs.length 1 4)
def seeP (us gs : List Int) (r : Int) : Int → Bool := fun g => belowS us (gs.getD g.toNat 0) r
def ownP (gs : List Int) (r : Int) : Int → Bool := fun g => gs.getD g.toNat 0 == r
def isG (gs : List Int) (g : Int) : Bool := decide (0 ≤ g ∧ g < gs.length)
def maySeeS (us gs : List Int) (r g : Int) : Bool := gatesS us gs && isG gs g && seeP us gs r g
def seenS (us gs : List Int) (r : Int) : List Int := if gatesS us gs then sel (seeP us gs r) gs.length else []
def ownS (us gs : List Int) (r : Int) : List Int := if gatesS us gs then sel (ownP gs r) gs.length else []
/-- Right gates, and a rank there is. -/
def rightS (us gs : List Int) (r : Int) : Bool := gatesS us gs && isR us r

/-- An order lies in a variable, its row older; so does the gates' row. -/
structure Sg (w0 : World) (o : Nat) (v u : Value) (us gs : List Int) (W : World) : Prop where
  cell : W.cell? ⟨o, 0, none⟩ = some v
  see : SeeI W o v us
  gat : SeeI W o u gs
  lt : o < W.heap.size
  old : Below w0.heap.size w0 W
theorem Sg.next {w0 W W' : World} {o : Nat} {v u : Value} {us gs : List Int} (h : Sg w0 o v u us gs W) (hb : Below W.heap.size W W') : Sg w0 o v u us gs W' :=
  ⟨(hb.cell (p := ⟨o, 0, none⟩) h.lt).trans h.cell, h.see.below (hb.mono (Nat.le_of_lt h.lt)), h.gat.below (hb.mono (Nat.le_of_lt h.lt)), Nat.lt_of_lt_of_le h.lt hb.size, below_then h.old hb (Nat.le_refl _)⟩
theorem Sg.box {w : World} {B : Nat} {v u : Value} {us gs : List Int} (hs : SeeI w B v us) (ht : SeeI w B u gs) (hB : B ≤ w.heap.size) (t : TypeId) : Sg w w.heap.size v u us gs (w.alloc (.cells #[v] t)) :=
  ⟨cell_of_row _ _ 0 _ _ (0, 0) (heap_alloc_new _ _), (hs.alloc hB _).more hB, (ht.alloc hB _).more hB, by simp, (Below.refl _ _).alloc (Nat.le_refl _) _⟩
theorem Sg.le {w0 W : World} {o : Nat} {v u : Value} {us gs : List Int} (h : Sg w0 o v u us gs W) : o ≤ W.heap.size := Nat.le_of_lt h.lt

theorem ranksS_no {us gs : List Int} {k : Nat} {x : Int} (hx : gs[k]? = some x) (h : isR us x = false) : ranksS us gs = false := by
  simp only [ranksS, List.all_eq_false]
  exact ⟨x, List.mem_of_getElem? hx, by simp [h]⟩
theorem take_all {gs : List Int} {p : Int → Bool} {k : Nat} {x : Int} (hx : gs[k]? = some x) (h : (gs.take k).all p = true) (hp : p x = true) : (gs.take (k + 1)).all p = true := by
  rw [List.take_add_one, hx, List.all_append, h]; simp [hp]

set_option maxHeartbeats 1000000 in
theorem l4Gates_any (B : Nat) (v u : Value) (us gs : List Int) (w : World) (hs : SeeI w B v us) (ht : SeeI w B u gs) (hB : B ≤ w.heap.size) :
    Calls Try.prog 50 #[.agg #[v], u] w (BoolOf w (ranksS us gs && inB gs.length 1 4)) := by
  have S0 := Sg.box hs ht hB 30
  obtain ⟨A, c, rfl⟩ := hs.shape
  obtain ⟨A', c', rfl⟩ := ht.shape
  have hm := hs.1
  have hm' := ht.1
  unfold maxLen at hm'
  clear hs ht
  go_enter Try.func50, Try.ntmps50
  go_wp2_with fail
  generalize w.alloc _ = W at S0 ⊢
  generalize w.heap.size = o at S0 ⊢
  go_loopw [5] (fun i wr => ∃ k : Nat, k ≤ gs.length ∧ i = .int .i64 k ∧ (gs.take k).all (isR us) = true ∧ Sg w o (.slice A us.length c) (.slice A' gs.length c') us gs wr) (fun i _ => gs.length - (intOf i).toNat)
  case atStart => exact ⟨0, Nat.zero_le _, rfl, rfl, S0⟩
  case round =>
    obtain ⟨k, hk, rfl, hA, S1⟩ := hrel
    have HA := Lib.hid hA
    clear S0 hA
    by_cases hlt : k < gs.length
    · obtain ⟨g, p, x, rfl, -, hx, hcx⟩ := S1.gat.at_ hlt
      have T1 : Hid (∀ i : Later wr, Calls Try.prog 57 #[.agg #[.slice A us.length c], .int .i64 x] i.now (BoolOf i.now (isR us x))) := Lib.hid fun i => l2Has_any _ us _ hm _ _
      have d0 := later_cell S1.cell
      have dx := later_cell hcx
      have i1 : (k : Int) < gs.length := by omega
      cases hr : isR us x
      · have HE := Lib.hid (ranksS_no hx hr)
        rw [hr] at T1
        clear hx hr
        go_wp2_with fail
        refine region_later (by kernel_rfl) (by kernel_rfl) ?_
        repeat (go_big_quiet_step ((go_at_call 57; exact later_call (T1.out _))))
        refine wpQuiet_nil ?_
        rintro w2 ⟨⟨_, hbk⟩, rfl⟩
        go_wp2_with fail
        go_ret
        exact ⟨by rw [HE.out]; rfl, (S1.next hbk).old⟩
      · have HR := Lib.hid (take_all hx HA.out hr)
        rw [hr] at T1
        clear hx hr
        go_wp2_with fail
        refine region_later (by kernel_rfl) (by kernel_rfl) ?_
        repeat (go_big_quiet_step ((go_at_call 57; exact later_call (T1.out _))))
        refine wpQuiet_nil ?_
        rintro w2 ⟨⟨_, hbk⟩, rfl⟩
        have S2 := S1.next hbk
        clear S1 hbk d0 dx T1
        go_wp2_with fail
        go_roundw
        case rel => exact ⟨k + 1, by omega, by go_num, HR.out, S2⟩
        case measure => simp [intOf]; omega
    · have HE : Hid (ranksS us gs = true) := Lib.hid (by
        have := HA.out
        rwa [List.take_of_length_le (by omega)] at this)
      go_wp2_with fail
      refine (in_any _ _ _ _).mono ?_
      rintro e w' ⟨rfl, rfl⟩
      go_wp2_with fail
      go_ret
      exact ⟨by rw [HE.out]; rfl, S1.old⟩

set_option maxHeartbeats 1000000 in
theorem sGatesOk_any (B : Nat) (v u : Value) (us gs : List Int) (w : World) (hs : SeeI w B v us) (ht : SeeI w B u gs) (hB : B ≤ w.heap.size) :
    Calls Try.prog 25 #[.agg #[v], u] w (BoolOf w (gatesS us gs)) := by
  have S0 := Sg.box hs ht hB 30
  obtain ⟨A, c, rfl⟩ := hs.shape
  obtain ⟨A', c', rfl⟩ := ht.shape
  clear hs ht
  go_enter Try.func25, Try.ntmps25
  have c0 := S0.cell
  go_wp2_with fail
  generalize w.alloc _ = W at S0 c0 ⊢
  generalize w.heap.size = o at S0 c0 ⊢
  refine (sLatticeOk_any o _ us _ S0.see S0.le).mono ?_
  rintro e w1 ⟨rfl, hb1⟩
  have S1 := S0.next hb1
  have c1 := S1.cell
  clear S0 c0 hb1
  cases hl : latS us
  · have HE : Hid (gatesS us gs = false) := Lib.hid (by simp [gatesS, hl])
    go_wp2_with fail
    go_ret
    exact ⟨by rw [HE.out]; rfl, S1.old⟩
  · have HE : Hid (gatesS us gs = (ranksS us gs && inB gs.length 1 4)) := Lib.hid (by simp [gatesS, hl])
    clear hl
    go_wp2_with fail
    refine (l4Gates_any o _ _ us gs _ S1.see S1.gat S1.le).mono ?_
    rintro e w2 ⟨rfl, hb2⟩
    have S2 := S1.next hb2
    go_wp2_with fail
    go_ret
    exact ⟨by rw [HE.out]; rfl, S2.old⟩

theorem right_rank {us gs : List Int} {r : Int} (h : rightS us gs r = true) : ∃ b : Nat, r = b ∧ b < us.length ∧ us.length ≤ 6 := by
  simp only [rightS, gatesS, Bool.and_eq_true] at h
  obtain ⟨b, e, hb⟩ := isR_nat h.2
  exact ⟨b, e, hb, (lat_ord h.1.1).len.2⟩
theorem right_gate {us gs : List Int} {r : Int} (h : rightS us gs r = true) {k : Nat} {x : Int} (hx : gs[k]? = some x) : ∃ a : Nat, x = a ∧ a < us.length := by
  simp only [rightS, gatesS, Bool.and_eq_true, ranksS, List.all_eq_true] at h
  exact isR_nat (h.1.2.1 x (List.mem_of_getElem? hx))
theorem right_up {us gs : List Int} {a b : Nat} (h : rightS us gs b = true) (ha : a < us.length) (hb : b < us.length) : belowS us a b = upB us a b := by
  simp only [rightS, gatesS, Bool.and_eq_true] at h
  exact below_of ((ordS_iff us).2 (lat_ord h.1.1)) ha hb
theorem not_right_see {us gs : List Int} {r g : Int} (h : rightS us gs r = false) : maySeeS us gs r g = false := by
  simp only [rightS, maySeeS, seeP, belowS] at h ⊢
  cases h1 : gatesS us gs
  · simp
  · rw [h1, Bool.true_and] at h; simp [h]

end Go.Proofs.Ytigcbegeaikfcaa
