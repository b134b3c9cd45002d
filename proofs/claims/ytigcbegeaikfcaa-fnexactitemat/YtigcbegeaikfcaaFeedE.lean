/- Layer 10 (feeds): ItemAt of the model and of the program, by the same function; the walk of FnExactItemAt. No conditions but those typed. -/
import Derived.Test.YtigcbegeaikfcaaFeedD
import Derived.Test.YtigcbegeaikfcaaFeedB
namespace Go.Proofs.Ytigcbegeaikfcaa
open Go.RowKit
set_option linter.unusedVariables false

def itemI (s : List Int) (k : Int) : Int := if 0 ≤ k then s.getD k.toNat 0 else 0
def rowI (ss : List (List Int)) (g : Int) : List Int := if 0 ≤ g then ss.getD g.toNat [] else []
/-- Item k of what a rank sees in slot g; 0 when there is none. -/
def itemAtS (us gs : List Int) (ss : List (List Int)) (r g k : Int) : Int := itemI (rowI (vwS us gs ss r) g) k

set_option maxHeartbeats 1000000 in
theorem itemOfK_any (B : Nat) (v : Value) (s : List Int) (k : Int) (w : World) (h : SeeI w B v s) : Calls Try.prog 47 #[v, .int .i64 k] w fun e w' => e = .returned (.int .i64 (itemI s k)) ∧ w' = w := by
  have hm := h.1
  unfold maxLen at hm
  obtain ⟨A, c, rfl⟩ := h.shape
  by_cases hk0 : k < 0
  · have HX : Hid (itemI s k = 0) := Lib.hid (by unfold itemI; rw [if_neg (by omega)])
    clear h
    go_enter Try.func47, Try.ntmps47
    go_wp2_with fail
    go_ret
    exact ⟨ret_int HX.out.symm, rfl⟩
  obtain ⟨j, rfl⟩ := Int.eq_ofNat_of_zero_le (show 0 ≤ k by omega)
  by_cases hlt : j < s.length
  · have hkl : ¬ ((s.length : Int) ≤ (j : Int)) := by omega
    obtain ⟨g, o, x, rfl, -, hx, hcx⟩ := h.at_ hlt
    have HX : Hid (itemI s j = x) := Lib.hid (by unfold itemI; rw [if_pos (by omega), Int.toNat_natCast, List.getD_eq_getElem?_getD, hx]; rfl)
    clear hx h
    go_enter Try.func47, Try.ntmps47
    go_wp2_with fail
    go_ret
    exact ⟨ret_int HX.out.symm, rfl⟩
  · have hkl : ((s.length : Int) ≤ (j : Int)) := by omega
    have HX : Hid (itemI s j = 0) := Lib.hid (by unfold itemI; rw [if_pos (by omega), Int.toNat_natCast, List.getD_eq_getElem?_getD, List.getElem?_eq_none (by omega)]; rfl)
    clear h
    go_enter Try.func47, Try.ntmps47
    go_wp2_with fail
    go_ret
    exact ⟨ret_int HX.out.symm, rfl⟩

theorem seeI_nil (w : World) (B : Nat) : SeeI w B (.slice none 0 0) [] := ⟨Nat.zero_le _, none, 0, rfl, fun k hk => absurd hk (by simp)⟩
def RowAt (w : World) (B : Nat) (s : List Int) (e : Ending) (w' : World) : Prop := ∃ v, e = .returned v ∧ SeeI w B v s ∧ w' = w
set_option maxHeartbeats 1000000 in
theorem rowOf_any (B : Nat) (v : Value) (ss : List (List Int)) (k : Int) (w : World) (h : SeeSS w B v ss) : Calls Try.prog 48 #[v, .int .i64 k] w (RowAt w B (rowI ss k)) := by
  have hm := h.len
  unfold maxLen at hm
  obtain ⟨A, c, rfl⟩ := h.shape
  by_cases hk0 : k < 0
  · have HX : Hid (rowI ss k = []) := Lib.hid (by unfold rowI; rw [if_neg (by omega)])
    clear h
    go_enter Try.func48, Try.ntmps48
    go_wp2_with fail
    go_ret
    exact ⟨_, rfl, by rw [HX.out]; exact seeI_nil _ _, rfl⟩
  obtain ⟨j, rfl⟩ := Int.eq_ofNat_of_zero_le (show 0 ≤ k by omega)
  by_cases hlt : j < ss.length
  · have hkl : ¬ ((ss.length : Int) ≤ (j : Int)) := by omega
    have hx := List.getElem?_eq_getElem hlt
    generalize ss[j] = s at hx
    obtain ⟨g, o, D, q, rfl, hc, hi⟩ := h.at_ hx
    have HX : Hid (rowI ss j = s) := Lib.hid (by unfold rowI; rw [if_pos (by omega), Int.toNat_natCast, List.getD_eq_getElem?_getD, hx]; rfl)
    clear hx h
    go_enter Try.func48, Try.ntmps48
    go_wp2_with fail
    go_ret
    exact ⟨_, rfl, by rw [HX.out]; exact hi, rfl⟩
  · have hkl : ((ss.length : Int) ≤ (j : Int)) := by omega
    have HX : Hid (rowI ss j = []) := Lib.hid (by unfold rowI; rw [if_pos (by omega), Int.toNat_natCast, List.getD_eq_getElem?_getD, List.getElem?_eq_none (by omega)]; rfl)
    clear h
    go_enter Try.func48, Try.ntmps48
    go_wp2_with fail
    go_ret
    exact ⟨_, rfl, by rw [HX.out]; exact seeI_nil _ _, rfl⟩

set_option maxHeartbeats 1000000 in
theorem iItemAt_any (B : Nat) (v u s : Value) (us gs : List Int) (ss : List (List Int)) (r g k : Int) (w : World) (h1 : SeeI w B v us) (h2 : SeeI w B u gs) (h3 : SeeSN w B s ss) (hB : B ≤ w.heap.size) :
    Calls Try.prog 21 #[.agg #[v, u, s], .int .i64 r, .int .i64 g, .int .i64 k] w fun e w' => e = .returned (.int .i64 (itemAtS us gs ss r g k)) ∧ Below w.heap.size w w' := by
  have S0 := Hn.box h1 h2 h3 hB 32
  obtain ⟨A, c, rfl⟩ := h1.shape
  obtain ⟨A', c', rfl⟩ := h2.shape
  obtain ⟨A2, c2, rfl⟩ := h3.weak.shape
  clear h1 h2 h3
  go_enter Try.func21, Try.ntmps21
  have p0 := S0.hg.c0
  have p1 := S0.hg.c1
  have p2 := S0.hg.c2
  go_wp2_with fail
  generalize w.alloc _ = W at S0 p0 p1 p2 ⊢
  generalize w.heap.size = o at S0 p0 p1 p2 ⊢
  refine (iViewOf_any o _ _ _ us gs ss r _ S0.hg.see S0.hg.gat S0.sn S0.hg.le).mono ?_
  rintro e w1 ⟨v1, vs1, rfl, o1, b1⟩
  have S1 := S0.next b1
  have q1 := o1.see
  clear S0 p0 p1 p2 b1 o1
  have HE : Hid (itemAtS us gs ss r g k = itemI (rowI (vwS us gs ss r) g) k) := Lib.hid rfl
  generalize vwS us gs ss r = vw at *
  obtain ⟨A3, c3, rfl⟩ := q1.shape
  go_wp2_with fail
  refine (rowOf_any _ _ vw g _ q1).mono ?_
  rintro e w' ⟨v2, rfl, q2, rfl⟩
  generalize rowI vw g = rw' at *
  obtain ⟨A4, c4, rfl⟩ := q2.shape
  go_wp2_with fail
  refine (itemOfK_any _ _ rw' k _ q2).mono ?_
  rintro e w' ⟨rfl, rfl⟩
  go_wp2_with fail
  go_ret
  exact ⟨ret_int HE.out.symm, S1.hg.old⟩

set_option maxHeartbeats 2000000 in
theorem l9ItemK_any (B : Nat) (v : Value) (ss : List (List Int)) (g k : Nat) (w : World) (h : SeeSS w B v ss) (hg : g < ss.length) :
    Calls Try.prog 46 #[v, .int .i64 g, .int .i64 k] w fun e w' => e = .returned (.int .i64 (itemS ss g k)) ∧ w = w' := by
  have hl := h.len
  unfold maxLen at hl
  obtain ⟨A, c, rfl⟩ := h.shape
  have hs := List.getElem?_eq_getElem hg
  generalize ss[g] = s at hs
  obtain ⟨b, o, D, q, rfl, hc, hi⟩ := h.at_ hs
  have hm := hi.1
  unfold maxLen at hm
  have HE : Hid (itemS ss g k = s.getD k 0) := Lib.hid (itemS_at hs)
  clear hs h
  by_cases hlt : k < s.length
  · obtain ⟨b2, o2, x, rfl, -, hx, hcx⟩ := hi.at_ hlt
    have HX : Hid (s.getD k 0 = x) := Lib.hid (by rw [List.getD_eq_getElem?_getD, hx]; rfl)
    clear hx hi
    go_enter Try.func46, Try.ntmps46
    go_wp2_with fail
    go_ret
    exact ⟨ret_int (by rw [HE.out, HX.out]), rfl⟩
  · have HX : Hid (s.getD k 0 = 0) := Lib.hid (by rw [List.getD_eq_getElem?_getD, List.getElem?_eq_none (by omega)]; rfl)
    clear hi
    go_enter Try.func46, Try.ntmps46
    go_wp2_with fail
    go_ret
    exact ⟨ret_int (by rw [HE.out, HX.out]), rfl⟩

set_option maxHeartbeats 2000000 in
theorem sItemAt_any (B : Nat) (v u s : Value) (us gs : List Int) (ss : List (List Int)) (r g k : Int) (w : World) (h1 : SeeI w B v us) (h2 : SeeI w B u gs) (h3 : SeeSN w B s ss) (hB : B ≤ w.heap.size) :
    Calls Try.prog 20 #[.agg #[v, u, s], .int .i64 r, .int .i64 g, .int .i64 k] w fun e w' => e = .returned (.int .i64 (itemAtS us gs ss r g k)) ∧ Below w.heap.size w w' := by
  have S0 := Hn.box h1 h2 h3 hB 32
  have hm2 := h2.1
  unfold maxLen at hm2
  obtain ⟨A, c, rfl⟩ := h1.shape
  obtain ⟨A', c', rfl⟩ := h2.shape
  obtain ⟨A2, c2, rfl⟩ := h3.weak.shape
  clear h1 h2 h3
  go_enter Try.func20, Try.ntmps20
  have p0 := S0.hg.c0
  have p1 := S0.hg.c1
  have p2 := S0.hg.c2
  go_wp2_with fail
  generalize w.alloc _ = W at S0 p0 p1 p2 ⊢
  generalize w.heap.size = o at S0 p0 p1 p2 ⊢
  refine (l10Right_any o _ _ _ us gs ss r _ S0.hg.see S0.hg.gat S0.hg.slo S0.hg.le).mono ?_
  rintro e w1 ⟨rfl, b1⟩
  have S1 := S0.next b1
  clear S0 p0 p1 p2 b1
  have q0 := S1.hg.c0
  have q1 := S1.hg.c1
  have q2 := S1.hg.c2
  cases hr : rankB us gs ss r
  · have HE : Hid (itemAtS us gs ss r g k = 0) := Lib.hid (by simp [itemAtS, vwS, hr, rowI, itemI])
    clear hr
    go_wp2_with fail
    go_ret
    exact ⟨ret_int HE.out.symm, S1.hg.old⟩
  by_cases hg0 : g < 0
  · have HE : Hid (itemAtS us gs ss r g k = 0) := Lib.hid (by simp [itemAtS, rowI, show ¬ 0 ≤ g by omega, itemI])
    clear hr
    go_wp2_with fail
    go_ret
    exact ⟨ret_int HE.out.symm, S1.hg.old⟩
  obtain ⟨a, rfl⟩ := Int.eq_ofNat_of_zero_le (show 0 ≤ g by omega)
  have HV : Hid (vwS us gs ss r = viewS us gs ss r gs.length) := Lib.hid (by simp [vwS, hr])
  by_cases hg1 : gs.length ≤ a
  · have HE : Hid (itemAtS us gs ss r a k = 0) := Lib.hid (by
      unfold itemAtS rowI
      rw [HV.out, if_pos (by omega), Int.toNat_natCast, List.getD_eq_getElem?_getD, List.getElem?_eq_none (by rw [viewS_len]; exact hg1)]
      simp [itemI])
    have hi1 : (gs.length : Int) ≤ (a : Int) := by omega
    clear hr
    go_wp2_with fail
    go_ret
    exact ⟨ret_int HE.out.symm, S1.hg.old⟩
  have hi1 : ¬ (gs.length : Int) ≤ (a : Int) := by omega
  by_cases hk0 : k < 0
  · have HE : Hid (itemAtS us gs ss r a k = 0) := Lib.hid (by unfold itemAtS itemI; rw [if_neg (by omega)])
    clear hr
    go_wp2_with fail
    go_ret
    exact ⟨ret_int HE.out.symm, S1.hg.old⟩
  obtain ⟨b, rfl⟩ := Int.eq_ofNat_of_zero_le (show 0 ≤ k by omega)
  have HE : Hid (itemAtS us gs ss r a b = itemS (viewS us gs ss r gs.length) a b) := Lib.hid (by
    unfold itemAtS rowI itemI itemS
    rw [HV.out, if_pos (by omega), if_pos (by omega)])
  have HL := Lib.hid (viewS_len us gs ss r gs.length)
  have HC := Lib.hid (l10View_any o _ _ _ us gs ss r _ S1.hg.see S1.hg.gat S1.sn S1.hg.le hr)
  clear hr
  go_wp2_with fail
  refine HC.out.mono ?_
  clear HC
  rintro e w2 ⟨v2, vs2, rfl, o2, b2⟩
  have S2 := S1.next b2
  have z2 := o2.see
  generalize viewS us gs ss r gs.length = vw at *
  obtain ⟨A3, c3, rfl⟩ := z2.shape
  clear S1 o2 b2 q0 q1 q2
  go_wp2_with fail
  refine (l9ItemK_any _ _ vw a b _ z2 (by have := HL.out; omega)).mono ?_
  rintro e w' ⟨rfl, rfl⟩
  go_wp2_with fail
  go_ret
  exact ⟨ret_int HE.out.symm, S2.hg.old⟩

set_option maxHeartbeats 4000000 in
theorem itemAt_law (v u s : Value) (us gs : List Int) (ss : List (List Int)) (r g k : Int) (w : World) (h1 : SeeI w w.heap.size v us) (h2 : SeeI w w.heap.size u gs) (h3 : SeeSS w w.heap.size s ss) :
    Calls Try.prog 6 #[.agg #[v, u, s], .int .i64 r, .int .i64 g, .int .i64 k] w (BoolOf w true) := by
  have S0 := Hg.box h1 h2 h3 (Nat.le_refl _) 27
  obtain ⟨A, c, rfl⟩ := h1.shape
  obtain ⟨A', c', rfl⟩ := h2.shape
  obtain ⟨A2, c2, rfl⟩ := h3.shape
  clear h1 h2 h3
  go_enter Try.func6, Try.ntmps6
  have p0 := S0.c0
  have p1 := S0.c1
  have p2 := S0.c2
  go_wp2_with fail
  generalize w.alloc _ = W at S0 p0 p1 p2 ⊢
  generalize w.heap.size = o at S0 p0 p1 p2 ⊢
  refine (szHall_any o _ _ _ us gs ss 1048576 (by decide) (by decide) _ S0.see S0.gat S0.slo S0.le).mono ?_
  rintro e w1 ⟨z, rfl, -, hz, b1⟩
  replace S0 := S0.next b1
  clear p0 p1 p2 b1
  by_cases hn : z < 0
  · go_wp2_with fail
    go_ret
    exact ⟨rfl, S0.old⟩
  have F : FitH us gs ss := by rcases hz with q | q; exact absurd q hn; exact q
  clear hz
  have p0 := S0.c0
  have p1 := S0.c1
  have p2 := S0.c2
  go_wp2_with fail
  clear p0 p1 p2 hn
  refine (toHall_any o _ _ _ us gs ss _ S0.see S0.gat S0.slo S0.le F).mono ?_
  rintro e w2 ⟨v2, u2, s2, vs2, rfl, o2, b2⟩
  replace S0 := S0.next b2
  obtain ⟨k1, k2, -⟩ := o2.see
  have k3 := o2.o3.seeN
  clear o2 b2
  go_wp2_with fail
  refine (sItemAt_any w2.heap.size _ _ _ us gs ss r g k _ k1 k2 k3 (Nat.le_refl _)).mono ?_
  rintro e w3 ⟨rfl, b3⟩
  replace S0 := S0.next b3
  clear k1 k2 k3 b3
  have p0 := S0.c0
  have p1 := S0.c1
  have p2 := S0.c2
  go_wp2_with fail
  clear p0 p1 p2
  refine (toHall_any o _ _ _ us gs ss _ S0.see S0.gat S0.slo S0.le F).mono ?_
  rintro e w4 ⟨v4, u4, s4, vs4, rfl, o4, b4⟩
  replace S0 := S0.next b4
  obtain ⟨k1, k2, k3⟩ := o4.see
  have TN := (o4.o3.seeN.below (below_new w4 (.cells #[v4, u4, s4] 32)))
  have T0 := Hg.box k1 k2 k3 (Nat.le_refl _) 32
  replace S0 := S0.next (below_new w4 (.cells #[v4, u4, s4] 32))
  obtain ⟨B1, e1, rfl⟩ := k1.shape
  obtain ⟨B2, e2, rfl⟩ := k2.shape
  obtain ⟨B3, e3, rfl⟩ := k3.shape
  clear o4 b4 k1 k2 k3
  have p0 := T0.c0
  have p1 := T0.c1
  have p2 := T0.c2
  go_wp2_with fail
  generalize w4.alloc _ = W4 at *
  generalize w4.heap.size = M at *
  refine (iItemAt_any M _ _ _ us gs ss r g k _ T0.see T0.gat TN T0.le).mono ?_
  rintro e w6 ⟨rfl, b6⟩
  clear TN
  replace S0 := S0.next b6
  replace T0 := T0.next b6
  clear p0 p1 p2 b6
  generalize itemAtS us gs ss r g k = bo at *
  have hbb : (bo != bo) = false := by simp
  have k0 : Below w6.heap.size w6 w6.drew := (Below.refl _ _).drew
  go_wp2_with fail
  go_region_held3 (fun w' => (w'.cell? ⟨M, 0, none⟩ = some (.slice B1 us.length e1) ∧ w'.cell? ⟨M, 1, none⟩ = some (.slice B2 gs.length e2) ∧ w'.cell? ⟨M, 2, none⟩ = some (.slice B3 ss.length e3)) ∧
      (w'.cell? ⟨o, 0, none⟩ = some (.slice A us.length c) ∧ w'.cell? ⟨o, 1, none⟩ = some (.slice A' gs.length c') ∧ w'.cell? ⟨o, 2, none⟩ = some (.slice A2 ss.length c2)) ∧ Below w6.heap.size w6 w')
    (first | exact hold6 T0 S0 k0 | exact hold6 T0 S0 k7 | exact hold6 T0 S0 k8)
    (first | (go_at_call 9; refine (toHall_any o _ _ _ us gs ss _ (S0.next k0).see (S0.next k0).gat (S0.next k0).slo (S0.next k0).le F).mono ?_; rintro e w7 ⟨v7, u7, s7, vs7, rfl, o7, b7⟩; have k7 := below_then k0 b7 (Nat.le_refl _)) |
      (go_at_call 11; refine (eqHall_same w7.heap.size _ _ _ _ _ _ us gs ss _ (Nat.le_refl _) ((T0.next k7).see.more (T0.next k7).le) ((T0.next k7).gat.more (T0.next k7).le) ((T0.next k7).slo.more (T0.next k7).le) o7.see.1 o7.see.2.1 o7.see.2.2).mono ?_; rintro e w8 ⟨rfl, b8⟩; have k8 := below_then k7 b8 (Nat.le_refl _)))
  go_wp2_with fail
  go_ret
  exact ⟨rfl, (S0.next k8).old⟩

end Go.Proofs.Ytigcbegeaikfcaa
