/- Layer 9 (the player): the player's methods, one for each kind of op. No conditions but those typed. -/
import Derived.Test.YtpmdfogncoapjaaGreatDoorPlyE
import Derived.Deep.RegionWith
import Derived.BigQuiet
namespace Go.Proofs.YtpmdfogncoapjaaGreatDoor
open Go.RowKit
set_option linter.unusedVariables false

/-- What a method hands back: the code of what is done; where that is none, the player is as it is to be. -/
def DoOut (B N : Nat) (vs : Value) (st : St) (w : World) (e : Ending) (w' : World) : Prop :=
  e = .returned (.int .i64 st.c.cd) ∧ Below B w w' ∧ (st.c.cd = 0 → ∃ u1 u2 u3, Pl w' B N st vs u1 u2 u3)
theorem DoOut.ends {B N : Nat} {vs : Value} {c : Cr} {k : Int} {w w' : World} (hk : ¬ k = 0) (b : Below B w w') : DoOut B N vs (endS c k) w (.returned (.int .i64 k)) w' := ⟨rfl, b, fun q => absurd q hk⟩
theorem DoOut.on {B N : Nat} {vs u1 u2 u3 : Value} {st : St} {w w' : World} (h0 : st.c.cd = 0) (b : Below B w w') (p : Pl w' B N st vs u1 u2 u3) : DoOut B N vs st w (.returned (.int .i64 0)) w' := ⟨by rw [h0], b, fun _ => ⟨_, _, _, p⟩⟩

set_option maxHeartbeats 2000000 in
theorem push_on
(B N : Nat) (x m : Int) (s : List UInt8) (vs u1 u2 u3 : Value) (zs : List Int) (bs : List Bx) (rs : List Int) (w : World) (h : Pl w B N (onS ⟨x, zs, bs, rs, 0⟩) vs u1 u2 u3)
    (hl : zs.length < 60) :
    Calls Tryz.prog 135 #[.pointer (some ⟨N, 0, none⟩), .agg #[.int .i64 1, .int .i64 m, str s]] w
      (DoOut B N vs (onS ⟨x, zs ++ [m], bs, rs, 0⟩) w) := by
  have hN := h.lt
  have hB := h.hB
  have hBw : B ≤ w.heap.size := by omega
  have bA := below_new w (.cells #[.int .i64 1, .int .i64 m, str s] 41)
  have HA := Lib.hid (h.later bA)
  have HO := Lib.hid (heap_alloc_new w (.cells #[.int .i64 1, .int .i64 m, str s] 41))
  have HBA := Lib.hid (bA.mono hBw)
  have HBW := Lib.hid hBw
  clear bA hBw
  clear h
  go_enter Tryz.func135, Tryz.ntmps135
  go_wp2_with fail
  generalize w.alloc _ = W at *
  refine (put_any B N x 0 0 0 false vs u1 u2 u3 zs bs rs m W HA.out hl).mono ?_
  rintro e w2 ⟨rfl, b2, v1, v2, v3, p⟩
  go_wp2_with fail
  go_ret
  exact DoOut.on rfl (HBA.out.trans b2) p

set_option maxHeartbeats 2000000 in
theorem push_full
(B N : Nat) (x m : Int) (s : List UInt8) (vs u1 u2 u3 : Value) (zs : List Int) (bs : List Bx) (rs : List Int) (w : World) (h : Pl w B N (onS ⟨x, zs, bs, rs, 0⟩) vs u1 u2 u3)
    (hl : zs.length = 60) :
    Calls Tryz.prog 135 #[.pointer (some ⟨N, 0, none⟩), .agg #[.int .i64 1, .int .i64 m, str s]] w
      (DoOut B N vs (endS ⟨x, zs, bs, rs, 0⟩ 4) w) := by
  have hN := h.lt
  have hB := h.hB
  have hBw : B ≤ w.heap.size := by omega
  have bA := below_new w (.cells #[.int .i64 1, .int .i64 m, str s] 41)
  have HA := Lib.hid (h.later bA)
  have HO := Lib.hid (heap_alloc_new w (.cells #[.int .i64 1, .int .i64 m, str s] 41))
  have HBA := Lib.hid (bA.mono hBw)
  have HBW := Lib.hid hBw
  clear bA hBw
  clear h
  go_enter Tryz.func135, Tryz.ntmps135
  go_wp2_with fail
  generalize w.alloc _ = W at *
  refine (put_full B N x 0 0 0 false vs u1 u2 u3 zs bs rs m W HA.out hl).mono ?_
  rintro e w2 ⟨rfl, rfl⟩
  go_wp2_with fail
  go_ret
  exact DoOut.ends (by decide) HBA.out

set_option maxHeartbeats 2000000 in
theorem stop_on
(B N : Nat) (x m : Int) (s : List UInt8) (vs u1 u2 u3 : Value) (zs : List Int) (bs : List Bx) (rs : List Int) (w : World) (h : Pl w B N (onS ⟨x, zs, bs, rs, 0⟩) vs u1 u2 u3)
    :
    Calls Tryz.prog 143 #[.pointer (some ⟨N, 0, none⟩), .agg #[.int .i64 9, .int .i64 m, str s]] w
      (DoOut B N vs (endS ⟨x, zs, bs, rs, 0⟩ 2) w) := by
  have hN := h.lt
  have hB := h.hB
  have hBw : B ≤ w.heap.size := by omega
  have bA := below_new w (.cells #[.int .i64 9, .int .i64 m, str s] 41)
  have HA := Lib.hid (h.later bA)
  have HO := Lib.hid (heap_alloc_new w (.cells #[.int .i64 9, .int .i64 m, str s] 41))
  have HBA := Lib.hid (bA.mono hBw)
  have HBW := Lib.hid hBw
  clear bA hBw
  clear h
  go_enter Tryz.func143, Tryz.ntmps143
  go_wp2_with fail
  go_ret
  exact DoOut.ends (by decide) HBA.out

set_option maxHeartbeats 2000000 in
theorem end_on
(B N : Nat) (x m : Int) (s : List UInt8) (vs u1 u2 u3 : Value) (zs : List Int) (bs : List Bx) (rs : List Int) (w : World) (h : Pl w B N (onS ⟨x, zs, bs, rs, 0⟩) vs u1 u2 u3)
    :
    Calls Tryz.prog 144 #[.pointer (some ⟨N, 0, none⟩), .agg #[.int .i64 10, .int .i64 m, str s]] w
      (DoOut B N vs (endS ⟨x, zs, bs, rs, 0⟩ 1) w) := by
  have hN := h.lt
  have hB := h.hB
  have hBw : B ≤ w.heap.size := by omega
  have bA := below_new w (.cells #[.int .i64 10, .int .i64 m, str s] 41)
  have HA := Lib.hid (h.later bA)
  have HO := Lib.hid (heap_alloc_new w (.cells #[.int .i64 10, .int .i64 m, str s] 41))
  have HBA := Lib.hid (bA.mono hBw)
  have HBW := Lib.hid hBw
  clear bA hBw
  clear h
  go_enter Tryz.func144, Tryz.ntmps144
  go_wp2_with fail
  go_ret
  exact DoOut.ends (by decide) HBA.out

theorem Pl.at {w : World} {B N : Nat} {x y g t : Int} {b : Bool} {zs : List Int} {bs : List Bx} {rs : List Int} {vs u1 u2 u3 : Value} (h : Pl w B N ⟨⟨x, zs, bs, rs, y⟩, b, g, t⟩ vs u1 u2 u3) (m : Int) : Pl (w.setCell ⟨N, 0, none⟩ (.int .i64 m)) B N ⟨⟨m, zs, bs, rs, y⟩, b, g, t⟩ vs u1 u2 u3 :=
  ⟨by rw [heap_set h.blk]; simp, h.own.set h.no _, h.hB, h.no⟩

set_option maxHeartbeats 2000000 in
theorem leave_any (a x y gt t : Int) (b : Bool) (B N : Nat) (m : Int) (s : List UInt8) (vs u1 u2 u3 : Value) (zs : List Int) (bs : List Bx) (rs : List Int) (w : World) (h : Pl w B N ⟨⟨x, zs, bs, rs, y⟩, b, gt, t⟩ vs u1 u2 u3) :
    Calls Tryz.prog 141 #[.pointer (some ⟨N, 0, none⟩), .agg #[.int .i64 a, .int .i64 m, str s]] w
      (TkOut B N vs 0 ⟨⟨m, zs, bs, rs, y⟩, b, gt, t⟩ w) := by
  have hN := h.lt
  have hB := h.hB
  have hBw : B ≤ w.heap.size := by omega
  have bA := below_new w (.cells #[.int .i64 a, .int .i64 m, str s] 41)
  have HA := Lib.hid (h.later bA)
  have HO := Lib.hid (heap_alloc_new w (.cells #[.int .i64 a, .int .i64 m, str s] 41))
  have HBA := Lib.hid (bA.mono hBw)
  have HBW := Lib.hid hBw
  clear bA hBw
  clear h
  go_enter Tryz.func141, Tryz.ntmps141
  go_upto_region 1 with fail
  generalize w.alloc _ = W at *
  obtain ⟨p0, p1, p2, p3, p4, p5, p6, p7, p8⟩ := cells9 HA.out.blk
  dsimp only [onS] at p0 p1 p2 p3 p4 p5 p6 p7 p8
  have hfz := frozen_row (k := 0) HA.out.blk
  obtain ⟨o0, o1, o2⟩ := cells3 HO.out
  go_wp2_with fail
  go_ret
  exact ⟨rfl, HBA.out.setCell hB _, _, _, _, HA.out.at m⟩

theorem leave_on
(B N : Nat) (x m : Int) (s : List UInt8) (vs u1 u2 u3 : Value) (zs : List Int) (bs : List Bx) (rs : List Int) (w : World) (h : Pl w B N (onS ⟨x, zs, bs, rs, 0⟩) vs u1 u2 u3)
    :
    Calls Tryz.prog 141 #[.pointer (some ⟨N, 0, none⟩), .agg #[.int .i64 7, .int .i64 m, str s]] w
      (DoOut B N vs (onS ⟨m, zs, bs, rs, 0⟩) w) := by
  refine (leave_any 7 x 0 0 0 false B N m s vs u1 u2 u3 zs bs rs w h).mono ?_
  rintro e w2 ⟨rfl, b2, v1, v2, v3, p⟩
  exact DoOut.on rfl b2 p

set_option maxHeartbeats 2000000 in
theorem unless_on
(B N : Nat) (x m : Int) (s : List UInt8) (vs u1 u2 u3 : Value) (zs : List Int) (bs : List Bx) (rs : List Int) (w : World) (h : Pl w B N (onS ⟨x, zs, bs, rs, 0⟩) vs u1 u2 u3)
    (n : Nat) (hn : zs.length = n + 1) (hl : n < 60) :
    Calls Tryz.prog 142 #[.pointer (some ⟨N, 0, none⟩), .agg #[.int .i64 8, .int .i64 m, str s]] w
      (DoOut B N vs (onS ⟨if topS zs 1 = 0 then m else x, cutS zs 1, bs, rs, 0⟩) w) := by
  have hN := h.lt
  have hB := h.hB
  have hBw : B ≤ w.heap.size := by omega
  have bA := below_new w (.cells #[.int .i64 8, .int .i64 m, str s] 41)
  have HA := Lib.hid (h.later bA)
  have HO := Lib.hid (heap_alloc_new w (.cells #[.int .i64 8, .int .i64 m, str s] 41))
  have HBA := Lib.hid (bA.mono hBw)
  have HBW := Lib.hid hBw
  clear bA hBw
  clear h
  have HT := Lib.hid (fun W p => take_any B N n x 0 0 0 false vs u1 u2 u3 zs bs rs W p hn hl)
  clear hn
  by_cases hz : topS zs 1 = 0
  · rw [if_pos hz]
    rw [hz] at HT
    clear hz
    go_enter Tryz.func142, Tryz.ntmps142
    go_wp2_with fail
    generalize w.alloc _ = W at *
    refine (HT.out W HA.out).mono ?_
    rintro e w2 ⟨⟨rfl, b2, v1, v2, v3, p⟩, on⟩
    obtain ⟨o0, o1, o2⟩ := cells3 ((on.block _ (heap_lt HO.out) (by omega)).trans HO.out)
    go_wp2_with fail
    refine (leave_any 8 x 0 0 0 false B N m s vs v1 v2 v3 (cutS zs 1) bs rs w2 p).mono ?_
    rintro e w3 ⟨rfl, b3, q1, q2, q3, p3⟩
    go_wp2_with fail
    go_ret
    exact DoOut.on rfl ((HBA.out.trans b2).trans b3) p3
  · rw [if_neg hz]
    generalize topS zs 1 = z at *
    have hz2 : (z == 0) = false := by simpa using hz
    go_enter Tryz.func142, Tryz.ntmps142
    go_wp2_with fail
    generalize w.alloc _ = W at *
    refine (HT.out W HA.out).mono ?_
    rintro e w2 ⟨⟨rfl, b2, v1, v2, v3, p⟩, on⟩
    go_wp2_with fail
    go_ret
    exact DoOut.on rfl (HBA.out.trans b2) p
set_option maxHeartbeats 4000000 in
theorem reckon_on
(B N : Nat) (x m : Int) (s : List UInt8) (vs u1 u2 u3 : Value) (zs : List Int) (bs : List Bx) (rs : List Int) (w : World) (h : Pl w B N (onS ⟨x, zs, bs, rs, 0⟩) vs u1 u2 u3)
    (n : Nat) (hn : zs.length = n + 2) (hl : n + 1 < 60) :
    Calls Tryz.prog 137 #[.pointer (some ⟨N, 0, none⟩), .agg #[.int .i64 3, .int .i64 m, str s]] w
      (DoOut B N vs (if (didS m (topS zs 2) (topS zs 1)).2 = true then onS ⟨x, cutS zs 2 ++ [(didS m (topS zs 2) (topS zs 1)).1], bs, rs, 0⟩ else endS ⟨x, zs, bs, rs, 0⟩ 3) w) := by
  have hN := h.lt
  have hB := h.hB
  have hBw : B ≤ w.heap.size := by omega
  have bA := below_new w (.cells #[.int .i64 3, .int .i64 m, str s] 41)
  have HA := Lib.hid (h.later bA)
  have HO := Lib.hid (heap_alloc_new w (.cells #[.int .i64 3, .int .i64 m, str s] 41))
  have HBA := Lib.hid (bA.mono hBw)
  have HBW := Lib.hid hBw
  clear bA hBw
  clear h
  have hl1 : (cutS zs 1).length = n + 1 := by unfold cutS; rw [List.length_take]; omega
  have ht2 : topS (cutS zs 1) 1 = topS zs 2 := by
    unfold topS
    rw [hl1, hn]
    unfold cutS
    rw [hn, List.getD_eq_getElem?_getD, List.getD_eq_getElem?_getD, List.getElem?_take]
    rw [if_pos (by omega), show n + 1 - 1 = n + 2 - 2 by omega]
  have hc2 : cutS (cutS zs 1) 1 = cutS zs 2 := by
    unfold cutS
    rw [List.length_take, List.take_take]
    congr 1
    try omega
  have hl2 : (cutS zs 2).length < 60 := by unfold cutS; rw [List.length_take]; omega
  have HT1 := Lib.hid (fun W p => take_any B N (n + 1) x 0 0 0 false vs u1 u2 u3 zs bs rs W p hn hl)
  have HT2 := Lib.hid (fun v1 v2 v3 W p => take_any B N n x 0 0 0 false vs v1 v2 v3 (cutS zs 1) bs rs W p hl1 (by omega))
  rw [ht2, hc2] at HT2
  clear ht2 hc2 hl1 hn hl
  have HD := Lib.hid (fun W => iDid_any m (topS zs 2) (topS zs 1) W)
  generalize didS m (topS zs 2) (topS zs 1) = r at *
  obtain ⟨rv, rb⟩ := r
  cases rb
  · skip
    go_enter Tryz.func137, Tryz.ntmps137
    go_wp2_with fail
    generalize w.alloc _ = W at *
    refine (HT1.out W HA.out).mono ?_
    rintro e w2 ⟨⟨rfl, b2, v1, v2, v3, p2⟩, on2⟩
    go_wp2_with fail
    refine (HT2.out v1 v2 v3 w2 p2).mono ?_
    rintro e w3 ⟨⟨rfl, b3, q1, q2, q3, p3⟩, on3⟩
    obtain ⟨o0, o1, o2⟩ := cells3 ((on3.block _ (Nat.lt_of_lt_of_le (heap_lt HO.out) on2.size) (by omega)).trans ((on2.block _ (heap_lt HO.out) (by omega)).trans HO.out))
    go_wp2_with fail
    refine (HD.out w3).mono ?_
    rintro e w4 ⟨rfl, rfl⟩
    go_wp2_with fail
    go_ret
    exact DoOut.ends (by decide) ((HBA.out.trans b2).trans b3)
  · skip
    go_enter Tryz.func137, Tryz.ntmps137
    go_wp2_with fail
    generalize w.alloc _ = W at *
    refine (HT1.out W HA.out).mono ?_
    rintro e w2 ⟨⟨rfl, b2, v1, v2, v3, p2⟩, on2⟩
    go_wp2_with fail
    refine (HT2.out v1 v2 v3 w2 p2).mono ?_
    rintro e w3 ⟨⟨rfl, b3, q1, q2, q3, p3⟩, on3⟩
    obtain ⟨o0, o1, o2⟩ := cells3 ((on3.block _ (Nat.lt_of_lt_of_le (heap_lt HO.out) on2.size) (by omega)).trans ((on2.block _ (heap_lt HO.out) (by omega)).trans HO.out))
    go_wp2_with fail
    refine (HD.out w3).mono ?_
    rintro e w4 ⟨rfl, rfl⟩
    go_wp2_with fail
    refine (put_any B N x 0 0 0 false vs q1 q2 q3 (cutS zs 2) bs rs rv w3 p3 hl2).mono ?_
    rintro e w4 ⟨rfl, b4, r1, r2, r3, p4⟩
    go_wp2_with fail
    go_ret
    exact DoOut.on rfl (((HBA.out.trans b2).trans b3).trans b4) p4

set_option maxHeartbeats 4000000 in
theorem load_on
(B N : Nat) (x m : Int) (s : List UInt8) (vs u1 u2 u3 : Value) (zs : List Int) (bs : List Bx) (rs : List Int) (w : World) (h : Pl w B N (onS ⟨x, zs, bs, rs, 0⟩) vs u1 u2 u3)
    (hl : zs.length < 60) :
    Calls Tryz.prog 136 #[.pointer (some ⟨N, 0, none⟩), .agg #[.int .i64 2, .int .i64 m, str s]] w
      (DoOut B N vs (onS ⟨x, zs ++ [valueS bs s], bs, rs, 0⟩) w) := by
  have hN := h.lt
  have hB := h.hB
  have hBw : B ≤ w.heap.size := by omega
  have bA := below_new w (.cells #[.int .i64 2, .int .i64 m, str s] 41)
  have HA := Lib.hid (h.later bA)
  have HO := Lib.hid (heap_alloc_new w (.cells #[.int .i64 2, .int .i64 m, str s] 41))
  have HBA := Lib.hid (bA.mono hBw)
  have HBW := Lib.hid hBw
  clear bA hBw
  clear h
  have HV := Lib.hid (fun v W q => iValueIn_any W.heap.size v bs s W q (Nat.le_refl _))
  have HPU := Lib.hid (fun v1 v2 v3 z W p => put_any B N x 0 0 0 false vs v1 v2 v3 zs bs rs z W p hl)
  generalize valueS bs s = z at *
  go_enter Tryz.func136, Tryz.ntmps136
  go_upto_region 1 with fail
  generalize w.alloc _ = W at *
  obtain ⟨p0, p1, p2, p3, p4, p5, p6, p7, p8⟩ := cells9 HA.out.blk
  dsimp only [onS] at p0 p1 p2 p3 p4 p5 p6 p7 p8
  obtain ⟨o0, o1, o2⟩ := cells3 HO.out
  have HAD := Lib.hid (show Pl W.drew B N (onS ⟨x, zs, bs, rs, 0⟩) vs u1 u2 u3 from HA.out.drewN 1)
  have HBD := Lib.hid (show Below B w W.drew from below_drewN HBA.out 1)
  have hS := HA.out.own.o2.see.shape
  obtain ⟨A2, c2, e2⟩ := hS
  dsimp only [onS] at e2
  subst e2
  go_region_with first
    | (go_at_call 19; refine (HV.out _ W.drew HAD.out.own.o2.see).mono ?_; rintro e w1 ⟨rfl, b1⟩)
    | (go_at_call 160; refine (HPU.out _ _ _ _ w1 (HAD.out.later b1)).mono ?_; rintro e w2 ⟨rfl, b2, v1, v2, v3, p⟩)
  all_goals (
    go_wp2_with fail
    go_ret
    exact DoOut.on rfl ((HBD.out.trans (b1.mono (by have := HAD.out.lt; have := HAD.out.hB; omega))).trans b2) p)

end Go.Proofs.YtpmdfogncoapjaaGreatDoor
