/- Layer 9 (the player): the player's methods of a box and of a gate: set, in, out. No conditions but those typed. -/
import Derived.Test.YtpmdfogncoapjaaGreatDoorPlyF
namespace Go.Proofs.YtpmdfogncoapjaaGreatDoor
open Go.RowKit
set_option linter.unusedVariables false

theorem FlOut.ret {B N : Nat} {vs : Value} {r : List Bx × Bool} {x y gt t : Int} {b : Bool} {zs rs : List Int} {w w' : World} {e : Ending} (h : FlOut B N vs r x y gt t b zs rs w e w') : ∃ k, e = .returned (.int .i64 k) := by
  unfold FlOut at h
  split at h
  · exact ⟨_, h.1⟩
  · exact ⟨_, h.1⟩
/-- What fill hands back, as a step. -/
theorem DoOut.fill {B N : Nat} {vs : Value} {r : List Bx × Bool} {x : Int} {zs rs : List Int} {c : Cr} {W w w' : World} {e : Ending} (hf : FlOut B N vs r x 0 0 0 false zs rs W e w') (b : Below B w W) :
    DoOut B N vs (if r.2 = true then onS ⟨x, zs, r.1, rs, 0⟩ else endS c 4) w e w' := by
  unfold FlOut at hf
  split at hf
  · rename_i hr
    rw [if_pos hr]
    obtain ⟨rfl, b2, v1, v2, v3, p⟩ := hf
    exact DoOut.on rfl (b.trans b2) p
  · rename_i hr
    rw [if_neg hr]
    obtain ⟨rfl, b2⟩ := hf
    exact DoOut.ends (by decide) (b.trans b2)

set_option maxHeartbeats 4000000 in
theorem set_on
(B N : Nat) (x m : Int) (s : List UInt8) (vs u1 u2 u3 : Value) (zs : List Int) (bs : List Bx) (rs : List Int) (w : World) (h : Pl w B N (onS ⟨x, zs, bs, rs, 0⟩) vs u1 u2 u3)
    (n : Nat) (hn : zs.length = n + 1) (hl : n < 60) (hr : Rise bs) (h12 : bs.length ≤ 12) :
    Calls Tryz.prog 138 #[.pointer (some ⟨N, 0, none⟩), .agg #[.int .i64 4, .int .i64 m, str s]] w
      (DoOut B N vs (if (setS bs s (topS zs 1)).2 = true then onS ⟨x, cutS zs 1, (setS bs s (topS zs 1)).1, rs, 0⟩ else endS ⟨x, zs, bs, rs, 0⟩ 4) w) := by
  have hN := h.lt
  have hB := h.hB
  have hBw : B ≤ w.heap.size := by omega
  have bA := below_new w (.cells #[.int .i64 4, .int .i64 m, str s] 41)
  have HA := Lib.hid (h.later bA)
  have HO := Lib.hid (heap_alloc_new w (.cells #[.int .i64 4, .int .i64 m, str s] 41))
  have HBA := Lib.hid (bA.mono hBw)
  have HBW := Lib.hid hBw
  clear bA hBw
  clear h
  have HT := Lib.hid (fun W p => take_any B N n x 0 0 0 false vs u1 u2 u3 zs bs rs W p hn hl)
  have HF := Lib.hid (fun v1 v2 v3 z W p => fill_any B N x 0 0 0 false vs v1 v2 v3 (cutS zs 1) bs rs s z W p hr h12)
  clear hr hn
  generalize topS zs 1 = z at *
  generalize hst : (if (setS bs s z).2 = true then onS ⟨x, cutS zs 1, (setS bs s z).1, rs, 0⟩ else endS ⟨x, zs, bs, rs, 0⟩ 4) = st
  have HST := Lib.hid hst
  clear hst
  go_enter Tryz.func138, Tryz.ntmps138
  go_upto_region 1 with fail
  generalize w.alloc _ = W at *
  obtain ⟨o0, o1, o2⟩ := cells3 HO.out
  have HAD := Lib.hid (show Pl W.drew B N (onS ⟨x, zs, bs, rs, 0⟩) vs u1 u2 u3 from HA.out.drewN 1)
  have HBD := Lib.hid (show Below B w W.drew from below_drewN HBA.out 1)
  go_region_with first
    | (go_at_call 161; refine (HT.out W.drew HAD.out).mono ?_; rintro e w1 ⟨⟨rfl, b1, v1, v2, v3, p1⟩, on1⟩; obtain ⟨q0, q1, q2⟩ := cells3 ((on1.block _ (heap_lt HO.out) (by omega)).trans HO.out); have H1 := Lib.hid (And.intro b1 p1); clear o0 o1 o2 b1 p1 on1)
    | (go_at_call 163; refine (HF.out _ _ _ _ w1 H1.out.2).mono ?_; intro e w2 hf; (obtain ⟨fk, rfl⟩ := hf.ret))
  all_goals (
    go_wp2_with fail
    go_ret
    rw [← HST.out]
    exact DoOut.fill hf (HBD.out.trans H1.out.1))
theorem Pl.say {w : World} {B N : Nat} {x y g t : Int} {b : Bool} {zs : List Int} {bs : List Bx} {rs : List Int} {vs u1 u2 u3 : Value} (h : Pl w B N ⟨⟨x, zs, bs, rs, y⟩, b, g, t⟩ vs u1 u2 u3) (g2 t2 : Int) :
    Pl (((w.setCell ⟨N, 5, none⟩ (.bool true)).setCell ⟨N, 6, none⟩ (.int .i64 g2)).setCell ⟨N, 7, none⟩ (.int .i64 t2)) B N ⟨⟨x, zs, bs, rs, y⟩, true, g2, t2⟩ vs u1 u2 u3 :=
  ⟨by rw [heap_set (heap_set (heap_set h.blk _) _) _]; simp, ((h.own.set h.no _).set h.no _).set h.no _, h.hB, h.no⟩

set_option maxHeartbeats 4000000 in
theorem out_on
(B N : Nat) (x m : Int) (s : List UInt8) (vs u1 u2 u3 : Value) (zs : List Int) (bs : List Bx) (rs : List Int) (w : World) (h : Pl w B N (onS ⟨x, zs, bs, rs, 0⟩) vs u1 u2 u3)
    (n : Nat) (hn : zs.length = n + 1) (hl : n < 60) :
    Calls Tryz.prog 140 #[.pointer (some ⟨N, 0, none⟩), .agg #[.int .i64 6, .int .i64 m, str s]] w
      (DoOut B N vs ⟨⟨x, cutS zs 1, bs, rs, 0⟩, true, m, topS zs 1⟩ w) := by
  have hN := h.lt
  have hB := h.hB
  have hBw : B ≤ w.heap.size := by omega
  have bA := below_new w (.cells #[.int .i64 6, .int .i64 m, str s] 41)
  have HA := Lib.hid (h.later bA)
  have HO := Lib.hid (heap_alloc_new w (.cells #[.int .i64 6, .int .i64 m, str s] 41))
  have HBA := Lib.hid (bA.mono hBw)
  have HBW := Lib.hid hBw
  clear bA hBw
  clear h
  have HT := Lib.hid (fun W p => take_any B N n x 0 0 0 false vs u1 u2 u3 zs bs rs W p hn hl)
  clear hn
  generalize topS zs 1 = z at *
  go_enter Tryz.func140, Tryz.ntmps140
  go_upto_region 1 with fail
  generalize w.alloc _ = W at *
  obtain ⟨o0, o1, o2⟩ := cells3 HO.out
  have HAD := Lib.hid (show Pl W.drew B N (onS ⟨x, zs, bs, rs, 0⟩) vs u1 u2 u3 from HA.out.drewN 1)
  have HBD := Lib.hid (show Below B w W.drew from below_drewN HBA.out 1)
  go_region_with first
    | (go_at_call 161; refine (HT.out W.drew HAD.out).mono ?_; rintro e w1 ⟨⟨rfl, b1, v1, v2, v3, p1⟩, on1⟩; obtain ⟨q0, q1, q2⟩ := cells3 ((on1.block _ (heap_lt HO.out) (by omega)).trans HO.out); have H1 := Lib.hid (And.intro b1 p1); have f5 := frozen_row (k := 5) p1.blk; have f6 := frozen_row (k := 6) p1.blk; have f7 := frozen_row (k := 7) p1.blk; obtain ⟨t0, t1, t2, t3, t4, t5, t6, t7, t8⟩ := cells9 p1.blk; clear o0 o1 o2 b1 p1 on1)
  all_goals (
    go_wp2_with fail
    go_ret
    exact DoOut.on rfl ((((HBD.out.trans H1.out.1).setCell hB _).setCell hB _).setCell hB _) (H1.out.2.say m z))

set_option maxHeartbeats 1000000 in
theorem itemOf_any (B : Nat) (v : Value) (s : List Int) (k : Nat) (w : World) (h : SeeI w B v s) (hk : k ≤ 100000) : Calls Tryz.prog 164 #[v, .int .i64 k] w fun e w' => e = .returned (.int .i64 (s.getD k 0)) ∧ w' = w := by
  have hm := h.1
  unfold maxLen at hm
  obtain ⟨A, c, rfl⟩ := h.shape
  have hk0 : ¬ (k : Int) < 0 := by omega
  obtain ⟨z, hz⟩ : ∃ z, z = s.getD k 0 := ⟨_, rfl⟩
  rw [← hz]
  have HZ := Lib.hid hz
  clear hz
  by_cases hlt : k < s.length
  · have hkl : ¬ ((s.length : Int) ≤ (k : Int)) := by omega
    obtain ⟨g, o, x, rfl, -, hx, hcx⟩ := h.at_ hlt
    have HX : Hid (z = x) := Lib.hid (by rw [HZ.out, List.getD_eq_getElem?_getD, hx]; rfl)
    clear hx h
    go_enter Tryz.func164, Tryz.ntmps164
    go_wp2_with fail
    go_ret
    exact ⟨ret_int HX.out.symm, rfl⟩
  · have hkl : ((s.length : Int) ≤ (k : Int)) := by omega
    have HX : Hid (z = 0) := Lib.hid (by rw [HZ.out, List.getD_eq_getElem?_getD, List.getElem?_eq_none (by omega)]; rfl)
    clear h
    go_enter Tryz.func164, Tryz.ntmps164
    go_wp2_with fail
    go_ret
    exact ⟨ret_int HX.out.symm, rfl⟩

theorem Pl.reads {w : World} {B N g3 n3 c3 k : Nat} {st : St} {vs u1 u2 : Value} (h : Pl w B N st vs u1 u2 (.slice (some ⟨g3, 0, none⟩) n3 c3)) (hk : k < st.c.rds.length) (z : Int) :
    Pl (w.setCell ⟨g3, k, none⟩ (.int .i64 z)) B N ⟨⟨st.c.pl, st.c.pile, st.c.bxs, st.c.rds.set k z, st.c.cd⟩, st.says, st.gate, st.val⟩ vs u1 u2 (.slice (some ⟨g3, 0, none⟩) n3 c3) := by
  have hne : N ≠ g3 := fun e => h.no (.inr (.inr (by rw [e]; rfl)))
  exact ⟨by rw [Below.heap_setCell _ _ _ _ hne]; exact h.blk, h.own.setr hk z, h.hB, h.no⟩

set_option maxHeartbeats 8000000 in
set_option maxRecDepth 100000 in
theorem in_on (B N : Nat) (x : Int) (k : Nat) (s : List UInt8) (vs u1 u2 u3 : Value) (zs : List Int) (bs : List Bx) (rs : List Int) (w : World) (h : Pl w B N (onS ⟨x, zs, bs, rs, 0⟩) vs u1 u2 u3)
    (ss : List (List Int)) (sv : SeeSS w B vs ss) (hk : k < ss.length) (hkr : k < rs.length) (hrd : ∀ r ∈ rs, 0 ≤ r ∧ r ≤ 100000) (hr : Rise bs) (h12 : bs.length ≤ 12) :
    Calls Tryz.prog 139 #[.pointer (some ⟨N, 0, none⟩), .agg #[.int .i64 5, .int .i64 k, str s]] w
      (DoOut B N vs (if rs.getD k 0 = 100000 then endS ⟨x, zs, bs, rs, 0⟩ 4
        else if (setS bs s (itemS ss k (rs.getD k 0))).2 = true then onS ⟨x, zs, (setS bs s (itemS ss k (rs.getD k 0))).1, rs.set k (rs.getD k 0 + 1), 0⟩ else endS ⟨x, zs, bs, rs, 0⟩ 4) w) := by
  obtain ⟨As, cs, rfl⟩ := sv.shape
  obtain ⟨m, hm⟩ : ∃ m : Int, m = (k : Int) := ⟨_, rfl⟩
  rw [← hm]
  have hN := h.lt
  have hB := h.hB
  have hBw : B ≤ w.heap.size := by omega
  have bA := below_new w (.cells #[.int .i64 5, .int .i64 m, str s] 41)
  have HA := Lib.hid (h.later bA)
  have HO := Lib.hid (heap_alloc_new w (.cells #[.int .i64 5, .int .i64 m, str s] 41))
  have HBA := Lib.hid (bA.mono hBw)
  have HBW := Lib.hid hBw
  clear bA hBw
  subst hm
  obtain ⟨g3, c3, e3⟩ : ∃ g c, u3 = .slice (some ⟨g, 0, none⟩) rs.length c := by
    have hO3 := h.own.o3
    dsimp only [onS] at hO3
    rcases hO3.2 with ⟨q, q2⟩ | ⟨g, c, cur, q, _⟩
    · omega
    · exact ⟨g, c, q⟩
  subst e3
  have hg3 : B ≤ g3 ∧ g3 < w.heap.size := h.own.o3.lt g3 rfl
  obtain ⟨g', o', r, e, -, hrk, hcr⟩ := HA.out.own.o3.see.at_ (k := k) hkr
  injection e with e
  injection e with e1 e2
  subst e1 e2
  rw [Nat.zero_add] at hcr
  have hfr : (w.alloc (.cells #[.int .i64 5, .int .i64 k, str s] 41)).frozen? ⟨g3, k, none⟩ = false := by
    rcases HA.out.own.o3.2 with ⟨q, _⟩ | ⟨g2, c2, cur, q, _, hb, _⟩
    · cases q
    · injection q with q
      injection q with q
      injection q with q
      subst q
      exact frozen_row hb
  dsimp only [onS] at hrk
  have hrr := hrd r (List.mem_of_getElem? hrk)
  have HR : Hid (rs.getD k 0 = r) := Lib.hid (by rw [List.getD_eq_getElem?_getD, hrk]; rfl)
  have HSV := Lib.hid ((sv.below (HBA.out)))
  clear h hrd hrk sv
  rw [HR.out]
  clear HR
  by_cases hr5 : r = 100000
  · rw [if_pos hr5]
    subst hr5
    go_enter Tryz.func139, Tryz.ntmps139
    go_upto_region 1 with fail
    generalize w.alloc _ = W at *
    obtain ⟨p0, p1, p2, p3, p4, p5, p6, p7, p8⟩ := cells9 HA.out.blk
    dsimp only [onS] at p0 p1 p2 p3 p4 p5 p6 p7 p8
    obtain ⟨o0, o1, o2⟩ := cells3 HO.out
    go_wp2_with fail
    go_ret
    exact DoOut.ends (by decide) HBA.out
  · rw [if_neg hr5]
    have hs := List.getElem?_eq_getElem hk
    generalize ss[k] = sl at hs
    have HSL := Lib.hid (show (∃ b o D q, As = some ⟨b, o, none⟩ ∧ (w.alloc (.cells #[.int .i64 5, .int .i64 k, str s] 41)).cell? ⟨b, o + k, none⟩ = some (.slice D sl.length q) ∧ SeeI (w.alloc (.cells #[.int .i64 5, .int .i64 k, str s] 41)) B (.slice D sl.length q) sl) from HSV.out.at_ hs)
    have HIT : Hid (itemS ss k r = sl.getD r.toNat 0) := Lib.hid (by
      obtain ⟨q, rfl⟩ : ∃ q : Nat, r = q := ⟨r.toNat, by omega⟩
      rw [itemS_at hs]; rfl)
    rw [HIT.out]
    obtain ⟨rn, hrn⟩ : ∃ rn : Nat, r = rn := ⟨r.toNat, by omega⟩
    have hrt : r.toNat = rn := by omega
    rw [hrt]
    subst hrn
    clear hs HSV HIT hrt
    have HIO := Lib.hid (fun v W q => itemOf_any B v sl rn W q (by omega))
    generalize sl.getD rn 0 = it at *
    have HF := Lib.hid (fun v1 v2 v3 W p => fill_any B N x 0 0 0 false (.slice As ss.length cs) v1 v2 v3 zs bs (rs.set k ((rn : Int) + 1)) s it W p hr h12)
    generalize hst : (if (setS bs s it).2 = true then onS ⟨x, zs, (setS bs s it).1, rs.set k ((rn : Int) + 1), 0⟩ else endS ⟨x, zs, bs, rs, 0⟩ 4) = st
    have HST := Lib.hid hst
    clear hst
    go_enter Tryz.func139, Tryz.ntmps139
    go_upto_region 1 with fail
    generalize w.alloc _ = W at *
    obtain ⟨p0, p1, p2, p3, p4, p5, p6, p7, p8⟩ := cells9 HA.out.blk
    dsimp only [onS] at p0 p1 p2 p3 p4 p5 p6 p7 p8
    obtain ⟨o0, o1, o2⟩ := cells3 HO.out
    obtain ⟨b, o, D, q, rfl, hcs, hsl⟩ := HSL.out
    have hr5' : ¬ ((rn : Int) = 100000) := hr5
    go_upto_region 4 with fail
    have hkr2 : (k : Int) < (rs.length : Int) := by omega
    have hk2 : (k : Int) < (ss.length : Int) := by omega
    go_quiet (first | (go_at_call 164; exact Calls.quiet_of_same (HIO.out _ _ (by first | exact hsl | exact hsl.drewN _))))
    clear p0 p1 p2 p3 p4 p5 p6 p7 p8 o0 o1 o2 hcs hsl
    generalize hQ : World.drewN _ _ = V
    obtain ⟨nq, hnq⟩ : ∃ k, V = W.drewN k := ⟨_, hQ.symm⟩
    clear hQ
    have HAV := Lib.hid (show Pl V B N (onS ⟨x, zs, bs, rs, 0⟩) (.slice (some ⟨b, o, none⟩) ss.length cs) u1 u2 (.slice (some ⟨g3, 0, none⟩) rs.length c3) from by rw [hnq]; exact HA.out.drewN nq)
    have HBV := Lib.hid (show Below B w V from by rw [hnq]; exact below_drewN HBA.out nq)
    have HOV := Lib.hid (show V.heap[w.heap.size]? = some (.cells #[.int .i64 5, .int .i64 k, str s] 41 (0, 0)) from by rw [hnq]; exact HO.out)
    have hcv : V.cell? ⟨g3, k, none⟩ = some (.int .i64 rn) := by rw [hnq]; exact hcr
    have hfv : V.frozen? ⟨g3, k, none⟩ = false := by rw [hnq]; exact hfr
    clear hnq hcr hfr HA HBA HO HSL HIO
    obtain ⟨o0, o1, o2⟩ := cells3 HOV.out
    have hwr : IntKind.i64.wrap ((rn : Int) + 1) = (rn : Int) + 1 := by rw [IntKind.wrap_i64]; omega
    go_upto_region 6 with fail
    have HP3 := Lib.hid (HAV.out.reads (k := k) hkr ((rn : Int) + 1))
    have HB3 := Lib.hid (HBV.out.setCell (p := ⟨g3, k, none⟩) hg3.1 (.int .i64 ((rn : Int) + 1)))
    have HO3 := Lib.hid (show (V.setCell ⟨g3, k, none⟩ (.int .i64 ((rn : Int) + 1))).heap[w.heap.size]? = some (.cells #[.int .i64 5, .int .i64 k, str s] 41 (0, 0)) from by
      rw [Below.heap_setCell _ _ _ _ (by show w.heap.size ≠ g3; omega)]; exact HOV.out)
    clear o0 o1 o2 hcv hfv
    generalize World.setCell _ _ _ = V3 at *
    obtain ⟨o0, o1, o2⟩ := cells3 HO3.out
    go_wp2_with fail
    refine (HF.out _ _ _ V3 HP3.out).mono ?_
    intro e w4 hf
    obtain ⟨fk, rfl⟩ := hf.ret
    go_wp2_with fail
    go_ret
    rw [← HST.out]
    exact DoOut.fill hf HB3.out

end Go.Proofs.YtpmdfogncoapjaaGreatDoor
