/- Layer 10 (feeds): marks in a hall; the walk of FnExactViewOf. No conditions but those typed. -/
import Derived.Test.YtigcbegeaikfcaaFeedB
import Derived.Test.YtigcbegeaikfcaaFeedD
import Derived.Test.YtigcbegeaikfcaaSltK
import Derived.Test.YtigcbegeaikfcaaGateR
import Derived.Deep.RegionHeld3
namespace Go.Proofs.Ytigcbegeaikfcaa
open Go.RowKit
set_option linter.unusedVariables false

/-- The blocks of a hall's rows. -/
def rowsH (v u : Value) (vs : List Value) (q : Nat) : Prop := v.ownBlock = some q ∨ u.ownBlock = some q ∨ rowsSS vs q
theorem OwnH.blocks {w : World} {B : Nat} {v u s : Value} {vs : List Value} {us gs : List Int} {ss : List (List Int)} (h : OwnH w B v u s vs us gs ss) : ∀ q, rowsH v u vs q → B ≤ q ∧ q < w.heap.size := fun q e => by
  rcases e with e | e | e
  · exact h.o1.lt q e
  · exact h.o2.lt q e
  · exact h.o3.blocks q e

set_option maxHeartbeats 2000000 in
theorem markHall_any (B : Nat) (v u s : Value) (vs : List Value) (us gs : List Int) (ss : List (List Int)) (k : Nat) (w : World) (h : OwnH w B v u s vs us gs ss) (hs : k + us.length + gs.length + nSS ss ≤ 4611686018427387904) :
    Calls Try.prog 15 #[.agg #[v, u, s], .int .i64 k] w fun r w' => r = .returned (.int .i64 ((k + us.length + gs.length + nSS ss : Nat) : Int)) ∧ Only (rowsH v u vs) w w' := by
  have b0 := below_new w (.cells #[v, u, s] 32)
  have R0 := heap_alloc_new w (.cells #[v, u, s] 32)
  have on0 : Only (rowsH v u vs) w (w.alloc (.cells #[v, u, s] 32)) := Only.of_below b0
  have hbl := h.blocks
  have hrow := World.ownsRow.lt h.o3.row
  have h0 := h.next b0
  obtain ⟨A, c, e1⟩ := h.see.1.shape
  obtain ⟨A', c', e2⟩ := h.see.2.1.shape
  obtain ⟨A2, c2, e3⟩ := h.see.2.2.shape
  subst e1 e2 e3
  go_enter Try.func15, Try.ntmps15
  obtain ⟨p0, p1, p2⟩ := cells3 R0
  go_wp2_with fail
  clear p0 p1 p2
  generalize w.alloc _ = W at *
  refine (markOrd_any B 2 _ us k W h0.o1 (by omega)).mono ?_
  rintro r w1 ⟨rfl, -, g1⟩
  have o1 : Only (fun q => (Value.slice A us.length c).ownBlock = some q) W w1 := Only.of_grown g1 (fun q e => e)
  have R1 := (o1.block w.heap.size (heap_lt R0) (fun e => by have := (hbl _ (.inl e)).2; omega)).trans R0
  have h2 := own_only h0.o2 o1 (fun g e f => h0.a12 g f e)
  have h3 := h0.o3.keep o1 (fun g e f => h0.b13 g f e) (fun g e f => h0.a13 g e f)
  have on1 := on0.trans (o1.more (fun q e => .inl e))
  obtain ⟨p0, p1, p2⟩ := cells3 R1
  go_wp2_with fail
  clear p0 p1 p2 on0 o1 g1 R0
  refine (markInts_any B 2 _ gs (k + us.length) w1 h2 (by omega)).mono ?_
  rintro r w2 ⟨rfl, -, g2⟩
  have o2 : Only (fun q => (Value.slice A' gs.length c').ownBlock = some q) w1 w2 := Only.of_grown g2 (fun q e => e)
  have R2 := (o2.block w.heap.size (heap_lt R1) (fun e => by have := (hbl _ (.inr (.inl e))).2; omega)).trans R1
  have h4 := h3.keep o2 (fun g e f => h0.b23 g f e) (fun g e f => h0.a23 g e f)
  have on2 := on1.trans (o2.more (fun q e => .inr (.inl e)))
  obtain ⟨p0, p1, p2⟩ := cells3 R2
  go_wp2_with fail
  clear p0 p1 p2 on1 o2 g2 R1 h2 h3
  refine (markSlots_any B _ vs ss (k + us.length + gs.length) w2 h4 (by omega)).mono ?_
  rintro r w3 ⟨rfl, o3⟩
  have on3 := on2.trans (o3.more (fun q e => .inr (.inr e)))
  go_wp2_with fail
  go_ret
  exact ⟨ret_num (by first | rfl | simp), on3⟩

theorem nSS_cap {ss : List (List Int)} (h : ss.length ≤ 1048576) (he : ∀ s ∈ ss, s.length ≤ 1048576) : nSS ss ≤ 1048576 * 1048576 := by
  have key : ∀ (l : List (List Int)) (a : Nat), (∀ s ∈ l, s.length ≤ 1048576) → (l.map List.length).foldl (· + ·) a ≤ a + l.length * 1048576 := by
    intro l
    induction l with
    | nil => intro a _; simp
    | cons x r ih =>
      intro a hx
      have h1 := hx x (by simp)
      have h2 := ih (a + x.length) (fun s hs => hx s (by simp [hs]))
      simp only [List.map_cons, List.foldl_cons, List.length_cons]
      omega
  have := key ss 0 he
  unfold nSS
  have : ss.length * 1048576 ≤ 1048576 * 1048576 := Nat.mul_le_mul_right _ h
  omega

theorem vw_len (us gs : List Int) (ss : List (List Int)) (r : Int) : nSS (vwS us gs ss r) ≤ 160 := by
  unfold vwS
  split
  · rename_i h
    obtain ⟨hl, h4, h40⟩ := rank_len h
    have key : ∀ n, nSS (viewS us gs ss r n) ≤ n * 40 := by
      intro n
      induction n with
      | zero => simp [viewS, nSS]
      | succ n ih =>
        have e := nSS_take (ss := viewS us gs ss r (n + 1)) (k := n) (s := viewAt us gs ss r n) (by rw [viewS_more, List.getElem?_append_right (by rw [viewS_len]; exact Nat.le_refl _), viewS_len]; simp)
        have e2 : (viewS us gs ss r (n + 1)).take n = viewS us gs ss r n := by rw [viewS_more, List.take_append_of_le_length (by rw [viewS_len]; exact Nat.le_refl _), List.take_of_length_le (by rw [viewS_len]; exact Nat.le_refl _)]
        rw [e2] at e
        have e3 : (viewS us gs ss r (n + 1)).take (n + 1) = viewS us gs ss r (n + 1) := List.take_of_length_le (by rw [viewS_len]; exact Nat.le_refl _)
        rw [e3] at e
        have hv : (viewAt us gs ss r n).length ≤ 40 := by
          unfold viewAt
          split
          · rw [List.getD_eq_getElem?_getD]
            cases hx : ss[n]? with
            | none => simp
            | some q => exact h40 q (List.mem_of_getElem? hx)
          · simp
        omega
    have := key gs.length
    omega
  · simp [nSS]

set_option maxHeartbeats 8000000 in
set_option maxRecDepth 100000 in
theorem viewOf_law (v u s : Value) (us gs : List Int) (ss : List (List Int)) (r : Int) (w : World) (h1 : SeeI w w.heap.size v us) (h2 : SeeI w w.heap.size u gs) (h3 : SeeSS w w.heap.size s ss) :
    Calls Try.prog 4 #[.agg #[v, u, s], .int .i64 r] w (BoolOf w true) := by
  have S0 := Hg.box h1 h2 h3 (Nat.le_refl _) 27
  obtain ⟨A, c, rfl⟩ := h1.shape
  obtain ⟨A', c', rfl⟩ := h2.shape
  obtain ⟨A2, c2, rfl⟩ := h3.shape
  clear h1 h2 h3
  go_enter Try.func4, Try.ntmps4
  have p0 := S0.c0
  have p1 := S0.c1
  have p2 := S0.c2
  go_wp2_with fail
  generalize w.alloc _ = W at S0 p0 p1 p2 ⊢
  generalize hoo : w.heap.size = o at S0 p0 p1 p2 ⊢
  have HO := Lib.hid hoo
  clear hoo
  refine (szHall_any o _ _ _ us gs ss 1048576 (by decide) (by decide) _ S0.see S0.gat S0.slo S0.le).mono ?_
  rintro e w1 ⟨z, rfl, -, hz, b1⟩
  replace S0 := S0.next b1
  clear p0 p1 p2 b1
  by_cases hn : z < 0
  · go_wp2_with fail
    go_ret
    exact ⟨rfl, S0.old⟩
  have F : FitH us gs ss := by rcases hz with q | q; exact absurd q hn; exact q
  clear hz
  have p0 := S0.c0
  have p1 := S0.c1
  have p2 := S0.c2
  go_wp2_with fail
  clear p0 p1 p2 hn
  refine (toHall_any o _ _ _ us gs ss _ S0.see S0.gat S0.slo S0.le F).mono ?_
  rintro e w2 ⟨v2, u2, s2, vs2, rfl, o2, b2⟩
  replace S0 := S0.next b2
  obtain ⟨k1, k2, -⟩ := o2.see
  have k3 := o2.o3.seeN
  clear o2 b2
  go_wp2_with fail
  have HVL := vw_len us gs ss r
  have HSV := Lib.hid (sViewOf_any w2.heap.size _ _ _ us gs ss r _ k1 k2 k3 (Nat.le_refl _))
  have HIV := Lib.hid (fun (W' : World) v u s a b c => iViewOf_any W'.heap.size v u s us gs ss r W' a b c (Nat.le_refl _))
  generalize vwS us gs ss r = vw at *
  have hlo := S0.lt
  refine HSV.out.mono ?_
  clear HSV k1 k2 k3
  rintro e w3 ⟨v0, l0, rfl, OW, b3⟩
  replace S0 := S0.next b3
  have hlo3 : o < w3.heap.size := S0.lt
  have hW0 : ∀ q, (v0.ownBlock = some q ∨ rowsSS l0 q) → o < q ∧ q < w3.heap.size := fun q e => by
    rcases e with e | e
    · have := World.ownsRow.lt OW.row q e
      have := b3.size
      exact ⟨by omega, by omega⟩
    · have := OW.blocks q e
      exact ⟨by omega, by omega⟩
  obtain ⟨B0, e0, rfl⟩ := OW.see.shape
  clear b3
  have p0 := S0.c0
  have p1 := S0.c1
  have p2 := S0.c2
  go_wp2_with fail
  clear p0 p1 p2
  refine (toHall_any o _ _ _ us gs ss _ S0.see S0.gat S0.slo S0.le F).mono ?_
  rintro e w4 ⟨v4, u4, s4, vs4, rfl, OH, b4⟩
  have bx := below_new w4 (.cells #[v4, u4, s4] 32)
  have T0 := Hn.box OH.see.1 OH.see.2.1 OH.o3.seeN (Nat.le_refl _) 32
  have hX := OH.blocks
  have hzx : (w4.alloc (.cells #[v4, u4, s4] 32)).heap.size = w4.heap.size + 1 := by simp
  replace S0 := (S0.next b4).next bx
  replace OW := (OW.later b4).later bx
  replace OH := OH.next bx
  obtain ⟨B1, e1, rfl⟩ := OH.see.1.shape
  obtain ⟨B2, e2, rfl⟩ := OH.see.2.1.shape
  obtain ⟨B3, e3, rfl⟩ := OH.see.2.2.shape
  have hle3 := b4.size
  have hlo4 := S0.lt
  clear b4 bx
  have p0 := T0.hg.c0
  have p1 := T0.hg.c1
  have p2 := T0.hg.c2
  go_wp2_with fail
  clear p0 p1 p2
  generalize w4.alloc _ = W4 at *
  generalize w4.heap.size = M at *
  have HIV2 := Lib.hid (HIV.out W4 _ _ _ (T0.hg.see.more T0.hg.le) (T0.hg.gat.more T0.hg.le) (T0.sn.more T0.hg.le))
  refine HIV2.out.mono ?_
  clear HIV2
  rintro e w5 ⟨v5, l5, rfl, OG, b5⟩
  replace S0 := S0.next b5
  replace T0 := T0.next b5
  replace OW := OW.later b5
  replace OH := OH.next b5
  obtain ⟨B5, e5, rfl⟩ := OG.see.shape
  clear b5
  go_wp2_with fail
  refine (eqSlots_same w5.heap.size _ _ vw _ OG.see OW.see).mono ?_
  rintro e w6 ⟨rfl, n6, hw6⟩
  have b6 : Below w5.heap.size w5 w6 := by rw [hw6]; exact below_drewN (Below.refl _ _) _
  replace S0 := S0.next b6
  replace T0 := (T0.next b6).hg
  replace OW := OW.later b6
  replace OH := OH.next b6
  replace OG := OG.later b6
  clear b6 hw6
  have k0 : Below w6.heap.size w6 w6.drew := (Below.refl _ _).drew
  go_wp2_with fail
  go_region_held3 (fun w' => (w'.cell? ⟨M, 0, none⟩ = some (.slice B1 us.length e1) ∧ w'.cell? ⟨M, 1, none⟩ = some (.slice B2 gs.length e2) ∧ w'.cell? ⟨M, 2, none⟩ = some (.slice B3 ss.length e3)) ∧
      (w'.cell? ⟨o, 0, none⟩ = some (.slice A us.length c) ∧ w'.cell? ⟨o, 1, none⟩ = some (.slice A' gs.length c') ∧ w'.cell? ⟨o, 2, none⟩ = some (.slice A2 ss.length c2)) ∧ Below w6.heap.size w6 w')
    (first | exact hold6 T0 S0 k0 | exact hold6 T0 S0 k7 | exact hold6 T0 S0 k8)
    (first | (go_at_call 9; refine (toHall_any o _ _ _ us gs ss _ (S0.next k0).see (S0.next k0).gat (S0.next k0).slo (S0.next k0).le F).mono ?_; rintro e w7 ⟨v7, u7, s7, vs7, rfl, o7, b7⟩; have k7 := below_then k0 b7 (Nat.le_refl _)) |
      (go_at_call 11; refine (eqHall_same w7.heap.size _ _ _ _ _ _ us gs ss _ (Nat.le_refl _) ((T0.next k7).see.more (T0.next k7).le) ((T0.next k7).gat.more (T0.next k7).le) ((T0.next k7).slo.more (T0.next k7).le) o7.see.1 o7.see.2.1 o7.see.2.2).mono ?_; rintro e w8 ⟨rfl, b8⟩; have k8 := below_then k7 b8 (Nat.le_refl _)))
  replace S0 := S0.next k8
  replace T0 := T0.next k8
  replace OW := OW.later k8
  replace OH := OH.next k8
  replace OG := OG.later k8
  clear k0 k7 k8 o7 b7 b8
  have p0 := T0.c0
  have p1 := T0.c1
  have p2 := T0.c2
  have hnss : nSS ss ≤ 1048576 * 1048576 := nSS_cap F.s F.e
  have HMK := Lib.hid (markHall_any _ _ _ _ vs4 us gs ss 1 w8 OH (by have := F.u; have := F.g; omega))
  go_wp2_with fail
  clear p0 p1 p2 T0
  refine HMK.out.mono ?_
  clear HMK
  rintro e w9 ⟨rfl, on9⟩
  have hG := OG.blocks
  have hGr := World.ownsRow.lt OG.row
  replace S0 := S0.only on9 (fun q e => by have := (hX q e).1; omega) (by rw [HO.out]; exact Nat.le_refl _)
  replace OW := OW.keep on9 (fun q e f => by have := (hX q f).1; have := (hW0 q (.inl e)).2; omega) (fun q e f => by have := (hX q f).1; have := (hW0 q (.inr e)).2; omega)
  replace OG := OG.keep on9 (fun q e f => by have := (hX q f).2; have := (hGr q e).1; omega) (fun q e f => by have := (hX q f).2; have := (hG q e).1; omega)
  clear on9 OH hG hGr
  obtain ⟨kz, HK⟩ : ∃ z : Int, Hid (((1 + us.length + gs.length + nSS ss : Nat) : Int) = z) := ⟨_, Lib.hid rfl⟩
  have hkz : ¬ kz < 0 := by have := HK.out; omega
  rw [HK.out]
  go_wp2_with fail
  refine (eqSlots_same w9.heap.size _ _ vw _ OG.see OW.see).mono ?_
  rintro e wa ⟨rfl, na, hwa⟩
  have b6 : Below w9.heap.size w9 wa := by rw [hwa]; exact below_drewN (Below.refl _ _) _
  replace S0 := S0.next b6
  replace OW := OW.later b6
  replace OG := OG.later b6
  clear b6 hwa
  go_wp2_with fail
  clear hkz
  refine (markSS_any _ _ l5 vw 1 wa OG (by omega)).mono ?_
  rintro e wb ⟨rfl, OK, onb⟩
  have hG := OG.blocks
  replace S0 := S0.only onb (fun q e => by have := (hG q e).1; omega) (by rw [HO.out]; exact Nat.le_refl _)
  replace OW := OW.keep onb (fun q e f => by have := (hG q f).1; have := (hW0 q (.inl e)).2; omega) (fun q e f => by have := (hG q f).1; have := (hW0 q (.inr e)).2; omega)
  have zk := OK.see
  clear OG onb hG OK
  obtain ⟨mz, HM⟩ : ∃ z : Int, Hid (((1 + nSS vw : Nat) : Int) = z) := ⟨_, Lib.hid rfl⟩
  have hmz : ¬ mz < 0 := by have := HM.out; omega
  have hmm : (mz != mz) = false := by simp
  have HHD := Lib.hid (fun (W' : World) (B : Nat) (h : SeeSS W' B (.slice B5 vw.length e5) (mkSS 1 vw)) => heldSS_any B (.slice B5 vw.length e5) vw 1 W' h (by omega))
  rw [HM.out] at HHD ⊢
  go_wp2_with fail
  refine (HHD.out wb _ zk).mono ?_
  rintro e w' ⟨rfl, rfl⟩
  have p0 := S0.c0
  have p1 := S0.c1
  have p2 := S0.c2
  go_wp2_with fail
  clear p0 p1 p2
  refine (toHall_any o _ _ _ us gs ss _ S0.see S0.gat S0.slo S0.le F).mono ?_
  rintro e wc ⟨vc, uc, sc, lc, rfl, oc, bc⟩
  replace S0 := S0.next bc
  replace OW := OW.later bc
  replace zk := (zk.below bc).more bc.size
  have HIV2 := Lib.hid (HIV.out wc _ _ _ oc.see.1 oc.see.2.1 oc.o3.seeN)
  clear oc bc
  go_wp2_with fail
  refine HIV2.out.mono ?_
  clear HIV2
  rintro e wd ⟨vd, ld, rfl, od, bd⟩
  replace S0 := S0.next bd
  replace OW := OW.later bd
  replace zk := (zk.below bd).more bd.size
  obtain ⟨Bd, ed, rfl⟩ := od.see.shape
  clear bd
  go_wp2_with fail
  refine (eqSlots_same wd.heap.size _ _ vw _ od.see OW.see).mono ?_
  rintro e we ⟨rfl, ne, hwe⟩
  have be : Below wd.heap.size wd we := by rw [hwe]; exact below_drewN (Below.refl _ _) _
  replace S0 := S0.next be
  replace zk := (zk.below be).more be.size
  clear hwe be od
  go_wp2_with fail
  refine (HHD.out we _ zk).mono ?_
  rintro e w' ⟨rfl, rfl⟩
  go_wp2_with fail
  go_ret
  exact ⟨rfl, S0.old⟩

end Go.Proofs.Ytigcbegeaikfcaa
