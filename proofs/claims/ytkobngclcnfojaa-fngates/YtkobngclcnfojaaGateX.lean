/- What holds of gates, and the walk of the law FnGates. -/
import Derived.Test.YtkobngclcnfojaaGateD
import Derived.Deep.RegionHeld3
namespace Go.Proofs.Ytkobngclcnfojaa
open Go.RowKit
set_option linter.unusedVariables false

theorem seen_has (us gs : List Int) (r g : Int) : hasI (seenS us gs r) g = maySeeS us gs r g := by
  cases hg : gatesS us gs
  · simp [seenS, hg, hasI, maySeeS]
  · simp only [seenS, hg, if_true, hasI, maySeeS, Bool.true_and]
    rw [Bool.eq_iff_iff]
    simp only [decide_eq_true_eq, mem_sel, Bool.and_eq_true, isG]
    constructor
    · rintro ⟨j, h1, rfl, h2⟩
      exact ⟨by omega, h2⟩
    · rintro ⟨⟨h1, h2⟩, h3⟩
      obtain ⟨j, rfl⟩ := Int.eq_ofNat_of_zero_le h1
      exact ⟨j, by omega, rfl, h3⟩
theorem seen_rises (us gs : List Int) (r : Int) : risB (seenS us gs r) = true := by
  unfold risB
  simp only [decide_eq_true_eq]
  simp only [seenS]
  split
  · exact ris_sel _ _
  · intro k hk; simp at hk
theorem own_in {us gs : List Int} {r x : Int} (h : x ∈ ownS us gs r) : ∃ j : Nat, x = j ∧ j < gs.length ∧ gs[j]? = some r ∧ hasI (seenS us gs r) x = true := by
  simp only [ownS] at h
  split at h
  · rename_i hg
    obtain ⟨j, h1, rfl, h2⟩ := mem_sel.1 h
    have hx : gs[j]? = some gs[j] := List.getElem?_eq_getElem h1
    rw [ownP_at hx] at h2
    have h3 : gs[j] = r := by simpa using h2
    rw [h3] at hx
    refine ⟨j, rfl, h1, hx, ?_⟩
    rw [seen_has, see_of hg h1, seeP_at hx]
    have hg' := hg
    simp only [gatesS, Bool.and_eq_true, ranksS, List.all_eq_true] at hg'
    have h4 := hg'.2.1 r (List.mem_of_getElem? hx)
    simp only [isR, decide_eq_true_eq] at h4
    exact w_self ((ordS_iff us).2 (lat_ord hg'.1)) h4.1 h4.2
  · simp at h
theorem see_up {us gs : List Int} {r g i : Int} (h : maySeeS us gs r g = true) (hb : belowS us r i = true) : maySeeS us gs i g = true := by
  simp only [maySeeS, Bool.and_eq_true, seeP] at h ⊢
  exact ⟨h.1, w_trans h.2 hb⟩

theorem like_ints (B : Nat) (va vb : Value) (zs : List Int) (w : World) (ha : SeeI w B va zs) (hb : SeeI w B vb zs) : Calls Try.prog 14 #[va, vb] w (BoolOf w true) := by
  have := likeInts_any B va vb zs zs w ha hb
  rw [eqI_same] at this
  exact this.mono fun e w' ⟨h1, n, h2⟩ => ⟨h1, by rw [h2]; exact below_drewN (Below.refl _ _) n⟩

theorem same_below {w w' : World} (h : w = w') : Below w.heap.size w w' := by subst h; exact Below.refl _ _

theorem hold_on {W w' : World} {p : Addr} {x : Value} (hp : W.cell? p = some x) (k : Below W.heap.size W w') : w'.cell? p = some x ∧ Below W.heap.size W w' :=
  ⟨(k.cell (World.block_lt_of_cell? _ _ hp)).trans hp, k⟩

set_option maxHeartbeats 8000000 in
set_option maxRecDepth 100000 in
theorem gates_core (A : Option Addr) (n c : Nat) (w : World) (hs : SeeB w w.heap.size A n) (hD : ¬ 4096 < n → Calls Try.prog 9 #[.slice A n c] w (SeeDrawn w)) :
    Calls Try.prog 3 #[.slice A n c] w fun e w' => e = .returned (.bool true) ∧ Below w.heap.size w w' := by
  have hm := hs.1
  by_cases hbig : 4096 < n
  · have hd : decide (4096 < (n : Int)) = true := by simp; omega
    go_enter Try.func3, Try.ntmps3
    go_wp2_with fail
    refine (big_any _ _ _ _ hm).mono ?_
    rintro e w' ⟨rfl, rfl⟩
    go_wp2_with fail
    go_ret
    exact ⟨rfl, Below.refl _ _⟩
  · have hd : decide (4096 < (n : Int)) = false := by simp; omega
    have hD := hD hbig
    go_enter Try.func3, Try.ntmps3
    go_wp2_with fail
    refine (big_any _ _ _ _ hm).mono ?_
    rintro e w' ⟨rfl, rfl⟩
    clear hm
    go_wp2_with fail
    refine hD.mono ?_
    rintro e w1 ⟨v, us, u, gs, r, g, rfl, hl, hgl, hs1, ht1, b1⟩
    clear hD hs hd
    have S1 : Sg w w1.heap.size v u us gs (w1.alloc (.cells #[v] 26)) := ⟨cell_of_row _ _ 0 _ _ (0, 0) (heap_alloc_new _ _), hs1.alloc (Nat.le_refl _) _, ht1.alloc (Nat.le_refl _) _, by simp, b1.alloc b1.size _⟩
    have c1 := S1.cell
    obtain ⟨A1, q1, rfl⟩ := hs1.shape
    obtain ⟨A1', q1', rfl⟩ := ht1.shape
    clear hs1 ht1 b1
    go_wp2_with fail
    generalize w1.alloc _ = W1 at S1 c1 ⊢
    generalize w1.heap.size = o at S1 c1 ⊢
    have F1 := Lib.hid (seen_has us gs r g)
    have F2 := Lib.hid (seen_rises us gs r)
    have F3 : Hid (∀ x, x ∈ ownS us gs r → ∃ j : Nat, x = j ∧ j < gs.length ∧ gs[j]? = some r ∧ hasI (seenS us gs r) x = true) := Lib.hid fun x h => own_in h
    have F4 : Hid (∀ i : Int, maySeeS us gs r g = true → belowS us r i = true → maySeeS us gs i g = true) := Lib.hid fun i h hb => see_up h hb
    have F5 : Hid (gatesS us gs = false → maySeeS us gs r g = false ∧ seenS us gs r = [] ∧ ownS us gs r = []) := Lib.hid fun h => by simp [maySeeS, seenS, ownS, h]
    have hsl := seen_le us gs r
    have hwl := own_le us gs r
    refine (iMaySee_any o _ _ us gs r g _ S1.see S1.gat S1.le).mono ?_
    rintro e w2 ⟨rfl, b2⟩
    have S2 := S1.next b2
    have c2 := S2.cell
    clear c1 S1 b2
    go_wp2_with fail
    refine (iSeenBy_any o _ _ us gs r _ S2.see S2.gat S2.le).mono ?_
    rintro e w3 ⟨vs, rfl, os, b3⟩
    have S3 := S2.next b3
    have c3 := S3.cell
    have s3 := os.see
    clear c2 S2 b3 os
    obtain ⟨As, qs, rfl⟩ := s3.shape
    go_wp2_with fail
    refine (iOwnOf_any o _ _ us gs r _ S3.see S3.gat S3.le).mono ?_
    rintro e w4 ⟨vw, rfl, ow, b4⟩
    have S4 := S3.next b4
    have c4 := S4.cell
    have s4 := s3.next b4
    have y4 := ow.see
    clear c3 S3 b4 s3 ow
    obtain ⟨Aw, qw, rfl⟩ := y4.shape
    have C1 : Hid (∀ W, Below w4.heap.size w4 W → Calls Try.prog 13 #[.agg #[.slice A1 us.length q1], .slice A1' gs.length q1', .int .i64 r, .int .i64 g] W (BoolOf W (maySeeS us gs r g))) := Lib.hid fun W k => by
      have := S4.next k; exact sMaySee_any o _ _ us gs r g _ this.see this.gat this.le
    have C2 : Hid (∀ W, Below w4.heap.size w4 W → Calls Try.prog 15 #[.agg #[.slice A1 us.length q1], .slice A1' gs.length q1', .int .i64 r] W (IntsOut W (seenS us gs r))) := Lib.hid fun W k => by
      have := S4.next k; exact sSeenBy_any o _ _ us gs r _ this.see this.gat this.le
    have C4 : Hid (∀ W, Below w4.heap.size w4 W → Calls Try.prog 16 #[.agg #[.slice A1 us.length q1], .slice A1' gs.length q1', .int .i64 r] W (IntsOut W (ownS us gs r))) := Lib.hid fun W k => by
      have := S4.next k; exact sOwnOf_any o _ _ us gs r _ this.see this.gat this.le
    have C6 : Hid (∀ W, Below w4.heap.size w4 W → Calls Try.prog 17 #[.agg #[.slice A1 us.length q1], .slice A1' gs.length q1'] W (BoolOf W (gatesS us gs))) := Lib.hid fun W k => by
      have := S4.next k; exact iGatesOk_any o _ _ us gs _ this.see this.gat this.le
    have C7 : Hid (∀ W, Below w4.heap.size w4 W → Calls Try.prog 18 #[.agg #[.slice A1 us.length q1], .slice A1' gs.length q1'] W (BoolOf W (gatesS us gs))) := Lib.hid fun W k => by
      have := S4.next k; exact sGatesOk_any o _ _ us gs _ this.see this.gat this.le
    have C8 : Hid (∀ W, Below w4.heap.size w4 W → Calls Try.prog 19 #[.slice As (seenS us gs r).length qs, .int .i64 g] W (BoolOf W (maySeeS us gs r g))) := Lib.hid fun W k => by
      rw [← F1.out]; exact (hasInt_any W.heap.size _ _ g W (s4.next k)).mono fun e w' ⟨h1, h2⟩ => ⟨h1, same_below h2⟩
    have C9 : Hid (∀ W, Below w4.heap.size w4 W → Calls Try.prog 20 #[.slice As (seenS us gs r).length qs] W (BoolOf W true)) := Lib.hid fun W k => by
      have := rises_any W.heap.size _ _ W (s4.next k); rw [F2.out] at this
      exact this.mono fun e w' ⟨h1, n, h2⟩ => ⟨h1, by rw [h2]; exact below_drewN (Below.refl _ _) n⟩
    have C10 : Hid (∀ W, Below w4.heap.size w4 W → ∀ x, hasI (seenS us gs r) x = true → Calls Try.prog 19 #[.slice As (seenS us gs r).length qs, .int .i64 x] W (BoolOf W true)) := Lib.hid fun W k x hx => by
      rw [← hx]; exact (hasInt_any W.heap.size _ _ x W (s4.next k)).mono fun e w' ⟨h1, h2⟩ => ⟨h1, same_below h2⟩
    clear F1 F2
    generalize hss : seenS us gs r = ss at *
    generalize hws : ownS us gs r = ws at *
    have HSS := Lib.hid hss
    have HWS := Lib.hid hws
    clear hss hws
    generalize hbb : maySeeS us gs r g = is at *
    have HIS := Lib.hid hbb
    generalize hgg : gatesS us gs = gt at *
    have HGT := Lib.hid hgg
    clear hbb hgg
    have n1 : (is != is) = false := by simp
    have n2 : (gt != gt) = false := by simp
    go_wp2_with fail
    have k0 : Below w4.heap.size w4 w4.drew := (Below.refl _ _).drew
    go_region_held3 (fun w' => w'.cell? ⟨o, 0, none⟩ = some (.slice A1 us.length q1) ∧ Below w4.heap.size w4 w')
      (first | exact hold_on c4 k0 | exact hold_on c4 k1 | exact hold_on c4 k2 | exact hold_on c4 k3 | exact hold_on c4 k4 | exact hold_on c4 k5 | exact hold_on c4 k6 | exact hold_on c4 k7 | exact hold_on c4 k8 | exact hold_on c4 k9)
      (first | (go_at_call 13; refine (C1.out _ k0).mono ?_; rintro e x1 ⟨rfl, h1⟩; have k1 := below_then k0 h1 (Nat.le_refl _)) |
        (go_at_call 15; refine (C2.out _ k1).mono ?_; rintro e x2 ⟨v2, rfl, o2, h2⟩; have k2 := below_then k1 h2 (Nat.le_refl _)) |
        (go_at_call 16; refine (C4.out _ k3).mono ?_; rintro e x4 ⟨v4, rfl, o4, h4⟩; have k4 := below_then k3 h4 (Nat.le_refl _)) |
        (go_at_call 14; refine (like_ints _ _ _ ws _ (y4.next k4) o4.see).mono ?_; rintro e x5 ⟨rfl, h5⟩; have k5 := below_then k4 h5 (Nat.le_refl _)) |
        (go_at_call 14; refine (like_ints _ _ _ ss _ (s4.next k2) o2.see).mono ?_; rintro e x3 ⟨rfl, h3⟩; have k3 := below_then k2 h3 (Nat.le_refl _)) |
        (go_at_call 17; refine (C6.out _ k5).mono ?_; rintro e x6 ⟨rfl, h6⟩; have k6 := below_then k5 h6 (Nat.le_refl _)) |
        (go_at_call 18; refine (C7.out _ k6).mono ?_; rintro e x7 ⟨rfl, h7⟩; have k7 := below_then k6 h7 (Nat.le_refl _)) |
        (go_at_call 19; refine (C8.out _ k7).mono ?_; rintro e x8 ⟨rfl, h8⟩; have k8 := below_then k7 h8 (Nat.le_refl _)) |
        (go_at_call 20; refine (C9.out _ k8).mono ?_; rintro e x9 ⟨rfl, h9⟩; have k9 := below_then k8 h9 (Nat.le_refl _)))
    have S5 := S4.next k9
    have s5 := s4.next k9
    have y5 := y4.next k9
    have c5 := S5.cell
    clear C1 C2 C4 C6 C8 C9 o2 o4 h1 h2 h3 h4 h5 h6 h7 h8 h9 k0 k1 k2 k3 k4 k5 k6 k7 k8 S4 s4 y4 c4
    have hrr : (r != r) = false := by simp
    go_wp2_with fail
    go_loopw [10] (fun i wr => ∃ k : Nat, k ≤ ws.length ∧ i = .int .i64 k ∧ Below x9.heap.size x9 wr) (fun i _ => ws.length - (intOf i).toNat)
    case atStart => exact ⟨0, Nat.zero_le _, rfl, Below.refl _ _⟩
    case round =>
      obtain ⟨k, hk, rfl, b6⟩ := hrel
      have S6 := S5.next b6
      have y6 := y5.next b6
      have c6 := S6.cell
      clear c5
      by_cases hlt : k < ws.length
      · obtain ⟨g6, p6, x, rfl, -, hx, hcx⟩ := y6.at_ hlt
        obtain ⟨j, rfl, hj, hgj, hh⟩ := F3.out x (List.mem_of_getElem? hx)
        obtain ⟨g7, p7, x', rfl, -, hx', hcx'⟩ := S6.gat.at_ hj
        rw [hgj] at hx'
        injection hx' with hx'
        subst hx'
        have i1 : (k : Int) < ws.length := by omega
        have i2 : (j : Int) < gs.length := by omega
        have T := Lib.hid (C10.out _ (below_then k9 b6 (Nat.le_refl _)) _ hh)
        clear hx hgj hh F3 F4 F5 C10 C7
        go_wp2_with fail
        refine T.out.mono ?_
        rintro e w7 ⟨rfl, b7⟩
        have b8 := below_then b6 b7 (Nat.le_refl _)
        have hcx2 := (b7.cell (World.block_lt_of_cell? _ _ hcx)).trans hcx
        have hcx3 := (b7.cell (World.block_lt_of_cell? _ _ hcx')).trans hcx'
        clear T hcx hcx' S6 y6 c6 b6 b7
        go_wp2_with fail
        go_roundw
        case rel => exact ⟨k + 1, by omega, by go_num, b8⟩
        case measure => simp [intOf]; omega
      · clear F3 C10 y5 y6
        go_wp2_with fail
        go_loopw [11] (fun i wr => ∃ k : Nat, k ≤ us.length ∧ i = .int .i64 k ∧ Sg w o (.slice A1 us.length q1) (.slice A1' gs.length q1') us gs wr ∧ Below w4.heap.size w4 wr) (fun i _ => us.length - (intOf i).toNat)
        case atStart => exact ⟨0, Nat.zero_le _, rfl, S6, below_then k9 b6 (Nat.le_refl _)⟩
        case round =>
          obtain ⟨k, hk, rfl, S7, k7⟩ := hrel
          clear S5 S6 c6 b6 s5 k9
          have c7 := S7.cell
          by_cases hlt : k < us.length
          · cases is with
            | true =>
              have f4 := Lib.hid (F4.out k rfl)
              clear F4 F5 C7
              go_wp2_with fail
              refine (sBelow_any o _ us _ _ _ S7.see S7.le).mono ?_
              rintro e w8 ⟨rfl, b8⟩
              have S8 := S7.next b8
              have c8 := S8.cell
              have k8 := below_then k7 b8 (Nat.le_refl _)
              clear S7 c7 b8 k7
              cases hb : belowS us r k with
              | false =>
                go_wp2_with fail
                go_roundw
                case rel => exact ⟨k + 1, by omega, by go_num, S8, k8⟩
                case measure => simp [intOf]; omega
              | true =>
                have f5 := Lib.hid (f4.out hb)
                go_wp2_with fail
                refine (iMaySee_any o _ _ us gs _ _ _ S8.see S8.gat S8.le).mono ?_
                rintro e w9 ⟨rfl, b9⟩
                rw [f5.out]
                have S9 := S8.next b9
                have k10 := below_then k8 b9 (Nat.le_refl _)
                clear S8 c8 b9 k8
                go_wp2_with fail
                go_roundw
                case rel => exact ⟨k + 1, by omega, by go_num, S9, k10⟩
                case measure => simp [intOf]; omega
            | false =>
              go_wp2_with fail
              refine (C7.out _ k7).mono ?_
              rintro e w8 ⟨rfl, b8⟩
              have S8 := S7.next b8
              cases gt with
              | true =>
                go_wp2_with fail
                go_ret
                exact ⟨rfl, S8.old⟩
              | false =>
                obtain ⟨e1, rfl, rfl⟩ := F5.out rfl
                go_wp2_with fail
                go_ret
                exact ⟨rfl, S8.old⟩
          · go_wp2_with fail
            refine (C7.out _ k7).mono ?_
            rintro e w8 ⟨rfl, b8⟩
            have S8 := S7.next b8
            cases gt with
            | true =>
              go_wp2_with fail
              go_ret
              exact ⟨rfl, S8.old⟩
            | false =>
              obtain ⟨rfl, rfl, rfl⟩ := F5.out rfl
              go_wp2_with fail
              go_ret
              exact ⟨rfl, S8.old⟩

theorem gates_law (A : Option Addr) (n c : Nat) (w : World) (hs : SeeB w w.heap.size A n) : Calls Try.prog 3 #[.slice A n c] w fun e w' => e = .returned (.bool true) ∧ Below w.heap.size w w' :=
  gates_core A n c w hs fun h => drawMaySee_any A n c (by omega) w hs

end Go.Proofs.Ytkobngclcnfojaa
