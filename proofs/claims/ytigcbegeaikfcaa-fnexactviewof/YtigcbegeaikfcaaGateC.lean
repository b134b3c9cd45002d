/- The program's GatesOk, MaySee, SeenBy and OwnOf. -/
import Derived.Test.YtigcbegeaikfcaaGateB
import Derived.Test.YtigcbegeaikfcaaLatE
namespace Go.Proofs.Ytigcbegeaikfcaa
open Go.RowKit
set_option linter.unusedVariables false

set_option maxHeartbeats 1000000 in
theorem areRanksOf_any (B : Nat) (v u : Value) (us gs : List Int) (w : World) (hs : SeeI w B v us) (ht : SeeI w B u gs) (hB : B ≤ w.heap.size) :
    Calls Try.prog 53 #[.agg #[v], u] w (BoolOf w (ranksS us gs)) := by
  have S0 := Sg.box hs ht hB 30
  obtain ⟨A, c, rfl⟩ := hs.shape
  obtain ⟨A', c', rfl⟩ := ht.shape
  have hm := hs.1
  have hm' := ht.1
  unfold maxLen at hm'
  clear hs ht
  go_enter Try.func53, Try.ntmps53
  go_wp2_with fail
  generalize w.alloc _ = W at S0 ⊢
  generalize w.heap.size = o at S0 ⊢
  go_loopw [9] (fun i wr => ∃ k : Nat, k ≤ gs.length ∧ i = .int .i64 k ∧ (gs.take k).all (isR us) = true ∧ Sg w o (.slice A us.length c) (.slice A' gs.length c') us gs wr) (fun i _ => gs.length - (intOf i).toNat)
  case atStart => exact ⟨0, Nat.zero_le _, rfl, rfl, S0⟩
  case round =>
    obtain ⟨k, hk, rfl, hA, S1⟩ := hrel
    have HA := Lib.hid hA
    clear S0 hA
    have c1 := S1.cell
    by_cases hlt : k < gs.length
    · obtain ⟨g, p, x, rfl, -, hx, hcx⟩ := S1.gat.at_ hlt
      have i1 : (k : Int) < gs.length := by omega
      cases hr : isR us x
      · have HE := Lib.hid (ranksS_no hx hr)
        clear hx
        go_wp2_with fail
        refine (isRankOf_of _ us _ hm _ _).mono ?_
        rintro e w2 ⟨rfl, hb2⟩
        rw [hr]
        go_wp2_with fail
        go_ret
        exact ⟨by rw [HE.out]; rfl, (S1.next hb2).old⟩
      · have HR := Lib.hid (take_all hx HA.out hr)
        clear hx
        go_wp2_with fail
        refine (isRankOf_of _ us _ hm _ _).mono ?_
        rintro e w2 ⟨rfl, hb2⟩
        rw [hr]
        have S2 := S1.next hb2
        clear S1 hb2 c1
        go_wp2_with fail
        go_roundw
        case rel => exact ⟨k + 1, by omega, by go_num, HR.out, S2⟩
        case measure => simp [intOf]; omega
    · have HE : Hid (ranksS us gs = true) := Lib.hid (by
        have := HA.out
        rwa [List.take_of_length_le (by omega)] at this)
      go_wp2_with fail
      go_ret
      exact ⟨by rw [HE.out]; rfl, S1.old⟩

set_option maxHeartbeats 1000000 in
theorem iGatesOk_any (B : Nat) (v u : Value) (us gs : List Int) (w : World) (hs : SeeI w B v us) (ht : SeeI w B u gs) (hB : B ≤ w.heap.size) :
    Calls Try.prog 30 #[.agg #[v], u] w (BoolOf w (gatesS us gs)) := by
  have S0 := Sg.box hs ht hB 30
  obtain ⟨A, c, rfl⟩ := hs.shape
  obtain ⟨A', c', rfl⟩ := ht.shape
  have hm' := ht.1
  unfold maxLen at hm'
  clear hs ht
  have c0 := S0.cell
  by_cases h1 : 1 ≤ gs.length
  · by_cases h4 : gs.length ≤ 4
    · have HE : Hid (gatesS us gs = (ranksS us gs && latS us)) := Lib.hid (by rw [gatesS, inB_yes (by omega), Bool.and_true, Bool.and_comm])
      go_enter Try.func30, Try.ntmps30
      go_wp2_with fail
      generalize w.alloc _ = W at S0 c0 ⊢
      generalize w.heap.size = o at S0 c0 ⊢
      refine (areRanksOf_any o _ _ us gs _ S0.see S0.gat S0.le).mono ?_
      rintro e w1 ⟨rfl, hb1⟩
      have S1 := S0.next hb1
      have c1 := S1.cell
      clear S0 c0 hb1
      cases hr : ranksS us gs
      · go_wp2_with fail
        go_ret
        exact ⟨by rw [HE.out, hr]; rfl, S1.old⟩
      · go_wp2_with fail
        refine (iLatticeOk_any o _ us _ S1.see S1.le).mono ?_
        rintro e w2 ⟨rfl, hb2⟩
        have S2 := S1.next hb2
        go_wp2_with fail
        go_ret
        exact ⟨by rw [HE.out, hr]; rfl, S2.old⟩
    · have HE : Hid (gatesS us gs = false) := Lib.hid (by rw [gatesS, inB_no (by omega), Bool.and_false, Bool.and_false])
      go_enter Try.func30, Try.ntmps30
      go_wp2_with fail
      go_ret
      exact ⟨by rw [HE.out]; rfl, S0.old⟩
  · have HE : Hid (gatesS us gs = false) := Lib.hid (by rw [gatesS, inB_no (by omega), Bool.and_false, Bool.and_false])
    go_enter Try.func30, Try.ntmps30
    go_wp2_with fail
    go_ret
    exact ⟨by rw [HE.out]; rfl, S0.old⟩

set_option maxHeartbeats 400000 in
theorem seenFn_any (w0 : World) (o q : Nat) (v u : Value) (us gs : List Int) (x r : Int) (W : World) (S : Sg w0 o v u us gs W) (hq : W.cell? ⟨q, 0, none⟩ = some (.int .i64 r)) :
    Calls Try.prog 62 #[.int .i64 x, .pointer (some ⟨o, 0, none⟩), .pointer (some ⟨q, 0, none⟩)] W (BoolOf W (belowS us x r)) := by
  have c0 := S.cell
  obtain ⟨A, c, rfl⟩ := S.see.shape
  go_enter Try.func62, Try.ntmps62
  go_wp2_with fail
  refine (iBelow_any o _ us x r _ S.see S.le).mono ?_
  rintro e w1 ⟨rfl, hb1⟩
  go_wp2_with fail
  go_ret
  exact ⟨rfl, hb1⟩

set_option maxHeartbeats 4000000 in
set_option maxRecDepth 100000 in
theorem gatesWhere_seen (w0 : World) (o q : Nat) (v u : Value) (us gs : List Int) (r : Int) (w : World) (S : Sg w0 o v u us gs w) (hq : w.cell? ⟨q, 0, none⟩ = some (.int .i64 r)) (hql : q < w.heap.size) (h4 : gs.length ≤ 4) :
    Calls Try.prog 61 #[.func (.func 62) #[] #[.pointer (some ⟨o, 0, none⟩), .pointer (some ⟨q, 0, none⟩)], u] w (IntsOut w (sel (seeP us gs r) gs.length)) := by
  obtain ⟨i0, hi, hz0, hz1, hz2⟩ := info_parts Try.infoInt64
  obtain ⟨A', c', rfl⟩ := S.gat.shape
  go_enter Try.func61, Try.ntmps61
  go_wp2_with fail
  go_loopw [5, 11] (fun z i wr => ∃ k : Nat, k ≤ gs.length ∧ i = .int .i64 k ∧ OwnI wr w.heap.size 2 z (sel (seeP us gs r) k) ∧ Below w.heap.size w wr) (fun _ i _ => gs.length - (intOf i).toNat)
  case atStart => exact ⟨0, Nat.zero_le _, rfl, OwnI.empty _ _ _ (Nat.le_refl _), (Below.refl _ _).alloc (Nat.le_refl _) _⟩
  case round =>
    obtain ⟨k, hk, rfl, hown, hb⟩ := hrel
    have hl := sel_le (seeP us gs r) k
    have S1 := S.next hb
    have hq1 := (hb.cell (p := ⟨q, 0, none⟩) hql).trans hq
    by_cases hlt : k < gs.length
    · obtain ⟨g, p, x, rfl, -, hx, hcx⟩ := S1.gat.at_ hlt
      have i1 : (k : Int) < gs.length := by omega
      have HX : Hid (seeP us gs r k = belowS us x r) := Lib.hid (seeP_at hx)
      clear hx
      cases hp : belowS us x r
      · have R := Lib.hid (sel_no (HX.out.trans hp))
        go_wp2_with fail
        refine (seenFn_any w0 o q _ _ us gs x r _ S1 hq1).mono ?_
        rintro e w1 ⟨rfl, hb1⟩
        rw [hp]
        have hown1 := ownI_later hown hb1
        have hb2 := below_then hb hb1 (Nat.le_refl _)
        clear hown hb hb1 S1 hq1 hcx
        go_wp2_with fail
        go_roundw
        case rel => exact ⟨k + 1, by omega, by go_num, by rw [R.out]; exact hown1, hb2⟩
        case measure => simp [intOf]; omega
      · have R := Lib.hid (sel_yes (HX.out.trans hp))
        go_wp2_with fail
        refine (seenFn_any w0 o q _ _ us gs x r _ S1 hq1).mono ?_
        rintro e w1 ⟨rfl, hb1⟩
        rw [hp]
        have hown1 := ownI_later hown hb1
        have hb2 := below_then hb hb1 (Nat.le_refl _)
        have hs := hb2.size
        clear hown hb hb1 S1 hq1 hcx
        go_wp2_with (at_builtin; refine wpList_append_own _ rfl _ _ 22 rfl w.heap.size 2 i0 (.int .i64 0) 1 8 Try.underlying22 hi hz0 hz1 hz2 rfl (by decide) _ _ _ rfl (hown1.alloc _) ⟨w1.heap.size, 0, none⟩ 1 1 [.int .i64 k] rfl rfl ?c1 ?c2 ?c3 ?c4 ?c5 ?_)
        case c1 =>
          intro j u hj
          match j, hj with
          | 0, hj => simp at hj; subst hj; simp [Addr.add]
        case c2 => intro u hu; simp at hu; subst hu; rfl
        case c3 => unfold maxLen; omega
        case c4 => omega
        case c5 => simp; omega
        intro v' w2 hown' hgrow _
        obtain ⟨a1, a2⟩ := own_push hb2 (Nat.le_refl _) hown1 hown' hgrow
        clear hown' hgrow
        go_wp2
        go_roundw
        case rel => exact ⟨k + 1, by omega, by go_num, by rw [R.out]; exact a1, a2⟩
        case measure => simp [intOf]; omega
    · obtain rfl : k = gs.length := by omega
      go_wp2_with fail
      go_ret
      exact ⟨_, rfl, hown, hb⟩

set_option maxHeartbeats 2000000 in
theorem iSeenBy_any (B : Nat) (v u : Value) (us gs : List Int) (r : Int) (w : World) (hs : SeeI w B v us) (ht : SeeI w B u gs) (hB : B ≤ w.heap.size) :
    Calls Try.prog 37 #[.agg #[v], u, .int .i64 r] w (IntsOut w (seenS us gs r)) := by
  have S0 := Sg.box hs ht hB 30
  have S1 := S0.next ((Below.refl _ _).alloc (Nat.le_refl _) (.cells #[.int .i64 r] 2))
  have q1 : ((w.alloc (.cells #[v] 30)).alloc (.cells #[.int .i64 r] 2)).cell? ⟨w.heap.size + 1, 0, none⟩ = some (.int .i64 r) := by
    have := cell_of_row _ _ 0 _ _ (0, 0) (heap_alloc_new (w.alloc (.cells #[v] 30)) (.cells #[.int .i64 r] 2))
    rwa [World.size_alloc] at this
  have l1 : w.heap.size + 1 < ((w.alloc (.cells #[v] 30)).alloc (.cells #[.int .i64 r] 2)).heap.size := by simp
  obtain ⟨A, c, rfl⟩ := hs.shape
  obtain ⟨A', c', rfl⟩ := ht.shape
  clear hs ht S0
  have c1 := S1.cell
  go_enter Try.func37, Try.ntmps37
  go_wp2_with fail
  generalize World.alloc _ (.cells #[.int .i64 r] 2) = W at S1 q1 l1 c1 ⊢
  refine (iGatesOk_any w.heap.size _ _ us gs _ S1.see S1.gat S1.le).mono ?_
  rintro e w1 ⟨rfl, hb1⟩
  have S2 := S1.next hb1
  have q2 := (hb1.cell (p := ⟨w.heap.size + 1, 0, none⟩) l1).trans q1
  have l2 := Nat.lt_of_lt_of_le l1 hb1.size
  clear S1 q1 l1 c1 hb1
  cases hr : gatesS us gs
  · have HE : Hid (seenS us gs r = []) := Lib.hid (by simp [seenS, hr])
    clear hr
    go_wp2_with fail
    go_ret
    exact ⟨_, rfl, by rw [HE.out]; exact OwnI.empty _ _ _ (by omega), S2.old.alloc (by omega) _⟩
  · have HE : Hid (seenS us gs r = sel (seeP us gs r) gs.length) := Lib.hid (by simp [seenS, hr])
    have h4 : gs.length ≤ 4 := gates_four hr
    clear hr
    go_wp2_with fail
    refine (gatesWhere_seen w w.heap.size (w.heap.size + 1) _ _ us gs r _ S2 q2 l2 h4).mono ?_
    rintro e w2 ⟨v2, rfl, o2, hb2⟩
    go_wp2_with fail
    go_ret
    exact ⟨_, rfl, by rw [HE.out]; exact o2.less (by omega), (S2.next hb2).old⟩

end Go.Proofs.Ytigcbegeaikfcaa
