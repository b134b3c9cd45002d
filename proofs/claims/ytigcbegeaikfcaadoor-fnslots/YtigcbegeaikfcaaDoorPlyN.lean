/- Layer 9 (the player): the draws of slots. No conditions but those typed. -/
import Derived.Test.YtigcbegeaikfcaaDoorSltO
import Derived.Test.YtigcbegeaikfcaaDoorDrawT
import Derived.Test.YtigcbegeaikfcaaDoorWordD
namespace Go.Proofs.YtigcbegeaikfcaaDoor
open Go.RowKit
set_option linter.unusedVariables false

theorem grown_onN {w W W' : World} {r : Option Nat} (h : w.grownBy W r) (b : Below w.heap.size W W') : w.grownBy W' r :=
  ⟨b.os.trans h.os, b.tape.trans h.tape, b.output.trans h.output, Nat.le_trans h.size b.size, fun k hk hn => (b.block k hk).trans (h.block k hk hn)⟩

theorem ob_eq {r n c q : Nat} (e : (Value.slice (some ⟨r, 0, none⟩) n c).ownBlock = some q) : r = q := by simpa [Value.ownBlock] using e
/-- Slots that were drawn. -/
def SlDraw (n m : Nat) (w : World) (g : Nat) (e : Ending) (w' : World) : Prop := ∃ r c us ss, e = .returned (.slice (some ⟨r, 0, none⟩) (List.length ss) c) ∧ OwnSS w' w.heap.size (.slice (some ⟨r, 0, none⟩) (List.length ss) c) us ss ∧ ss.length = n ∧ (∀ s ∈ ss, s.length ≤ m) ∧ Cur w' g ∧ w.grownBy w' (some g)

set_option maxHeartbeats 8000000 in
set_option maxRecDepth 100000 in
theorem l9DrawSlots_any (g n : Nat) (hn : n ≤ 4) (w : World) (hc : Cur w g) : Calls Tryd.prog 38 #[.pointer (some ⟨g, 0, none⟩), .int .i64 n] w (SlDraw n 5 w g) := by
  obtain ⟨i0, hi, hz0, hz1, hz2⟩ := info_parts Tryd.infoI64
  obtain ⟨j0, hj, hy0, hy1, hy2⟩ := info_parts Tryd.infoSl
  have hgw := hc.lt
  have oE := OwnSS.empty w
  have cE := hc.alloc (.cells #[] 40)
  have gE : w.grownBy (w.alloc (.cells #[] 40)) (some g) := World.grownBy_alloc w _ (some g)
  go_enter Tryd.func38, Tryd.ntmps38
  go_wp2_with fail
  go_loopw [1, 5] (fun i o wr => ∃ (z r c : Nat) (us : List Value) (ss : List (List Int)), i = .int .i64 z ∧ o = .slice (some ⟨r, 0, none⟩) ss.length c ∧ OwnSS wr w.heap.size (.slice (some ⟨r, 0, none⟩) ss.length c) us ss ∧ z + ss.length = n ∧ (∀ s ∈ ss, s.length ≤ 5) ∧ Cur wr g ∧ w.grownBy wr (some g)) (fun i _ _ => (intOf i).toNat)
  case atStart => exact ⟨n, _, _, [], [], rfl, rfl, oE, by simp, by simp, cE, gE⟩
  case round =>
    clear oE cE gE
    obtain ⟨z, r, c, us, ss, rfl, rfl, hO, hz, h5, hcu, hgr⟩ := hrel
    have hsz := hgr.size
    have H5 := Lib.hid h5
    have HZ := Lib.hid hz
    have HO := Lib.hid hO
    clear h5 hz hO
    have hz4 : z ≤ 4 := by have := HZ.out; omega
    by_cases hz0' : 0 < z
    · have sE := (OwnI.empty wr wr.heap.size 2 (Nat.le_refl _))
      have cE := hcu.alloc (.cells #[] 2)
      have gE := grown_onN hgr ((Below.refl w.heap.size wr).alloc hsz (.cells #[] 2))
      have hOE := HO.out.later (below_new wr (.cells #[] 2))
      have HUB := Lib.hid (show (r < wr.heap.size) ∧ ∀ q, rowsSS us q → q < wr.heap.size from ⟨(World.ownsRow.lt HO.out.row r rfl).2, fun q h => (HO.out.blocks q h).2⟩)
      go_wp2_with fail
      refine (l1Below_any g _ (by decide) (by decide) _ cE).mono ?_
      rintro e w2 ⟨y, rfl, hy0', hy1', c2, g2⟩
      have s2 := own_only sE (Only.of_grown (S := fun k => k = g) g2 (fun k e => by injection e with e; exact e.symm)) (fun q e => by simp [Value.ownBlock] at e; omega)
      have hO2 := hOE.keep (Only.of_grown (S := fun k => k = g) g2 (fun k e => by injection e with e; exact e.symm)) (fun q e => by have := (World.ownsRow.lt HO.out.row q e).1; omega) (fun q e => by have := (HO.out.blocks q e).1; omega)
      replace g2 := grown_trans gE g2
      clear sE cE gE hOE hcu
      go_wp2_with fail
      generalize hBs : wr.heap.size = Bs at *
      go_loopw [6, 7] (fun sv i wq => ∃ (gs cs : Nat) (zs : List Int) (k : Int), sv = .slice (some ⟨gs, 0, none⟩) zs.length cs ∧ i = .int .i64 k ∧ 0 ≤ k ∧ zs.length + k ≤ 5 ∧ OwnI wq Bs 2 (.slice (some ⟨gs, 0, none⟩) zs.length cs) zs ∧ OwnSS wq w.heap.size (.slice (some ⟨r, 0, none⟩) ss.length c) us ss ∧ Cur wq g ∧ w.grownBy wq (some g)) (fun _ i _ => (intOf i).toNat)
      case atStart => exact ⟨_, _, [], y, rfl, rfl, hy0', by simp; omega, s2, hO2, c2, g2⟩
      case round =>
        clear s2 hO2 c2 g2
        obtain ⟨gs, cs, zs, k, rfl, rfl, hk0, hk5, hs, hq, hcu, hgr'⟩ := hrel
        have hsq := hgr'.size
        have HQ := Lib.hid hq
        clear hq
        by_cases hk : 0 < k
        · go_wp2_with fail
          refine (l5Draw_any g _ hcu).mono ?_
          rintro e w3 ⟨z3, rfl, -, -, c3, g3⟩
          have on3 : Only (fun q => q = g) _ w3 := Only.of_grown g3 (fun k e => by injection e with e; exact e.symm)
          have s3 := own_only hs on3 (fun q e => by have := (hs.lt q e).1; omega)
          have q3 := HQ.out.keep on3 (fun q e => by have := (World.ownsRow.lt HQ.out.row q e).1; omega) (fun q e => by have := (HQ.out.blocks q e).1; omega)
          replace g3 := grown_trans hgr' g3
          have h3 := g3.size
          have bA := below_new w3 (.cells #[.int .i64 z3] 2)
          have sA : OwnI (w3.alloc (.cells #[.int .i64 z3] 2)) Bs 2 (.slice (some ⟨gs, 0, none⟩) zs.length cs) zs := own_later s3 bA
          have cA := c3.alloc (.cells #[.int .i64 z3] 2)
          have gA := grown_onN g3 (bA.mono h3)
          have qA := Lib.hid (q3.later bA)
          have hwr : Bs ≤ (w3.alloc (.cells #[.int .i64 z3] 2)).heap.size := by have := (sA.lt gs rfl); omega
          have HGS := Lib.hid (sA.lt gs rfl)
          clear s3 q3 c3 g3 on3 hs HQ hcu hgr'
          go_wp2_with (at_builtin; refine wpList_append_own_at _ rfl _ _ 40 rfl Bs 2 i0 (.int .i64 0) 1 8 Tryd.underlying40 hi hz0 hz1 hz2 rfl (by decide) _ _ _ rfl sA ⟨w3.heap.size, 0, none⟩ 1 1 [.int .i64 z3] rfl rfl (cell_one_new _ _ _) (by intro u hu; simp at hu; subst hu; rfl) (by unfold maxLen; omega) (by omega) hwr ?_; intro v4 w4 hown4 hgr4 hnil4 hat4; (obtain ⟨g4, c4, rfl⟩ := own_base hown4 (fun q => by have := (hnil4.1 q).2; cases this)))
          have on4 : Only (fun q => q = gs) _ w4 := Only.of_grown hgr4 (fun k e => by injection e with e; exact e.symm)
          have q4 := qA.out.keep on4 (fun q e => by have e' := ob_eq e; have h1 := HUB.out.1; have h2 := HGS.out.1; show ¬ q = gs; omega) (fun q e => by show ¬ q = gs; have h1 := HUB.out.2 q e; have h2 := HGS.out.1; omega)
          have cu4 := cA.apart hgr4 (fun j hj => by cases hj; have h2 := HGS.out.1; show g < gs; omega)
          have gr4 : w.grownBy w4 (some g) := grown_onN gA ((Below.refl _ _).grown hgr4 (by have := h3; simp; omega) (fun j hj => by cases hj; have h2 := HGS.out.1; show w.heap.size ≤ gs; omega))
          go_roundw
          case rel => exact ⟨g4, c4, zs ++ [z3], k - 1, by simp, by go_num, by omega, by simp; omega, by unfold OwnI; simpa using hown4, q4, cu4, gr4⟩
          case measure => simp [intOf]; omega
        · have hsv : ∀ q, (Value.slice (some ⟨gs, 0, none⟩) zs.length cs).ownBlock = some q → Bs ≤ q := fun q e => (hs.lt q e).1
          have sN := hs
          replace hs := own_less hs (show w.heap.size ≤ Bs by omega)
          have bA := below_new wr (.cells #[.slice (some ⟨gs, 0, none⟩) zs.length cs] 40)
          have sA := own_later hs bA
          have cA := hcu.alloc (.cells #[.slice (some ⟨gs, 0, none⟩) zs.length cs] 40)
          have gA := grown_onN hgr' (bA.mono hsq)
          have qA := Lib.hid (HQ.out.later bA)
          have HSA := Lib.hid sA
          have HZL := Lib.hid (show zs.length ≤ 5 by omega)
          have hrow := qA.out.row
          have hlen := qA.out.len
          rw [hlen] at hrow
          have hul : us.length ≤ 4 := by have := HZ.out; omega
          have hwq : w.heap.size ≤ (wr.alloc (.cells #[.slice (some ⟨gs, 0, none⟩) zs.length cs] 40)).heap.size := by simp; omega
          have HW := Lib.hid hwq
          have HLEN := Lib.hid hlen
          clear hs bA hcu hgr' HQ hlen sA
          have hsl : ss.length ≤ 4 := by have := HZ.out; omega
          go_wp2_with (at_builtin; refine wpList_append_own_at _ rfl _ _ 24 rfl w.heap.size 40 j0 (.slice none 0 0) 1 24 Tryd.underlying24 hj hy0 hy1 hy2 rfl (by decide) _ _ _ rfl hrow ⟨wr.heap.size, 0, none⟩ 1 1 [.slice (some ⟨gs, 0, none⟩) zs.length cs] rfl rfl (cell_one_new _ _ _) (by intro u hu; simp at hu; subst hu; rfl) (by unfold maxLen; omega) (by omega) HW.out ?_; intro v4 w4 hown4 hgr4 hnil4 hat4; (obtain ⟨g4, c4, rfl⟩ := own_base hown4 (fun q => by have := (hnil4.1 q).2; cases this)))
          have q4 := qA.out.push HSA.out (fun k u hu q e1 e2 => by have h1 := HUB.out.2 q ⟨k, u, hu, e1⟩; have h2 := hsv q e2; omega) (fun q e1 e2 => by have e' := ob_eq e1; have h1 := HUB.out.1; have h2 := hsv q e2; omega) (by rw [HLEN.out]; exact hown4) hgr4 hat4
          have cu4 := cA.apart hgr4 (fun j hj => by have e' := ob_eq hj; have h2 : w.heap.size ≤ r := (World.ownsRow.lt qA.out.row r rfl).1; omega)
          have gr4 : w.grownBy w4 (some g) := grown_onN gA ((Below.refl _ _).grown hgr4 HW.out (fun j hj => by have e' := ob_eq hj; have h2 : w.heap.size ≤ r := (World.ownsRow.lt qA.out.row r rfl).1; omega))
          go_roundw
          case rel => exact ⟨z - 1, g4, c4, us ++ [.slice (some ⟨gs, 0, none⟩) zs.length cs], ss ++ [zs], by go_num, by simp, by simpa using q4, by have := HZ.out; simp; omega, fun s hs => (by
            rcases List.mem_append.1 hs with q | q
            · exact H5.out s q
            · have : s = zs := by simpa using q
              subst this; exact HZL.out), cu4, gr4⟩
          case measure => simp [intOf]; omega
    · obtain rfl : z = 0 := by omega
      go_wp2_with fail
      go_ret
      exact ⟨r, c, us, ss, rfl, HO.out, by have := HZ.out; omega, H5.out, hcu, hgr⟩

end Go.Proofs.YtigcbegeaikfcaaDoor
