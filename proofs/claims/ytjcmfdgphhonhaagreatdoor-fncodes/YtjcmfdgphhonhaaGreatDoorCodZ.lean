/- The walk of FnCodes. Condition: the listed variables hold what the program's text lays (Vars, Forms). -/
import Derived.Test.YtjcmfdgphhonhaaGreatDoorCodU
import Derived.Test.YtjcmfdgphhonhaaGreatDoorPlaX
import Derived.Test.YtjcmfdgphhonhaaGreatDoorCodP
namespace Go.Proofs.YtjcmfdgphhonhaaGreatDoor
open Go.RowKit
set_option linter.unusedVariables false

def Cells3 (w : World) (N : Nat) (a m : Int) (s : Txt) : Prop := w.cell? ⟨N, 0, none⟩ = some (.int .i64 a) ∧ w.cell? ⟨N, 1, none⟩ = some (.int .i64 m) ∧ w.cell? ⟨N, 2, none⟩ = some (str s)
theorem hold3 {w w' : World} {N : Nat} {a m : Int} {s : Txt} (c : Cells3 w N a m s) (hN : N < w.heap.size) (k : Below w.heap.size w w') : (w'.cell? ⟨N, 0, none⟩ = some (.int .i64 a) ∧ w'.cell? ⟨N, 1, none⟩ = some (.int .i64 m) ∧ w'.cell? ⟨N, 2, none⟩ = some (str s)) ∧ Below w.heap.size w w' :=
  ⟨⟨(k.cell hN).trans c.1, (k.cell hN).trans c.2.1, (k.cell hN).trans c.2.2⟩, k⟩

theorem hold3b {w w' : World} {g j : Nat} {a m : Int} {s : Txt} (c0 : w.cell? ⟨g, j, none⟩ = some (.int .i64 a)) (c1 : w.cell? ⟨g, j + 1, none⟩ = some (.int .i64 m)) (c2 : w.cell? ⟨g, j + 2, none⟩ = some (str s)) (k : Below w.heap.size w w') :
    (w'.cell? ⟨g, j, none⟩ = some (.int .i64 a) ∧ w'.cell? ⟨g, j + 1, none⟩ = some (.int .i64 m) ∧ w'.cell? ⟨g, j + 2, none⟩ = some (str s)) ∧ Below w.heap.size w w' :=
  ⟨⟨(k.cell (World.block_lt_of_cell? _ _ c0)).trans c0, (k.cell (World.block_lt_of_cell? _ _ c1)).trans c1, (k.cell (World.block_lt_of_cell? _ _ c2)).trans c2⟩, k⟩

set_option linter.unusedSimpArgs false in
set_option maxHeartbeats 8000000 in
set_option maxRecDepth 100000 in
theorem codes_core (A : Option Addr) (n c : Nat) (w : World) (hs : SeeB w w.heap.size A n) (V : Vars w) (F : Forms w) :
    Calls Tryz.prog 3 #[.slice A n c] w fun e w' => e = .returned (.bool true) ∧ Below w.heap.size w w' := by
  by_cases hbig : 4096 < n
  · go_enter Tryz.func3, Tryz.ntmps3
    go_wp2_with fail
    refine (big_any A n c _ hs.1).mono ?_
    rintro e w' ⟨rfl, rfl⟩
    rw [decide_eq_true (by omega)]
    go_wp2_with fail
    go_ret
    exact ⟨rfl, Below.refl _ _⟩
  go_enter Tryz.func3, Tryz.ntmps3
  go_wp2_with fail
  refine (big_any A n c _ hs.1).mono ?_
  rintro e w' ⟨rfl, rfl⟩
  rw [decide_eq_false (by omega)]
  go_wp2_with fail
  refine (drawCodeOf_any A n c (by omega) _ hs).mono ?_
  rintro e w1 ⟨gl, cl, xs, rfl, sx, hxl, hxu, -, bb⟩
  have hXS := upTo_short hxu
  have hxn : xs.length ≤ 1048576 := by omega
  clear hxu
  go_wp2_with fail
  refine (iCodeOf_any _ _ xs _ sx (Nat.le_refl _) hxn hXS (V.below bb)).mono ?_
  rintro e w2 ⟨gc, cc, rfl, oc, b2⟩
  replace sx := sx.next b2
  replace bb := below_then bb b2 (Nat.le_refl _)
  have sc := oc.see
  have hs2 := (hs.keep fun p hp => bb.cell hp).more bb.size
  clear b2 oc
  go_wp2_with fail
  refine (drawShowCode_any A n c (by omega) _ hs2).mono ?_
  rintro e w3 ⟨gq, cq, qs, rfl, sq, hql, hqs, b3⟩
  replace sx := sx.next b3
  replace sc := sc.next b3
  replace bb := below_then bb b3 (Nat.le_refl _)
  have hs3 := (hs.keep fun p hp => bb.cell hp).more bb.size
  have hqS : ∀ o ∈ qs, o.2.2.length ≤ 1048576 := fun o ho => by have := hqs o ho; omega
  clear b3 hs2 hqs
  go_wp2_with fail
  refine (drawOpOk_any A n c (by omega) _ hs3).mono ?_
  rintro e w4 ⟨o, rfl, hol, b4⟩
  replace sx := sx.next b4
  replace sc := sc.next b4
  replace sq := sq.next b4
  replace bb := below_then bb b4 (Nat.le_refl _)
  clear b4 hs3 hs
  have HC := Lib.hid (codeP_le9 xs)
  obtain ⟨CS, hCS⟩ : ∃ C, codeP xs = C := ⟨_, rfl⟩
  have HSC := Lib.hid (fun B v W h1 h2 => sCodeOf_any B v xs W h1 h2 hXS hxn)
  unfold OpsOut at HSC
  rw [hCS] at HSC sc HC ⊢
  obtain ⟨a, m, s⟩ := o
  dsimp only at hol ⊢
  have bA : Below w4.heap.size w4 (w4.alloc (.cells #[.int .i64 a, .int .i64 m, str s] 30)) := (Below.refl _ _).alloc (Nat.le_refl _) _
  have cA : Cells3 (w4.alloc (.cells #[.int .i64 a, .int .i64 m, str s] 30)) w4.heap.size a m s :=
    ⟨by rw [cell_of_row _ _ 0 _ _ (0, 0) (heap_alloc_new _ _)]; rfl, by rw [cell_of_row _ _ 1 _ _ (0, 0) (heap_alloc_new _ _)]; rfl, by rw [cell_of_row _ _ 2 _ _ (0, 0) (heap_alloc_new _ _)]; rfl⟩
  have hNA : w4.heap.size < (w4.alloc (.cells #[.int .i64 a, .int .i64 m, str s] 30)).heap.size := by simp
  replace sx := sx.next bA
  replace sc := sc.next bA
  replace sq := sq.next bA
  replace bb := below_then bb bA (Nat.le_refl _)
  have hoo : s.length ≤ 1048576 := by omega
  have C4 := Lib.hid (fun W F => iOpOk_any (a, m, s) hoo W F)
  have C5 := Lib.hid (fun W => sOpOk_any (a, m, s) hoo W)
  have C2 := Lib.hid (fun B v W h1 h2 F T => iShowCode_any B v qs W h1 h2 (by omega) hqS F T)
  have C3 := Lib.hid (fun B v W h1 h2 => sShowCode_any B v qs W h1 h2 (by omega) hqS)
  dsimp only at C4 C5
  generalize opB (a, m, s) = bo at C4 C5
  generalize codeTxt qs = tq at C2 C3
  have n1 : (!(tq == tq)) = false := by simp
  have n2 : (bo != bo) = false := by simp
  go_wp2_with fail
  generalize w4.alloc _ = W0 at *
  generalize w4.heap.size = N at *
  have FV := Lib.hid (fun W (k : Below W0.heap.size W0 W) => F.below (below_then bb k (Nat.le_refl _)))
  have VV := Lib.hid (fun W (k : Below W0.heap.size W0 W) => V.below (below_then bb k (Nat.le_refl _)))
  have k0 : Below W0.heap.size W0 W0.drew := (Below.refl _ _).drew
  go_region_held3 (fun w' => (w'.cell? ⟨N, 0, none⟩ = some (.int .i64 a) ∧ w'.cell? ⟨N, 1, none⟩ = some (.int .i64 m) ∧ w'.cell? ⟨N, 2, none⟩ = some (str s)) ∧ Below W0.heap.size W0 w')
    (first | exact hold3 cA hNA k0 | exact hold3 cA hNA k1 | exact hold3 cA hNA k2 | exact hold3 cA hNA k3 | exact hold3 cA hNA k4 | exact hold3 cA hNA k5 | exact hold3 cA hNA k6)
    (first | (go_at_call 13; refine (HSC.out _ _ _ (sx.next k0) (Nat.le_refl _)).mono ?_; rintro e x1 ⟨gz, cz, rfl, oz, h1⟩; have k1 := below_then k0 h1 (Nat.le_refl _)) |
      (go_at_call 12; refine (likeOps_same _ _ _ CS _ (Nat.le_refl _) (sc.next k1) oz.see).mono ?_; rintro e x2 ⟨rfl, h2⟩; have k2 := below_then k1 h2 (Nat.le_refl _)) |
      (go_at_call 14; refine (C2.out _ _ _ (sq.next k2) (Nat.le_refl _) (FV.out _ k2) (VV.out _ k2).1).mono ?_; rintro e x3 ⟨rfl, h3⟩; have k3 := below_then k2 h3 (Nat.le_refl _)) |
      (go_at_call 15; refine (C3.out _ _ _ (sq.next k3) (Nat.le_refl _)).mono ?_; rintro e x4 ⟨rfl, h4⟩; have k4 := below_then k3 h4 (Nat.le_refl _)) |
      (go_at_call 16; refine (C4.out _ (FV.out _ k4)).mono ?_; rintro e x5 ⟨rfl, h5⟩; have k5 := below_then k4 h5 (Nat.le_refl _)) |
      (go_at_call 17; refine (C5.out _).mono ?_; rintro e x6 ⟨rfl, h6⟩; have k6 := below_then k5 h6 (Nat.le_refl _)))
  replace sx := sx.next k6
  replace sc := sc.next k6
  replace bb := below_then bb k6 (Nat.le_refl _)
  clear C2 C3 C4 C5 oz h1 h2 h3 h4 h5 h6 k0 k1 k2 k3 k4 k5 FV VV sq cA
  go_wp2_with fail
  refine (sPlayOk_any _ _ xs _ sx (Nat.le_refl _) hXS hxn).mono ?_
  rintro e w7 ⟨rfl, b7⟩
  replace sx := sx.next b7
  replace sc := sc.next b7
  replace bb := below_then bb b7 (Nat.le_refl _)
  clear b7 k6
  cases hp : playB xs with
  | false =>
    have e1 : CS = [] := by rw [← hCS, code_no hp]
    subst e1
    go_wp2_with fail
    go_ret
    exact ⟨ret_bool (by simp), bb⟩
  | true =>
    obtain ⟨cs, hE, hcl, hG⟩ := code_good hp
    have hln : CS.length = cs.length + 1 := by rw [← hCS, hE]; simp
    have hln1 : CS.length ≤ 101 := by omega
    have HLN := Lib.hid hln
    have HAT : Hid (∀ k o, CS[k]? = some o → (k < cs.length ∧ o ∈ cs) ∨ (k = cs.length ∧ o = (10, 0, []))) := Lib.hid (fun k o h => by
      rw [← hCS, hE] at h
      by_cases hk : k < cs.length
      · rw [List.getElem?_append_left hk] at h
        exact .inl ⟨hk, List.mem_of_getElem? h⟩
      · rw [List.getElem?_append_right (by omega)] at h
        have h3 := (List.getElem?_eq_some_iff.1 h).1
        have h0 : k - cs.length = 0 := by simp at h3; omega
        rw [h0] at h
        exact .inr ⟨by omega, by simpa using h.symm⟩)
    have SC := Lib.hid sc
    have SX := Lib.hid sx
    have BB := Lib.hid bb
    have HFW := Lib.hid (fun W (k : Below w7.heap.size w7 W) => F.below (below_then bb k (Nat.le_refl _)))
    have hn1 : 1 ≤ (CS.length : Int) := by omega
    have hn2 : (CS.length : Int) ≤ 300 := by omega
    clear sc sx bb hln hp hE hCS HSC HC V F
    go_wp2_with fail
    obtain ⟨Ac, hAc⟩ : ∃ x, x = some (⟨gc, 0, none⟩ : Addr) := ⟨_, rfl⟩
    rw [← hAc] at SC ⊢
    clear hAc
    go_loopw [8] (fun i wr => ∃ k : Nat, k ≤ CS.length ∧ i = .int .i64 k ∧ Below w7.heap.size w7 wr) (fun i _ => CS.length - (intOf i).toNat)
    case atStart => exact ⟨0, Nat.zero_le _, rfl, Below.refl _ _⟩
    case round =>
      obtain ⟨k, hk, rfl, hbw⟩ := hrel
      obtain ⟨wo, rfl⟩ : ∃ x, x = wr := ⟨_, rfl⟩
      by_cases hlt : k < CS.length
      · have hx := List.getElem?_eq_getElem hlt
        generalize CS[k] = o at hx
        obtain ⟨gs, of, rfl, hgB, e0, e1, e2⟩ := (SC.out.below hbw).at_ hx
        have hcls := HAT.out k o hx
        obtain ⟨a2, m, s⟩ := o
        dsimp only at e0 e1 e2
        have hopB : opB (a2, m, s) = true := by
          rcases hcls with ⟨_, h⟩ | ⟨_, h⟩
          · exact (hG _ h).1
          · rw [h]; decide
        have hs6 := (op_facts hopB).1
        have C := Lib.hid (fun W (j : Below wo.heap.size wo W) => iOpOk_any (a2, m, s) (by omega) W (HFW.out W (below_then hbw j (Nat.le_refl _))))
        rw [hopB] at C
        dsimp only at C hs6
        clear hx hopB hgB hs6
        rcases hcls with ⟨hkc, hmem⟩ | ⟨hkc, he⟩
        · obtain ⟨-, hten, hpl, hgt⟩ := hG _ hmem
          dsimp only at hten hpl hgt
          have hi1 : ((k : Int) == (CS.length : Int) - 1) = false := by have := HLN.out; simp; omega
          clear hmem
          by_cases h7 : a2 = 7
          · subst h7
            have hpm := hpl (by omega)
            have hge : ¬ (CS.length : Int) ≤ m := by have := HLN.out; omega
            clear hpl hgt
            go_wp2_with fail
            refine (C.out _ (Below.refl _ _)).mono ?_
            rintro e x1 ⟨rfl, h1⟩
            obtain ⟨⟨p0, p1, p2⟩, -⟩ := hold3b e0 e1 e2 h1
            have k2 := below_then hbw h1 (Nat.le_refl _)
            clear C h1 e0 e1 e2
            have bN : Below x1.heap.size x1 (x1.alloc (.cells #[.int .i64 7, .int .i64 m, str s] 30)) := (Below.refl _ _).alloc (Nat.le_refl _) _
            have cN : Cells3 (x1.alloc (.cells #[.int .i64 7, .int .i64 m, str s] 30)) x1.heap.size 7 m s :=
              ⟨by rw [cell_of_row _ _ 0 _ _ (0, 0) (heap_alloc_new _ _)]; rfl, by rw [cell_of_row _ _ 1 _ _ (0, 0) (heap_alloc_new _ _)]; rfl, by rw [cell_of_row _ _ 2 _ _ (0, 0) (heap_alloc_new _ _)]; rfl⟩
            have hNN : x1.heap.size < (x1.alloc (.cells #[.int .i64 7, .int .i64 m, str s] 30)).heap.size := by simp
            have k3 := below_then k2 bN (Nat.le_refl _)
            clear bN k2
            go_wp2_with fail
            generalize x1.alloc _ = WA at *
            generalize x1.heap.size = NA at *
            obtain ⟨q0, q1, q2⟩ := cN
            go_quiet (fail)
            go_wp2
            go_roundw
            case rel => exact ⟨k + 1, by omega, by go_num, below_drewN k3 _⟩
            case measure => simp [intOf]; omega
          by_cases h8 : a2 = 8
          · subst h8
            have hpm := hpl (by omega)
            have hge : ¬ (CS.length : Int) ≤ m := by have := HLN.out; omega
            clear hpl hgt
            go_wp2_with fail
            refine (C.out _ (Below.refl _ _)).mono ?_
            rintro e x1 ⟨rfl, h1⟩
            obtain ⟨⟨p0, p1, p2⟩, -⟩ := hold3b e0 e1 e2 h1
            have k2 := below_then hbw h1 (Nat.le_refl _)
            clear C h1 e0 e1 e2
            have bN : Below x1.heap.size x1 (x1.alloc (.cells #[.int .i64 8, .int .i64 m, str s] 30)) := (Below.refl _ _).alloc (Nat.le_refl _) _
            have cN : Cells3 (x1.alloc (.cells #[.int .i64 8, .int .i64 m, str s] 30)) x1.heap.size 8 m s :=
              ⟨by rw [cell_of_row _ _ 0 _ _ (0, 0) (heap_alloc_new _ _)]; rfl, by rw [cell_of_row _ _ 1 _ _ (0, 0) (heap_alloc_new _ _)]; rfl, by rw [cell_of_row _ _ 2 _ _ (0, 0) (heap_alloc_new _ _)]; rfl⟩
            have hNN : x1.heap.size < (x1.alloc (.cells #[.int .i64 8, .int .i64 m, str s] 30)).heap.size := by simp
            have k3 := below_then k2 bN (Nat.le_refl _)
            clear bN k2
            go_wp2_with fail
            generalize x1.alloc _ = WA at *
            generalize x1.heap.size = NA at *
            obtain ⟨q0, q1, q2⟩ := cN
            go_quiet (fail)
            go_wp2
            go_roundw
            case rel => exact ⟨k + 1, by omega, by go_num, below_drewN k3 _⟩
            case measure => simp [intOf]; omega
          by_cases h5 : a2 = 5
          · have HMG := Lib.hid (hgt (.inl h5))
            have e7 : (a2 == 7) = false := by simp; omega
            have e8 : (a2 == 8) = false := by simp; omega
            have e6 : (a2 == 6) = false := by simp; omega
            have e5 : (a2 == 5) = true := by simp; omega
            have e10 : (a2 == 10) = false := by simp; omega
            clear hpl hgt h7 h8 hten h5
            go_wp2_with fail
            refine (C.out _ (Below.refl _ _)).mono ?_
            rintro e x1 ⟨rfl, h1⟩
            obtain ⟨⟨p0, p1, p2⟩, -⟩ := hold3b e0 e1 e2 h1
            have k2 := below_then hbw h1 (Nat.le_refl _)
            clear C h1 e0 e1 e2
            have bN : Below x1.heap.size x1 (x1.alloc (.cells #[.int .i64 a2, .int .i64 m, str s] 30)) := (Below.refl _ _).alloc (Nat.le_refl _) _
            have cN : Cells3 (x1.alloc (.cells #[.int .i64 a2, .int .i64 m, str s] 30)) x1.heap.size a2 m s :=
              ⟨by rw [cell_of_row _ _ 0 _ _ (0, 0) (heap_alloc_new _ _)]; rfl, by rw [cell_of_row _ _ 1 _ _ (0, 0) (heap_alloc_new _ _)]; rfl, by rw [cell_of_row _ _ 2 _ _ (0, 0) (heap_alloc_new _ _)]; rfl⟩
            have hNN : x1.heap.size < (x1.alloc (.cells #[.int .i64 a2, .int .i64 m, str s] 30)).heap.size := by simp
            have k3 := below_then k2 bN (Nat.le_refl _)
            clear bN k2
            go_wp2_with fail
            generalize x1.alloc _ = WA at *
            generalize x1.heap.size = NA at *
            have hmg := HMG.out
            have j0 : Below WA.heap.size WA WA.drew := (Below.refl _ _).drew
            have sxA := SX.out.next k3
            refine wp_region_held_drew (S := fun w' => (w'.cell? ⟨NA, 0, none⟩ = some (.int .i64 a2) ∧ w'.cell? ⟨NA, 1, none⟩ = some (.int .i64 m) ∧ w'.cell? ⟨NA, 2, none⟩ = some (str s)) ∧ Below WA.heap.size WA w') (by kernel_rfl) (hold3 cN hNN j0) (fun hH => ?_)
            refine wpAnyH_take (i := 0) (oi := ?oi0) (v := ?v0) ?hi0 (by kernel_rfl) (by kernel_rfl) (by kernel_rfl) ?hq0 ?hy0 (by assumption) ?hrest0
            case hi0 => (simp only [List.getElem?_toArray, List.getElem?_cons_succ, List.getElem?_cons_zero]; rfl)
            case hq0 => exact fun _ _ _ h => h
            case hy0 => (refine Or.inl ⟨by rfl, ?_⟩; intro w hSw; (try dsimp only at hSw); go_simp; try with_reducible rfl)
            simp only [Act.put, List.setIfInBounds_toArray, List.set_cons_zero, List.set_cons_succ]
            refine wpAnyH_take (i := 1) (oi := ?oi1) (v := ?v1) ?hi1 (by kernel_rfl) (by kernel_rfl) (by kernel_rfl) ?hq1 ?hy1 (by assumption) ?hrest1
            case hi1 => (simp only [List.getElem?_toArray, List.getElem?_cons_succ, List.getElem?_cons_zero]; rfl)
            case hq1 => exact fun _ _ _ h => h
            case hy1 => (refine Or.inl ⟨by rfl, ?_⟩; intro w hSw; (try dsimp only at hSw); go_simp; try with_reducible rfl)
            simp only [Act.put, List.setIfInBounds_toArray, List.set_cons_zero, List.set_cons_succ]
            refine wpAnyH_take (i := 2) (oi := ?oi2) (v := ?v2) ?hi2 (by kernel_rfl) (by kernel_rfl) (by kernel_rfl) ?hq2 ?hy2 (by assumption) ?hrest2
            case hi2 => (simp only [List.getElem?_toArray, List.getElem?_cons_succ, List.getElem?_cons_zero]; rfl)
            case hq2 => exact fun _ _ _ h => h
            case hy2 => (refine Or.inl ⟨by rfl, ?_⟩; intro w hSw; (try dsimp only at hSw); go_simp; try with_reducible rfl)
            simp only [Act.put, List.setIfInBounds_toArray, List.set_cons_zero, List.set_cons_succ]
            refine wpAnyH_take (i := 3) (oi := ?oi3) (v := ?v3) ?hi3 (by kernel_rfl) (by kernel_rfl) (by kernel_rfl) ?hq3 ?hy3 (by assumption) ?hrest3
            case hi3 => (simp only [List.getElem?_toArray, List.getElem?_cons_succ, List.getElem?_cons_zero]; rfl)
            case hq3 => exact fun _ _ _ h => h
            case hy3 => (refine Or.inl ⟨by rfl, ?_⟩; intro w hSw; (try dsimp only at hSw); go_simp; try with_reducible rfl)
            simp only [Act.put, List.setIfInBounds_toArray, List.set_cons_zero, List.set_cons_succ]
            refine wpAnyH_take (i := 4) (oi := ?oi4) (v := undef) ?hi4 (by kernel_rfl) (by kernel_rfl) (by kernel_rfl) ?hq4 ?hy4 (by assumption) ?hrest4
            case hi4 => (simp only [List.getElem?_toArray, List.getElem?_cons_succ, List.getElem?_cons_zero]; rfl)
            case hq4 => exact fun _ _ _ h => h
            case hy4 => exact Or.inr ⟨by rfl, rfl⟩
            simp only [Act.put, List.setIfInBounds_toArray, List.set_cons_zero, List.set_cons_succ]
            refine wpAnyH_take (i := 5) (oi := ?oi5) (v := undef) ?hi5 (by kernel_rfl) (by kernel_rfl) (by kernel_rfl) ?hq5 ?hy5 (by assumption) ?hrest5
            case hi5 => (simp only [List.getElem?_toArray, List.getElem?_cons_succ, List.getElem?_cons_zero]; rfl)
            case hq5 => exact fun _ _ _ h => h
            case hy5 => exact Or.inr ⟨by rfl, rfl⟩
            simp only [Act.put, List.setIfInBounds_toArray, List.set_cons_zero, List.set_cons_succ]
            refine wpAnyH_take (i := 6) (oi := ?oi6) (v := undef) ?hi6 (by kernel_rfl) (by kernel_rfl) (by kernel_rfl) ?hq6 ?hy6 (by assumption) ?hrest6
            case hi6 => (simp only [List.getElem?_toArray, List.getElem?_cons_succ, List.getElem?_cons_zero]; rfl)
            case hq6 => exact fun _ _ _ h => h
            case hy6 => exact Or.inr ⟨by rfl, rfl⟩
            simp only [Act.put, List.setIfInBounds_toArray, List.set_cons_zero, List.set_cons_succ]
            refine wpAnyH_take (i := 7) (oi := ?oi7) (v := ?v7) ?hi7 (by kernel_rfl) (by kernel_rfl) (by kernel_rfl) ?hq7 ?hy7 (by assumption) ?hrest7
            case hi7 => (simp only [List.getElem?_toArray, List.getElem?_cons_succ, List.getElem?_cons_zero]; rfl)
            case hq7 => exact fun _ _ _ h => h
            case hy7 => (refine Or.inl ⟨by rfl, ?_⟩; intro w hSw; (try dsimp only at hSw); go_simp; try with_reducible rfl)
            simp only [Act.put, List.setIfInBounds_toArray, List.set_cons_zero, List.set_cons_succ]
            refine wpAnyH_take (i := 8) (oi := ?oi8) (v := ?v8) ?hi8 (by kernel_rfl) (by kernel_rfl) (by kernel_rfl) ?hq8 ?hy8 (by assumption) ?hrest8
            case hi8 => (simp only [List.getElem?_toArray, List.getElem?_cons_succ, List.getElem?_cons_zero]; rfl)
            case hq8 => exact fun _ _ _ h => h
            case hy8 => (refine Or.inl ⟨by rfl, ?_⟩; intro w hSw; (try dsimp only at hSw); go_simp; try with_reducible rfl)
            simp only [Act.put, List.setIfInBounds_toArray, List.set_cons_zero, List.set_cons_succ]
            refine wpAnyH_take (i := 9) (oi := ?oi9) (v := ?v9) ?hi9 (by kernel_rfl) (by kernel_rfl) (by kernel_rfl) ?hq9 ?hy9 (by assumption) ?hrest9
            case hi9 => (simp only [List.getElem?_toArray, List.getElem?_cons_succ, List.getElem?_cons_zero]; rfl)
            case hq9 => exact fun _ _ _ h => h
            case hy9 => (refine Or.inl ⟨by rfl, ?_⟩; intro w hSw; (try dsimp only at hSw); go_simp; try with_reducible rfl)
            simp only [Act.put, List.setIfInBounds_toArray, List.set_cons_zero, List.set_cons_succ]
            refine wpAnyH_take (i := 11) (oi := ?oi11) (v := ?v11) ?hi11 (by kernel_rfl) (by kernel_rfl) (by kernel_rfl) ?hq11 ?hy11 (by assumption) ?hrest11
            case hi11 => (simp only [List.getElem?_toArray, List.getElem?_cons_succ, List.getElem?_cons_zero]; rfl)
            case hq11 => exact fun _ _ _ h => h
            case hy11 => (refine Or.inl ⟨by rfl, ?_⟩; intro w hSw; (try dsimp only at hSw); go_simp; try with_reducible rfl)
            simp only [Act.put, List.setIfInBounds_toArray, List.set_cons_zero, List.set_cons_succ]
            refine wpAnyH_take (i := 12) (oi := ?oi12) (v := ?v12) ?hi12 (by kernel_rfl) (by kernel_rfl) (by kernel_rfl) ?hq12 ?hy12 (by assumption) ?hrest12
            case hi12 => (simp only [List.getElem?_toArray, List.getElem?_cons_succ, List.getElem?_cons_zero]; rfl)
            case hq12 => exact fun _ _ _ h => h
            case hy12 => (refine Or.inl ⟨by rfl, ?_⟩; intro w hSw; (try dsimp only at hSw); go_simp; try with_reducible rfl)
            simp only [Act.put, List.setIfInBounds_toArray, List.set_cons_zero, List.set_cons_succ]
            refine wpAnyH_ready (rs := [10]) (by kernel_rfl) (by simp) ?_
            refine AllReadyH.cons rfl (fun K hK => ?_) AllReadyH.nil
            go_simp
            refine (sGatesIn_any _ _ xs _ (sxA.next j0) (Nat.le_refl _) hXS hxn).mono ?_
            rintro e y1 ⟨vg, rfl, og, h1⟩
            have j1 := below_then j0 h1 (Nat.le_refl _)
            go_wp2_with fail
            refine hK.out _ _ (hold3 cN hNN j1) (fun hH1 => ?_)
            clear hK K hH
            try simp only [Act.put, List.setIfInBounds_toArray, List.set_cons_zero, List.set_cons_succ]
            refine wpAnyH_ready (rs := [13]) (by kernel_rfl) (by simp) ?_
            refine AllReadyH.cons rfl (fun K hK => ?_) AllReadyH.nil
            go_simp
            refine (hasInt_any _ _ _ m _ og.see).mono ?_
            rintro e y2 ⟨rfl, h2⟩
            have j2 : Below WA.heap.size WA y2 := h2 ▸ j1
            rw [hasI, decide_eq_true hmg]
            go_wp2_with fail
            refine hK.out _ _ (hold3 cN hNN j2) (fun hH2 => ?_)
            clear hK K hH1
            try simp only [Act.put, List.setIfInBounds_toArray, List.set_cons_zero, List.set_cons_succ]
            refine wpAnyH_take (i := 14) (oi := ?oi14) (v := ?v14) ?hi14 (by kernel_rfl) (by kernel_rfl) (by kernel_rfl) ?hq14 ?hy14 (by assumption) ?hrest14
            case hi14 => (simp only [List.getElem?_toArray, List.getElem?_cons_succ, List.getElem?_cons_zero]; rfl)
            case hq14 => exact fun _ _ _ h => h
            case hy14 => (refine Or.inl ⟨by rfl, ?_⟩; intro w hSw; (try dsimp only at hSw); go_simp; try with_reducible rfl)
            simp only [Act.put, List.setIfInBounds_toArray, List.set_cons_zero, List.set_cons_succ]
            refine wpAnyH_take (i := 15) (oi := ?oi15) (v := ?v15) ?hi15 (by kernel_rfl) (by kernel_rfl) (by kernel_rfl) ?hq15 ?hy15 (by assumption) ?hrest15
            case hi15 => (simp only [List.getElem?_toArray, List.getElem?_cons_succ, List.getElem?_cons_zero]; rfl)
            case hq15 => exact fun _ _ _ h => h
            case hy15 => (refine Or.inl ⟨by rfl, ?_⟩; intro w hSw; (try dsimp only at hSw); go_simp; try with_reducible rfl)
            simp only [Act.put, List.setIfInBounds_toArray, List.set_cons_zero, List.set_cons_succ]
            refine wpAnyH_done (by kernel_rfl) ?_ _
            have k4 := below_then k3 j2 (Nat.le_refl _)
            go_wp2
            go_roundw
            case rel => exact ⟨k + 1, by omega, by go_num, k4⟩
            case measure => simp [intOf]; omega
          by_cases h6 : a2 = 6
          · have HMG := Lib.hid (hgt (.inr h6))
            have e7 : (a2 == 7) = false := by simp; omega
            have e8 : (a2 == 8) = false := by simp; omega
            have e5 : (a2 == 5) = false := by simp; omega
            have e6 : (a2 == 6) = true := by simp; omega
            have e10 : (a2 == 10) = false := by simp; omega
            clear hpl hgt h7 h8 hten h5 h6
            go_wp2_with fail
            refine (C.out _ (Below.refl _ _)).mono ?_
            rintro e x1 ⟨rfl, h1⟩
            obtain ⟨⟨p0, p1, p2⟩, -⟩ := hold3b e0 e1 e2 h1
            have k2 := below_then hbw h1 (Nat.le_refl _)
            clear C h1 e0 e1 e2
            have bN : Below x1.heap.size x1 (x1.alloc (.cells #[.int .i64 a2, .int .i64 m, str s] 30)) := (Below.refl _ _).alloc (Nat.le_refl _) _
            have cN : Cells3 (x1.alloc (.cells #[.int .i64 a2, .int .i64 m, str s] 30)) x1.heap.size a2 m s :=
              ⟨by rw [cell_of_row _ _ 0 _ _ (0, 0) (heap_alloc_new _ _)]; rfl, by rw [cell_of_row _ _ 1 _ _ (0, 0) (heap_alloc_new _ _)]; rfl, by rw [cell_of_row _ _ 2 _ _ (0, 0) (heap_alloc_new _ _)]; rfl⟩
            have hNN : x1.heap.size < (x1.alloc (.cells #[.int .i64 a2, .int .i64 m, str s] 30)).heap.size := by simp
            have k3 := below_then k2 bN (Nat.le_refl _)
            clear bN k2
            go_wp2_with fail
            generalize x1.alloc _ = WA at *
            generalize x1.heap.size = NA at *
            have hmg := HMG.out
            have j0 : Below WA.heap.size WA WA.drew := (Below.refl _ _).drew
            have sxA := SX.out.next k3
            go_region_held3 (fun w' => (w'.cell? ⟨NA, 0, none⟩ = some (.int .i64 a2) ∧ w'.cell? ⟨NA, 1, none⟩ = some (.int .i64 m) ∧ w'.cell? ⟨NA, 2, none⟩ = some (str s)) ∧ Below WA.heap.size WA w')
              (first | exact hold3 cN hNN j0 | exact hold3 cN hNN j1 | exact hold3 cN hNN j2)
              (first | (go_at_call 20; refine (sGatesIn_any _ _ xs _ (sxA.next j0) (Nat.le_refl _) hXS hxn).mono ?_; rintro e y1 ⟨vg, rfl, og, h1⟩; have j1 := below_then j0 h1 (Nat.le_refl _)) |
                (go_at_call 19; refine (hasInt_any _ _ _ m _ og.see).mono ?_; rintro e y2 ⟨rfl, h2⟩; have j2 : Below WA.heap.size WA y2 := h2 ▸ j1; rw [hasI, decide_eq_true hmg]))
            have k4 := below_then k3 j2 (Nat.le_refl _)
            go_wp2
            go_roundw
            case rel => exact ⟨k + 1, by omega, by go_num, k4⟩
            case measure => simp [intOf]; omega
          · have e7 : (a2 == 7) = false := by simpa using h7
            have e8 : (a2 == 8) = false := by simpa using h8
            have e5 : (a2 == 5) = false := by simpa using h5
            have e6 : (a2 == 6) = false := by simpa using h6
            have e10 : (a2 == 10) = false := by simpa using hten
            clear hpl hgt h5 h6 h7 h8 hten
            go_wp2_with fail
            refine (C.out _ (Below.refl _ _)).mono ?_
            rintro e x1 ⟨rfl, h1⟩
            obtain ⟨⟨p0, p1, p2⟩, -⟩ := hold3b e0 e1 e2 h1
            have k2 := below_then hbw h1 (Nat.le_refl _)
            clear C h1 e0 e1 e2
            have bN : Below x1.heap.size x1 (x1.alloc (.cells #[.int .i64 a2, .int .i64 m, str s] 30)) := (Below.refl _ _).alloc (Nat.le_refl _) _
            have cN : Cells3 (x1.alloc (.cells #[.int .i64 a2, .int .i64 m, str s] 30)) x1.heap.size a2 m s :=
              ⟨by rw [cell_of_row _ _ 0 _ _ (0, 0) (heap_alloc_new _ _)]; rfl, by rw [cell_of_row _ _ 1 _ _ (0, 0) (heap_alloc_new _ _)]; rfl, by rw [cell_of_row _ _ 2 _ _ (0, 0) (heap_alloc_new _ _)]; rfl⟩
            have hNN : x1.heap.size < (x1.alloc (.cells #[.int .i64 a2, .int .i64 m, str s] 30)).heap.size := by simp
            have k3 := below_then k2 bN (Nat.le_refl _)
            clear bN k2
            go_wp2_with fail
            generalize x1.alloc _ = WA at *
            generalize x1.heap.size = NA at *
            obtain ⟨q0, q1, q2⟩ := cN
            go_quiet (fail)
            go_wp2
            go_roundw
            case rel => exact ⟨k + 1, by omega, by go_num, below_drewN k3 _⟩
            case measure => simp [intOf]; omega
        · injection he with he1 he2
          injection he2 with he2 he3
          subst he1 he2 he3
          have hi1 : ((k : Int) == (CS.length : Int) - 1) = true := by have := HLN.out; simp; omega
          clear hkc
          go_wp2_with fail
          refine (C.out _ (Below.refl _ _)).mono ?_
          rintro e x1 ⟨rfl, h1⟩
          obtain ⟨⟨p0, p1, p2⟩, -⟩ := hold3b e0 e1 e2 h1
          have k2 := below_then hbw h1 (Nat.le_refl _)
          clear C h1 e0 e1 e2
          have bN : Below x1.heap.size x1 (x1.alloc (.cells #[.int .i64 10, .int .i64 0, str []] 30)) := (Below.refl _ _).alloc (Nat.le_refl _) _
          have cN : Cells3 (x1.alloc (.cells #[.int .i64 10, .int .i64 0, str []] 30)) x1.heap.size 10 0 [] :=
            ⟨by rw [cell_of_row _ _ 0 _ _ (0, 0) (heap_alloc_new _ _)]; rfl, by rw [cell_of_row _ _ 1 _ _ (0, 0) (heap_alloc_new _ _)]; rfl, by rw [cell_of_row _ _ 2 _ _ (0, 0) (heap_alloc_new _ _)]; rfl⟩
          have hNN : x1.heap.size < (x1.alloc (.cells #[.int .i64 10, .int .i64 0, str []] 30)).heap.size := by simp
          have k3 := below_then k2 bN (Nat.le_refl _)
          clear bN k2
          go_wp2_with fail
          generalize x1.alloc _ = WA at *
          generalize x1.heap.size = NA at *
          obtain ⟨q0, q1, q2⟩ := cN
          go_quiet (fail)
          go_wp2
          go_roundw
          case rel => exact ⟨k + 1, by omega, by go_num, below_drewN k3 _⟩
          case measure => simp [intOf]; omega
      · obtain rfl : k = CS.length := by omega
        have bbo := below_then BB.out hbw (Nat.le_refl _)
        go_wp2_with fail
        go_ret
        exact ⟨ret_bool (by simp <;> omega), bbo⟩

end Go.Proofs.YtjcmfdgphhonhaaGreatDoor
