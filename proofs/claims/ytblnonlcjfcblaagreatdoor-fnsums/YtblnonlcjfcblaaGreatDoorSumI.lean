/- Layer 6 (sums): the program's reckoned: the pile's way. Condition: the listed variables hold what the program's text lays (Vars). -/
import Derived.Test.YtblnonlcjfcblaaGreatDoorSumH
import Derived.RegionIn
import Derived.Shelf.RegionOpen
import Derived.Sort.CutIn
import Derived.Sort.QuietIn
import Derived.Maps.AppendAt
namespace Go.Proofs.YtblnonlcjfcblaaGreatDoor
open Go.RowKit
set_option linter.unusedVariables false
attribute [local go_sem] Oper.semAt_some

theorem Tryz.infoI64 : (Tryz.prog.info? 2).map (fun i => (i.zero, i.size, i.bytes)) = some (some (.int .i64 0), 1, 8) := by kernel_rfl

theorem rec_results (tmps : Array Value) (W : World) (p q : Addr) (x y : Value) (h4 : tmps.getD 4 undef = .pointer (some p)) (h5 : tmps.getD 5 undef = .pointer (some q)) (hx : W.cell? p = some x) (hy : W.cell? q = some y) : (results Tryz.f71 tmps).run Tryz.prog W = .ok (.tuple #[x, y]) W := by
  have hr : Tryz.f71.results = #[.cell 4 2, .cell 5 4] := by kernel_rfl
  simp only [results, hr]
  rw [Array.getD_eq_getD_getElem?] at h4 h5
  simp [Sem.run_bind, Result.andThen, h4, h5, hx, hy, go_sem]

/-- The round's frame when the sign has been taken. -/
abbrev recAct (A Au : Option Addr) (m c k cu n : Nat) (i : Int) (x : List UInt8) : Act := { tmps := #[.slice A m c, .slice Au k cu, undef, .pointer (some ⟨n, 0, none⟩), .pointer (some ⟨n + 1, 0, none⟩), .pointer (some ⟨n + 1 + 1, 0, none⟩), .pointer (some ⟨n + 1 + 1 + 1 + 1, 0, none⟩), undef, str x, undef, undef, undef, undef, undef, undef,
  .slice (some ⟨n + 1 + 1 + 1, 0, none⟩) 0 0, .slice A m c, .func (.func 133) #[] #[.pointer (some ⟨n + 1 + 1 + 1 + 1 + 1, 0, none⟩)], .int .i64 i, str x,
  undef, undef, undef, undef, undef, undef, undef, undef, undef, undef, undef, undef, undef, undef, undef, undef, undef, undef, undef, undef, undef, undef, undef, undef, undef, undef, undef, undef, undef, undef, undef, undef, undef, undef, undef, undef, undef, undef, undef, undef, undef, undef, undef, undef, undef, undef, undef, undef, undef, undef], defers := [] }

set_option maxRecDepth 100000 in
set_option maxHeartbeats 4000000 in
theorem reckoned_any (B : Nat) (A Au : Option Addr) (c cu : Nat) (bs : List Bx) (t : Sum) (ht : t.ok) (w : World) (V : Vars w) (h : SeeV w B (.slice A t.flat.length c) (t.flat.map str)) (hu : SeeBx w B (.slice Au bs.length cu) bs) (hB : B ≤ w.heap.size)
    (hS : shortS t.flat) (hn : t.flat.length ≤ 1048576) : Calls Tryz.prog 71 #[.slice A t.flat.length c, .slice Au bs.length cu] w (RdLt (evalT bs t) w) := by
  refine (callsIn_wide (n := 3)).1 ?_
  refine callsIn_of_wp_marks Tryz.func71 rfl trivial ?_ rfl
  simp only [Tryz.ntmps71, List.size_toArray, List.length_cons, List.length_nil, Nat.reduceAdd, Nat.reduceSub, Array.replicate_succ, Array.replicate_zero, List.push_toArray, List.append_toArray, List.nil_append, List.cons_append]
  gi_wp2_with (refine ⟨trivial, ?_⟩; gi_at_call 107; refine (callsIn_wide.2 (backward_any _ _ _ _)).mono ?_; rintro e w' ⟨rfl, rfl⟩)
  obtain ⟨n, hnw⟩ : ∃ n, n = w.heap.size := ⟨_, rfl⟩
  obtain ⟨W0, hW0⟩ : ∃ W0, W0 = ((((((w.alloc (.cells #[.slice Au bs.length cu] 44)).alloc (.cells #[.int .i64 0] 2)).alloc (.cells #[.bool false] 4)).alloc (.cells #[] 2)).alloc
      (.cells #[.slice (some ⟨w.heap.size + 1 + 1 + 1, 0, none⟩) 0 0] 31)).alloc (.cells #[.slice A t.flat.length c] 22)) := ⟨_, rfl⟩
  rw [← hW0, ← hnw]
  have hsz : W0.heap.size = n + 1 + 1 + 1 + 1 + 1 + 1 := by rw [hW0, hnw]; simp
  have hbelow : Below n w W0 := by
    rw [hW0, hnw]
    exact ((((((Below.refl _ w).alloc (Nat.le_refl _) _).alloc (by simp) _).alloc (by simp; omega) _).alloc (by simp; omega) _).alloc (by simp; omega) _).alloc (by simp; omega) _
  have hback : Boxed W0 (n + 1 + 1 + 1 + 1 + 1) 22 (.slice A t.flat.length c) := by
    rw [hW0, hnw]
    have := Boxed.new (((((w.alloc (.cells #[.slice Au bs.length cu] 44)).alloc (.cells #[.int .i64 0] 2)).alloc (.cells #[.bool false] 4)).alloc (.cells #[] 2)).alloc
      (.cells #[.slice (some ⟨w.heap.size + 1 + 1 + 1, 0, none⟩) 0 0] 31)) 22 (.slice A t.flat.length c)
    simpa using this
  have hpile : Pile n w (.slice Au bs.length cu) [] (.slice (some ⟨n + 1 + 1 + 1, 0, none⟩) 0 0) W0 := by
    refine ⟨?_, ?_, ?_, ?_, ?_, hbelow⟩
    · rw [hW0, hnw]
      have := (Boxed.new ((((w.alloc (.cells #[.slice Au bs.length cu] 44)).alloc (.cells #[.int .i64 0] 2)).alloc (.cells #[.bool false] 4)).alloc (.cells #[] 2)) 31 (.slice (some ⟨w.heap.size + 1 + 1 + 1, 0, none⟩) 0 0)).alloc (.cells #[.slice A t.flat.length c] 22)
      simpa using this
    · rw [hW0, hnw]
      have := World.ownsRow_made (e := 2) (size := 1) (base := w.heap.size + 1 + 1 + 1) (((w.alloc (.cells #[.slice Au bs.length cu] 44)).alloc (.cells #[.int .i64 0] 2)).alloc (.cells #[.bool false] 4)) #[] 0 (by simp) (Nat.zero_le _) rfl
      simp only [World.size_alloc] at this
      exact (World.ownsRow.alloc (World.ownsRow.alloc this _) _)
    · rw [hW0, hnw]
      exact (((((Boxed.new w 44 (.slice Au bs.length cu)).alloc _).alloc _).alloc _).alloc _).alloc _
    · rw [hW0, hnw]
      have := ((((Boxed.new (w.alloc (.cells #[.slice Au bs.length cu] 44)) 2 (.int .i64 0)).alloc (.cells #[.bool false] 4)).alloc (.cells #[] 2)).alloc (.cells #[.slice (some ⟨w.heap.size + 1 + 1 + 1, 0, none⟩) 0 0] 31)).alloc (.cells #[.slice A t.flat.length c] 22)
      simpa using this
    · rw [hW0, hnw]
      have := (((Boxed.new ((w.alloc (.cells #[.slice Au bs.length cu] 44)).alloc (.cells #[.int .i64 0] 2)) 4 (.bool false)).alloc (.cells #[] 2)).alloc (.cells #[.slice (some ⟨w.heap.size + 1 + 1 + 1, 0, none⟩) 0 0] 31)).alloc (.cells #[.slice A t.flat.length c] 22)
      simpa using this
  clear hW0
  have hnw2 : n ≤ w.heap.size := by omega
  have hBn : B ≤ n := by omega
  have HNW := Lib.hid hnw
  have HSZ := Lib.hid hsz
  have hseq := backward_feeds (3 - 1) (by omega) t.flat hn (n + 1 + 1 + 1 + 1 + 1) n (.slice A t.flat.length c) W0 hback ((h.more (by omega)).below hbelow) (by omega)
  clear hnw hsz
  refine wp_feeds (n := 3) (by omega) (gf := 133) (lb := #[.pointer (some ⟨n + 1 + 1 + 1 + 1 + 1, 0, none⟩)]) rfl (enters_of Tryz.func133 (by kernel_rfl) rfl) hseq (fun q1 q2 => q1.trans q2) ?_ (fun _ _ => rfl)
    (fun k W => ∃ p v, runR bs (t.flat.reverse.take k) [] = some p ∧ p.length ≤ k ∧ Pile n w (.slice Au bs.length cu) p v W ∧ Boxed W (n + 1 + 1 + 1 + 1 + 1) 22 (.slice A t.flat.length c))
    (fun W => evalT bs t = none ∧ ∃ p v, Pile n w (.slice Au bs.length cu) p v W) ?_ ?_ ⟨[], _, rfl, Nat.le_refl _, hpile, hback⟩
    (fun k => recAct A Au t.flat.length c bs.length cu n ((t.flat.length : Int) - 1 - k) (t.flat.getD (t.flat.length - 1 - k) [])) ?assign ?body ?done ?stop
  case assign =>
    intro l k W K hk hK
    unfold backArg
    generalize t.flat.getD (t.flat.length - 1 - k) [] = x at hK ⊢
    generalize (t.flat.length : Int) - 1 - k = i at hK ⊢
    gi_wp2
    exact hK
  case stop =>
    rintro D W hD ⟨he, p, v, hp⟩ hK
    have hr := hp.res.cell
    have hy := hp.yes.cell
    unfold marked
    gi_wp2
    refine ⟨by simp, .inl ⟨_, _, rfl, run_takeDeferred hK, ?_⟩⟩
    have hg := grownBy_putObj' W D (.deferred none)
    have hp2 := hp.kept hnw2 hg (fun r e => by cases e; exact ⟨by have := HSZ.out; omega, _, hK, rfl⟩)
    have hr2 := hp2.res.cell
    have hy2 := hp2.yes.cell
    exact ⟨_, rec_results _ _ _ _ _ _ rfl rfl hr2 hy2, rd_none he, HNW.out ▸ hp2.old⟩
  case done =>
    rintro D W hD ⟨p, v, hrun, hpk, hp, -⟩ hK
    obtain ⟨z, hz, rfl⟩ := run_end ht hrun
    obtain ⟨g, cap, rfl⟩ := ownsRow_succ hp.row
    have hr := hp.res.cell
    have hrf := hp.res.frozen
    have hy := hp.yes.cell
    have hyf := hp.yes.frozen
    have hb := hp.box.cell
    have hz0 : W.cell? ⟨g, 0, none⟩ = some (.int .i64 z) := hp.at_ (k := 0) rfl
    have hne : g ≠ n + 1 := by
      have := (World.ownsRow.lt hp.row g rfl).1
      omega
    have HZ := Lib.hid hz
    clear hz
    have HB := Lib.hid hp
    clear hp hrun
    unfold marked
    gi_wp2
    have k1 := (KeepsOthers.setCell W ⟨n + 1, 0, none⟩ (.int .i64 z)).same D _ hK rfl
    have k2 := (KeepsOthers.setCell _ ⟨n + 1 + 1, 0, none⟩ (.bool true)).same D _ k1 rfl
    refine ⟨by simp, .inl ⟨_, _, rfl, run_takeDeferred k2, ?_⟩⟩
    have r1 := HB.out.res.set (.int .i64 z)
    have y1 := HB.out.yes.kept (grownBy_setCell' W (n + 1) (.int .i64 z)) (by simp)
    have r2 := r1.kept (grownBy_setCell' _ (n + 1 + 1) (.bool true)) (by simp)
    have y2 := y1.set (.bool true)
    have hg := grownBy_putObj' ((W.setCell ⟨n + 1, 0, none⟩ (.int .i64 z)).setCell ⟨n + 1 + 1, 0, none⟩ (.bool true)) D (.deferred none)
    have r3 := (boxed_no r2 hg (fun r e => by cases e; exact ⟨_, k2, rfl⟩)).cell
    have y3 := (boxed_no y2 hg (fun r e => by cases e; exact ⟨_, k2, rfl⟩)).cell
    refine ⟨_, rec_results _ _ _ _ _ _ rfl rfl r3 y3, rd_some HZ.out, HNW.out ▸ ?_⟩
    exact ((HB.out.old.setCell (p := ⟨n + 1, 0, none⟩) (by simp) _).setCell (p := ⟨n + 1 + 1, 0, none⟩) (by simp; omega) _).grown hg (Nat.le_trans hnw2 (Nat.le_trans HB.out.old.size (by simp))) (fun j e => by cases e; have := HSZ.out; omega)
  case body =>
    rintro l k W hk ⟨p, v, hrun, hpk, hp, hbk⟩
    have hi : t.flat.length - 1 - k < t.flat.length := by omega
    have hx := List.getElem?_eq_getElem hi
    rw [List.getD_eq_getElem?_getD, hx, Option.getD_some]
    generalize t.flat[t.flat.length - 1 - k]'(_) = x at hx ⊢
    have hmem := List.mem_of_getElem? hx
    have hsx := hS x hmem
    generalize (t.flat.length : Int) - 1 - k = i
    have HC := Lib.hid (shape_any x hsx W (V.below (HNW.out ▸ hp.old)))
    have HT := Lib.hid ht
    have HR := Lib.hid hrun
    have HX := Lib.hid hx
    clear hrun hx
    obtain ⟨i0, hi0, hz0, hz1, hz2⟩ := info_parts Tryz.infoI64
    by_cases ho : opN x = 0
    · have hlf := flat_ok t ht x hmem ho
      cases hnm : nameB x
      · cases hrd : rdS x with
        | none => rw [leaf_name hrd, hnm] at hlf; cases hlf
        | some y =>
          have HE : Hid (runR bs (t.flat.reverse.take (k + 1)) [] = some (y :: p)) := Lib.hid (by
            have := run_leaf hk HX.out HR.out ho
            unfold leafV at this
            rwa [hrd] at this)
          rw [shape_word ho hnm hrd] at HC
          have qw := as_ww
          clear hlf ho hnm hrd ht
          gi_wp2_with first
          | (refine ⟨trivial, ?_⟩; gi_at_call 68; refine (CallsIn.inRound l (callsIn_wide.2 HC.out)).mono ?_; rintro e W1 ⟨rfl, b1⟩; have hp1 := hp.later hnw2 b1; have hb1 := hp1.box.cell; have hu1 := hp1.bxs.cell)
          | (gi_at_builtin; refine wpListIn_append_own _ rfl _ _ 31 rfl (n + 1 + 1 + 1) 2 i0 (.int .i64 0) 1 8 Tryz.underlying31 hi0 hz0 hz1 hz2 rfl (by decide) _ _ _ rfl (World.ownsRow.alloc hp1.row _) ⟨W1.heap.size, 0, none⟩ 1 1 [.int .i64 y] rfl rfl (cell_one_new _ _ _) (by simp [Value.oneCell']) (by unfold maxLen; omega) (by omega) (by simp; have := hp1.box.lt; omega) ?_; intro v' w1 hown' hgrow _; obtain ⟨g', cap', rfl⟩ := ownsRow_succ hown'; obtain ⟨x1, x2, x3, x4, x5⟩ := hp1.push (p' := y :: p) hnw2 (Boxed.later hbk b1) (by rw [List.reverse_cons, List.map_append]; exact hown') hgrow; have hc1 := x1.cell; have hf1 := x1.frozen)
          exact ⟨(keeps_of_below b1).trans (x3.from _), keepbox_mk ((b1.mono hp.le).trans x4) hbk x5, _, _, HE.out, by simp; omega, x2, x5⟩
      · have HE : Hid (runR bs (t.flat.reverse.take (k + 1)) [] = some (valueS bs x :: p)) := Lib.hid (by
          have := run_leaf hk HX.out HR.out ho
          unfold leafV at this
          rwa [name_no_word hnm] at this)
        rw [shape_name ho hnm] at HC
        have qw := as_nw
        have qn := as_nn
        have hmx : Tryz.prog.follows .mixedOrders = true := by kernel_rfl
        clear hlf ho hnm ht
        gi_wp2_with first
          | (refine ⟨trivial, ?_⟩; gi_at_call 68; refine (CallsIn.inRound l (callsIn_wide.2 HC.out)).mono ?_; rintro e W1 ⟨rfl, b1⟩; have hp1 := hp.later hnw2 b1; have hb1 := hp1.box.cell; have hu1 := hp1.bxs.cell)
        have bd : Below W1.heap.size W1 W1.drew := (Below.refl _ _).drew
        have hpd := hp1.later hnw2 bd
        have hud := hu.below (hpd.old.mono hBn)
        have hBd := Nat.le_trans hBn hpd.le
        refine wpIn_region_any hmx ?_
        change wpAnyIn _ _ _ _ _ _ _ _ _ (World.drew _)
        refine wpAnyIn_ready (rs := [0, 1, 2]) (by kernel_rfl) (by simp) ?_
        refine AllReadyIn.cons rfl (fun K hK => ?_) ?_
        · skip
          go_simp
          refine hK _ _ ?_; clear hK K
          refine wpAnyIn_ready (rs := [1, 2]) (by kernel_rfl) (by simp) ?_
          refine AllReadyIn.cons rfl (fun K hK => ?_) ?_
          · skip
            go_simp
            refine hK _ _ ?_; clear hK K
            refine wpAnyIn_ready (rs := [2]) (by kernel_rfl) (by simp) ?_
            refine AllReadyIn.cons rfl (fun K hK => ?_) ?_
            · skip
              go_simp
              refine hK _ _ ?_; clear hK K
              refine wpAnyIn_ready (rs := [3]) (by kernel_rfl) (by simp) ?_
              refine AllReadyIn.cons rfl (fun K hK => ?_) ?_
              · skip
                go_simp
                gi_wp2_with (refine ⟨trivial, ?_⟩; gi_at_call 108; refine (CallsIn.inRound l (callsIn_wide.2 (iValueIn_any B _ bs x _ hud hBd))).mono ?_; rintro e W2 ⟨rfl, b2⟩; have hp2 := hpd.later hnw2 b2; have hb2 := hp2.box.cell; have hal := fun o => (World.cell?_alloc_lt W2 o ⟨n + 1 + 1 + 1 + 1, 0, none⟩ hp2.box.lt).trans hb2)
                refine wpAnyIn_ready (rs := [4]) (by kernel_rfl) (by simp) ?_
                refine AllReadyIn.cons rfl (fun K hK => ?_) ?_
                · skip
                  go_simp
                  refine hK _ _ ?_; clear hK K
                  refine wpAnyIn_ready (rs := [5]) (by kernel_rfl) (by simp) ?_
                  refine AllReadyIn.cons rfl (fun K hK => ?_) ?_
                  · skip
                    refine stepIn_append _ rfl _ _ 31 rfl (n + 1 + 1 + 1) 2 i0 (.int .i64 0) 1 8 Tryz.underlying31 hi0 hz0 hz1 hz2 rfl (by decide) _ _ _ rfl (World.ownsRow.alloc hp2.row _) ⟨W2.heap.size, 0, none⟩ 1 1 [.int .i64 (valueS bs x)] rfl rfl (cell_one_new _ _ _) (by simp [Value.oneCell']) (by unfold maxLen; omega) (by omega) (by simp; have := hp2.box.lt; omega) ?_
                    intro v' w1 hown' hgrow
                    obtain ⟨g', cap', rfl⟩ := ownsRow_succ hown'
                    obtain ⟨x1, x2, x3, x4, x5⟩ := hp2.push (p' := valueS bs x :: p) hnw2 (Boxed.later (Boxed.later (Boxed.later hbk b1) bd) b2) (by rw [List.reverse_cons, List.map_append]; exact hown') hgrow
                    have hc1 := x1.cell
                    have hf1 := x1.frozen
                    refine hK _ _ ?_; clear hK K
                    refine wpAnyIn_ready (rs := [6]) (by kernel_rfl) (by simp) ?_
                    refine AllReadyIn.cons rfl (fun K hK => ?_) ?_
                    · skip
                      go_simp
                      refine hK _ _ ?_; clear hK K
                      refine wpAnyIn_done (by kernel_rfl) ?_ _
                      gi_wp2
                      exact ⟨(((keeps_of_below b1).trans (keeps_of_below bd)).trans (keeps_of_below b2)).trans (x3.from _), keepbox_mk ((b1.mono hp.le).trans ((bd.mono hp1.le).trans ((b2.mono hpd.le).trans x4))) hbk x5, _, _, HE.out, by simp; omega, x2, x5⟩
                    exact AllReadyIn.nil
                  exact AllReadyIn.nil
                exact AllReadyIn.nil
              exact AllReadyIn.nil
            exact AllReadyIn.nil
          refine AllReadyIn.cons rfl (fun K hK => ?_) ?_
          · skip
            go_simp
            refine hK _ _ ?_; clear hK K
            refine wpAnyIn_ready (rs := [1]) (by kernel_rfl) (by simp) ?_
            refine AllReadyIn.cons rfl (fun K hK => ?_) ?_
            · skip
              go_simp
              refine hK _ _ ?_; clear hK K
              refine wpAnyIn_ready (rs := [3]) (by kernel_rfl) (by simp) ?_
              refine AllReadyIn.cons rfl (fun K hK => ?_) ?_
              · skip
                go_simp
                gi_wp2_with (refine ⟨trivial, ?_⟩; gi_at_call 108; refine (CallsIn.inRound l (callsIn_wide.2 (iValueIn_any B _ bs x _ hud hBd))).mono ?_; rintro e W2 ⟨rfl, b2⟩; have hp2 := hpd.later hnw2 b2; have hb2 := hp2.box.cell; have hal := fun o => (World.cell?_alloc_lt W2 o ⟨n + 1 + 1 + 1 + 1, 0, none⟩ hp2.box.lt).trans hb2)
                refine wpAnyIn_ready (rs := [4]) (by kernel_rfl) (by simp) ?_
                refine AllReadyIn.cons rfl (fun K hK => ?_) ?_
                · skip
                  go_simp
                  refine hK _ _ ?_; clear hK K
                  refine wpAnyIn_ready (rs := [5]) (by kernel_rfl) (by simp) ?_
                  refine AllReadyIn.cons rfl (fun K hK => ?_) ?_
                  · skip
                    refine stepIn_append _ rfl _ _ 31 rfl (n + 1 + 1 + 1) 2 i0 (.int .i64 0) 1 8 Tryz.underlying31 hi0 hz0 hz1 hz2 rfl (by decide) _ _ _ rfl (World.ownsRow.alloc hp2.row _) ⟨W2.heap.size, 0, none⟩ 1 1 [.int .i64 (valueS bs x)] rfl rfl (cell_one_new _ _ _) (by simp [Value.oneCell']) (by unfold maxLen; omega) (by omega) (by simp; have := hp2.box.lt; omega) ?_
                    intro v' w1 hown' hgrow
                    obtain ⟨g', cap', rfl⟩ := ownsRow_succ hown'
                    obtain ⟨x1, x2, x3, x4, x5⟩ := hp2.push (p' := valueS bs x :: p) hnw2 (Boxed.later (Boxed.later (Boxed.later hbk b1) bd) b2) (by rw [List.reverse_cons, List.map_append]; exact hown') hgrow
                    have hc1 := x1.cell
                    have hf1 := x1.frozen
                    refine hK _ _ ?_; clear hK K
                    refine wpAnyIn_ready (rs := [6]) (by kernel_rfl) (by simp) ?_
                    refine AllReadyIn.cons rfl (fun K hK => ?_) ?_
                    · skip
                      go_simp
                      refine hK _ _ ?_; clear hK K
                      refine wpAnyIn_done (by kernel_rfl) ?_ _
                      gi_wp2
                      exact ⟨(((keeps_of_below b1).trans (keeps_of_below bd)).trans (keeps_of_below b2)).trans (x3.from _), keepbox_mk ((b1.mono hp.le).trans ((bd.mono hp1.le).trans ((b2.mono hpd.le).trans x4))) hbk x5, _, _, HE.out, by simp; omega, x2, x5⟩
                    exact AllReadyIn.nil
                  exact AllReadyIn.nil
                exact AllReadyIn.nil
              exact AllReadyIn.nil
            exact AllReadyIn.nil
          exact AllReadyIn.nil
        refine AllReadyIn.cons rfl (fun K hK => ?_) ?_
        · skip
          go_simp
          refine hK _ _ ?_; clear hK K
          refine wpAnyIn_ready (rs := [0, 2]) (by kernel_rfl) (by simp) ?_
          refine AllReadyIn.cons rfl (fun K hK => ?_) ?_
          · skip
            go_simp
            refine hK _ _ ?_; clear hK K
            refine wpAnyIn_ready (rs := [2]) (by kernel_rfl) (by simp) ?_
            refine AllReadyIn.cons rfl (fun K hK => ?_) ?_
            · skip
              go_simp
              refine hK _ _ ?_; clear hK K
              refine wpAnyIn_ready (rs := [3]) (by kernel_rfl) (by simp) ?_
              refine AllReadyIn.cons rfl (fun K hK => ?_) ?_
              · skip
                go_simp
                gi_wp2_with (refine ⟨trivial, ?_⟩; gi_at_call 108; refine (CallsIn.inRound l (callsIn_wide.2 (iValueIn_any B _ bs x _ hud hBd))).mono ?_; rintro e W2 ⟨rfl, b2⟩; have hp2 := hpd.later hnw2 b2; have hb2 := hp2.box.cell; have hal := fun o => (World.cell?_alloc_lt W2 o ⟨n + 1 + 1 + 1 + 1, 0, none⟩ hp2.box.lt).trans hb2)
                refine wpAnyIn_ready (rs := [4]) (by kernel_rfl) (by simp) ?_
                refine AllReadyIn.cons rfl (fun K hK => ?_) ?_
                · skip
                  go_simp
                  refine hK _ _ ?_; clear hK K
                  refine wpAnyIn_ready (rs := [5]) (by kernel_rfl) (by simp) ?_
                  refine AllReadyIn.cons rfl (fun K hK => ?_) ?_
                  · skip
                    refine stepIn_append _ rfl _ _ 31 rfl (n + 1 + 1 + 1) 2 i0 (.int .i64 0) 1 8 Tryz.underlying31 hi0 hz0 hz1 hz2 rfl (by decide) _ _ _ rfl (World.ownsRow.alloc hp2.row _) ⟨W2.heap.size, 0, none⟩ 1 1 [.int .i64 (valueS bs x)] rfl rfl (cell_one_new _ _ _) (by simp [Value.oneCell']) (by unfold maxLen; omega) (by omega) (by simp; have := hp2.box.lt; omega) ?_
                    intro v' w1 hown' hgrow
                    obtain ⟨g', cap', rfl⟩ := ownsRow_succ hown'
                    obtain ⟨x1, x2, x3, x4, x5⟩ := hp2.push (p' := valueS bs x :: p) hnw2 (Boxed.later (Boxed.later (Boxed.later hbk b1) bd) b2) (by rw [List.reverse_cons, List.map_append]; exact hown') hgrow
                    have hc1 := x1.cell
                    have hf1 := x1.frozen
                    refine hK _ _ ?_; clear hK K
                    refine wpAnyIn_ready (rs := [6]) (by kernel_rfl) (by simp) ?_
                    refine AllReadyIn.cons rfl (fun K hK => ?_) ?_
                    · skip
                      go_simp
                      refine hK _ _ ?_; clear hK K
                      refine wpAnyIn_done (by kernel_rfl) ?_ _
                      gi_wp2
                      exact ⟨(((keeps_of_below b1).trans (keeps_of_below bd)).trans (keeps_of_below b2)).trans (x3.from _), keepbox_mk ((b1.mono hp.le).trans ((bd.mono hp1.le).trans ((b2.mono hpd.le).trans x4))) hbk x5, _, _, HE.out, by simp; omega, x2, x5⟩
                    exact AllReadyIn.nil
                  exact AllReadyIn.nil
                exact AllReadyIn.nil
              exact AllReadyIn.nil
            exact AllReadyIn.nil
          refine AllReadyIn.cons rfl (fun K hK => ?_) ?_
          · skip
            go_simp
            refine hK _ _ ?_; clear hK K
            refine wpAnyIn_ready (rs := [0, 3]) (by kernel_rfl) (by simp) ?_
            refine AllReadyIn.cons rfl (fun K hK => ?_) ?_
            · skip
              go_simp
              refine hK _ _ ?_; clear hK K
              refine wpAnyIn_ready (rs := [3]) (by kernel_rfl) (by simp) ?_
              refine AllReadyIn.cons rfl (fun K hK => ?_) ?_
              · skip
                go_simp
                gi_wp2_with (refine ⟨trivial, ?_⟩; gi_at_call 108; refine (CallsIn.inRound l (callsIn_wide.2 (iValueIn_any B _ bs x _ hud hBd))).mono ?_; rintro e W2 ⟨rfl, b2⟩; have hp2 := hpd.later hnw2 b2; have hb2 := hp2.box.cell; have hal := fun o => (World.cell?_alloc_lt W2 o ⟨n + 1 + 1 + 1 + 1, 0, none⟩ hp2.box.lt).trans hb2)
                refine wpAnyIn_ready (rs := [4]) (by kernel_rfl) (by simp) ?_
                refine AllReadyIn.cons rfl (fun K hK => ?_) ?_
                · skip
                  go_simp
                  refine hK _ _ ?_; clear hK K
                  refine wpAnyIn_ready (rs := [5]) (by kernel_rfl) (by simp) ?_
                  refine AllReadyIn.cons rfl (fun K hK => ?_) ?_
                  · skip
                    refine stepIn_append _ rfl _ _ 31 rfl (n + 1 + 1 + 1) 2 i0 (.int .i64 0) 1 8 Tryz.underlying31 hi0 hz0 hz1 hz2 rfl (by decide) _ _ _ rfl (World.ownsRow.alloc hp2.row _) ⟨W2.heap.size, 0, none⟩ 1 1 [.int .i64 (valueS bs x)] rfl rfl (cell_one_new _ _ _) (by simp [Value.oneCell']) (by unfold maxLen; omega) (by omega) (by simp; have := hp2.box.lt; omega) ?_
                    intro v' w1 hown' hgrow
                    obtain ⟨g', cap', rfl⟩ := ownsRow_succ hown'
                    obtain ⟨x1, x2, x3, x4, x5⟩ := hp2.push (p' := valueS bs x :: p) hnw2 (Boxed.later (Boxed.later (Boxed.later hbk b1) bd) b2) (by rw [List.reverse_cons, List.map_append]; exact hown') hgrow
                    have hc1 := x1.cell
                    have hf1 := x1.frozen
                    refine hK _ _ ?_; clear hK K
                    refine wpAnyIn_ready (rs := [6]) (by kernel_rfl) (by simp) ?_
                    refine AllReadyIn.cons rfl (fun K hK => ?_) ?_
                    · skip
                      go_simp
                      refine hK _ _ ?_; clear hK K
                      refine wpAnyIn_done (by kernel_rfl) ?_ _
                      gi_wp2
                      exact ⟨(((keeps_of_below b1).trans (keeps_of_below bd)).trans (keeps_of_below b2)).trans (x3.from _), keepbox_mk ((b1.mono hp.le).trans ((bd.mono hp1.le).trans ((b2.mono hpd.le).trans x4))) hbk x5, _, _, HE.out, by simp; omega, x2, x5⟩
                    exact AllReadyIn.nil
                  exact AllReadyIn.nil
                exact AllReadyIn.nil
              exact AllReadyIn.nil
            refine AllReadyIn.cons rfl (fun K hK => ?_) ?_
            · skip
              go_simp
              gi_wp2_with (refine ⟨trivial, ?_⟩; gi_at_call 108; refine (CallsIn.inRound l (callsIn_wide.2 (iValueIn_any B _ bs x _ hud hBd))).mono ?_; rintro e W2 ⟨rfl, b2⟩; have hp2 := hpd.later hnw2 b2; have hb2 := hp2.box.cell; have hal := fun o => (World.cell?_alloc_lt W2 o ⟨n + 1 + 1 + 1 + 1, 0, none⟩ hp2.box.lt).trans hb2)
              refine wpAnyIn_ready (rs := [0, 4]) (by kernel_rfl) (by simp) ?_
              refine AllReadyIn.cons rfl (fun K hK => ?_) ?_
              · skip
                go_simp
                refine hK _ _ ?_; clear hK K
                refine wpAnyIn_ready (rs := [4]) (by kernel_rfl) (by simp) ?_
                refine AllReadyIn.cons rfl (fun K hK => ?_) ?_
                · skip
                  go_simp
                  refine hK _ _ ?_; clear hK K
                  refine wpAnyIn_ready (rs := [5]) (by kernel_rfl) (by simp) ?_
                  refine AllReadyIn.cons rfl (fun K hK => ?_) ?_
                  · skip
                    refine stepIn_append _ rfl _ _ 31 rfl (n + 1 + 1 + 1) 2 i0 (.int .i64 0) 1 8 Tryz.underlying31 hi0 hz0 hz1 hz2 rfl (by decide) _ _ _ rfl (World.ownsRow.alloc hp2.row _) ⟨W2.heap.size, 0, none⟩ 1 1 [.int .i64 (valueS bs x)] rfl rfl (cell_one_new _ _ _) (by simp [Value.oneCell']) (by unfold maxLen; omega) (by omega) (by simp; have := hp2.box.lt; omega) ?_
                    intro v' w1 hown' hgrow
                    obtain ⟨g', cap', rfl⟩ := ownsRow_succ hown'
                    obtain ⟨x1, x2, x3, x4, x5⟩ := hp2.push (p' := valueS bs x :: p) hnw2 (Boxed.later (Boxed.later (Boxed.later hbk b1) bd) b2) (by rw [List.reverse_cons, List.map_append]; exact hown') hgrow
                    have hc1 := x1.cell
                    have hf1 := x1.frozen
                    refine hK _ _ ?_; clear hK K
                    refine wpAnyIn_ready (rs := [6]) (by kernel_rfl) (by simp) ?_
                    refine AllReadyIn.cons rfl (fun K hK => ?_) ?_
                    · skip
                      go_simp
                      refine hK _ _ ?_; clear hK K
                      refine wpAnyIn_done (by kernel_rfl) ?_ _
                      gi_wp2
                      exact ⟨(((keeps_of_below b1).trans (keeps_of_below bd)).trans (keeps_of_below b2)).trans (x3.from _), keepbox_mk ((b1.mono hp.le).trans ((bd.mono hp1.le).trans ((b2.mono hpd.le).trans x4))) hbk x5, _, _, HE.out, by simp; omega, x2, x5⟩
                    exact AllReadyIn.nil
                  exact AllReadyIn.nil
                exact AllReadyIn.nil
              refine AllReadyIn.cons rfl (fun K hK => ?_) ?_
              · skip
                go_simp
                refine hK _ _ ?_; clear hK K
                refine wpAnyIn_ready (rs := [0]) (by kernel_rfl) (by simp) ?_
                refine AllReadyIn.cons rfl (fun K hK => ?_) ?_
                · skip
                  go_simp
                  refine hK _ _ ?_; clear hK K
                  refine wpAnyIn_ready (rs := [5]) (by kernel_rfl) (by simp) ?_
                  refine AllReadyIn.cons rfl (fun K hK => ?_) ?_
                  · skip
                    refine stepIn_append _ rfl _ _ 31 rfl (n + 1 + 1 + 1) 2 i0 (.int .i64 0) 1 8 Tryz.underlying31 hi0 hz0 hz1 hz2 rfl (by decide) _ _ _ rfl (World.ownsRow.alloc hp2.row _) ⟨W2.heap.size, 0, none⟩ 1 1 [.int .i64 (valueS bs x)] rfl rfl (cell_one_new _ _ _) (by simp [Value.oneCell']) (by unfold maxLen; omega) (by omega) (by simp; have := hp2.box.lt; omega) ?_
                    intro v' w1 hown' hgrow
                    obtain ⟨g', cap', rfl⟩ := ownsRow_succ hown'
                    obtain ⟨x1, x2, x3, x4, x5⟩ := hp2.push (p' := valueS bs x :: p) hnw2 (Boxed.later (Boxed.later (Boxed.later hbk b1) bd) b2) (by rw [List.reverse_cons, List.map_append]; exact hown') hgrow
                    have hc1 := x1.cell
                    have hf1 := x1.frozen
                    refine hK _ _ ?_; clear hK K
                    refine wpAnyIn_ready (rs := [6]) (by kernel_rfl) (by simp) ?_
                    refine AllReadyIn.cons rfl (fun K hK => ?_) ?_
                    · skip
                      go_simp
                      refine hK _ _ ?_; clear hK K
                      refine wpAnyIn_done (by kernel_rfl) ?_ _
                      gi_wp2
                      exact ⟨(((keeps_of_below b1).trans (keeps_of_below bd)).trans (keeps_of_below b2)).trans (x3.from _), keepbox_mk ((b1.mono hp.le).trans ((bd.mono hp1.le).trans ((b2.mono hpd.le).trans x4))) hbk x5, _, _, HE.out, by simp; omega, x2, x5⟩
                    exact AllReadyIn.nil
                  exact AllReadyIn.nil
                exact AllReadyIn.nil
              exact AllReadyIn.nil
            exact AllReadyIn.nil
          exact AllReadyIn.nil
        refine AllReadyIn.cons rfl (fun K hK => ?_) ?_
        · skip
          go_simp
          refine hK _ _ ?_; clear hK K
          refine wpAnyIn_ready (rs := [0, 1]) (by kernel_rfl) (by simp) ?_
          refine AllReadyIn.cons rfl (fun K hK => ?_) ?_
          · skip
            go_simp
            refine hK _ _ ?_; clear hK K
            refine wpAnyIn_ready (rs := [1]) (by kernel_rfl) (by simp) ?_
            refine AllReadyIn.cons rfl (fun K hK => ?_) ?_
            · skip
              go_simp
              refine hK _ _ ?_; clear hK K
              refine wpAnyIn_ready (rs := [3]) (by kernel_rfl) (by simp) ?_
              refine AllReadyIn.cons rfl (fun K hK => ?_) ?_
              · skip
                go_simp
                gi_wp2_with (refine ⟨trivial, ?_⟩; gi_at_call 108; refine (CallsIn.inRound l (callsIn_wide.2 (iValueIn_any B _ bs x _ hud hBd))).mono ?_; rintro e W2 ⟨rfl, b2⟩; have hp2 := hpd.later hnw2 b2; have hb2 := hp2.box.cell; have hal := fun o => (World.cell?_alloc_lt W2 o ⟨n + 1 + 1 + 1 + 1, 0, none⟩ hp2.box.lt).trans hb2)
                refine wpAnyIn_ready (rs := [4]) (by kernel_rfl) (by simp) ?_
                refine AllReadyIn.cons rfl (fun K hK => ?_) ?_
                · skip
                  go_simp
                  refine hK _ _ ?_; clear hK K
                  refine wpAnyIn_ready (rs := [5]) (by kernel_rfl) (by simp) ?_
                  refine AllReadyIn.cons rfl (fun K hK => ?_) ?_
                  · skip
                    refine stepIn_append _ rfl _ _ 31 rfl (n + 1 + 1 + 1) 2 i0 (.int .i64 0) 1 8 Tryz.underlying31 hi0 hz0 hz1 hz2 rfl (by decide) _ _ _ rfl (World.ownsRow.alloc hp2.row _) ⟨W2.heap.size, 0, none⟩ 1 1 [.int .i64 (valueS bs x)] rfl rfl (cell_one_new _ _ _) (by simp [Value.oneCell']) (by unfold maxLen; omega) (by omega) (by simp; have := hp2.box.lt; omega) ?_
                    intro v' w1 hown' hgrow
                    obtain ⟨g', cap', rfl⟩ := ownsRow_succ hown'
                    obtain ⟨x1, x2, x3, x4, x5⟩ := hp2.push (p' := valueS bs x :: p) hnw2 (Boxed.later (Boxed.later (Boxed.later hbk b1) bd) b2) (by rw [List.reverse_cons, List.map_append]; exact hown') hgrow
                    have hc1 := x1.cell
                    have hf1 := x1.frozen
                    refine hK _ _ ?_; clear hK K
                    refine wpAnyIn_ready (rs := [6]) (by kernel_rfl) (by simp) ?_
                    refine AllReadyIn.cons rfl (fun K hK => ?_) ?_
                    · skip
                      go_simp
                      refine hK _ _ ?_; clear hK K
                      refine wpAnyIn_done (by kernel_rfl) ?_ _
                      gi_wp2
                      exact ⟨(((keeps_of_below b1).trans (keeps_of_below bd)).trans (keeps_of_below b2)).trans (x3.from _), keepbox_mk ((b1.mono hp.le).trans ((bd.mono hp1.le).trans ((b2.mono hpd.le).trans x4))) hbk x5, _, _, HE.out, by simp; omega, x2, x5⟩
                    exact AllReadyIn.nil
                  exact AllReadyIn.nil
                exact AllReadyIn.nil
              exact AllReadyIn.nil
            exact AllReadyIn.nil
          refine AllReadyIn.cons rfl (fun K hK => ?_) ?_
          · skip
            go_simp
            refine hK _ _ ?_; clear hK K
            refine wpAnyIn_ready (rs := [0, 3]) (by kernel_rfl) (by simp) ?_
            refine AllReadyIn.cons rfl (fun K hK => ?_) ?_
            · skip
              go_simp
              refine hK _ _ ?_; clear hK K
              refine wpAnyIn_ready (rs := [3]) (by kernel_rfl) (by simp) ?_
              refine AllReadyIn.cons rfl (fun K hK => ?_) ?_
              · skip
                go_simp
                gi_wp2_with (refine ⟨trivial, ?_⟩; gi_at_call 108; refine (CallsIn.inRound l (callsIn_wide.2 (iValueIn_any B _ bs x _ hud hBd))).mono ?_; rintro e W2 ⟨rfl, b2⟩; have hp2 := hpd.later hnw2 b2; have hb2 := hp2.box.cell; have hal := fun o => (World.cell?_alloc_lt W2 o ⟨n + 1 + 1 + 1 + 1, 0, none⟩ hp2.box.lt).trans hb2)
                refine wpAnyIn_ready (rs := [4]) (by kernel_rfl) (by simp) ?_
                refine AllReadyIn.cons rfl (fun K hK => ?_) ?_
                · skip
                  go_simp
                  refine hK _ _ ?_; clear hK K
                  refine wpAnyIn_ready (rs := [5]) (by kernel_rfl) (by simp) ?_
                  refine AllReadyIn.cons rfl (fun K hK => ?_) ?_
                  · skip
                    refine stepIn_append _ rfl _ _ 31 rfl (n + 1 + 1 + 1) 2 i0 (.int .i64 0) 1 8 Tryz.underlying31 hi0 hz0 hz1 hz2 rfl (by decide) _ _ _ rfl (World.ownsRow.alloc hp2.row _) ⟨W2.heap.size, 0, none⟩ 1 1 [.int .i64 (valueS bs x)] rfl rfl (cell_one_new _ _ _) (by simp [Value.oneCell']) (by unfold maxLen; omega) (by omega) (by simp; have := hp2.box.lt; omega) ?_
                    intro v' w1 hown' hgrow
                    obtain ⟨g', cap', rfl⟩ := ownsRow_succ hown'
                    obtain ⟨x1, x2, x3, x4, x5⟩ := hp2.push (p' := valueS bs x :: p) hnw2 (Boxed.later (Boxed.later (Boxed.later hbk b1) bd) b2) (by rw [List.reverse_cons, List.map_append]; exact hown') hgrow
                    have hc1 := x1.cell
                    have hf1 := x1.frozen
                    refine hK _ _ ?_; clear hK K
                    refine wpAnyIn_ready (rs := [6]) (by kernel_rfl) (by simp) ?_
                    refine AllReadyIn.cons rfl (fun K hK => ?_) ?_
                    · skip
                      go_simp
                      refine hK _ _ ?_; clear hK K
                      refine wpAnyIn_done (by kernel_rfl) ?_ _
                      gi_wp2
                      exact ⟨(((keeps_of_below b1).trans (keeps_of_below bd)).trans (keeps_of_below b2)).trans (x3.from _), keepbox_mk ((b1.mono hp.le).trans ((bd.mono hp1.le).trans ((b2.mono hpd.le).trans x4))) hbk x5, _, _, HE.out, by simp; omega, x2, x5⟩
                    exact AllReadyIn.nil
                  exact AllReadyIn.nil
                exact AllReadyIn.nil
              exact AllReadyIn.nil
            refine AllReadyIn.cons rfl (fun K hK => ?_) ?_
            · skip
              go_simp
              gi_wp2_with (refine ⟨trivial, ?_⟩; gi_at_call 108; refine (CallsIn.inRound l (callsIn_wide.2 (iValueIn_any B _ bs x _ hud hBd))).mono ?_; rintro e W2 ⟨rfl, b2⟩; have hp2 := hpd.later hnw2 b2; have hb2 := hp2.box.cell; have hal := fun o => (World.cell?_alloc_lt W2 o ⟨n + 1 + 1 + 1 + 1, 0, none⟩ hp2.box.lt).trans hb2)
              refine wpAnyIn_ready (rs := [0, 4]) (by kernel_rfl) (by simp) ?_
              refine AllReadyIn.cons rfl (fun K hK => ?_) ?_
              · skip
                go_simp
                refine hK _ _ ?_; clear hK K
                refine wpAnyIn_ready (rs := [4]) (by kernel_rfl) (by simp) ?_
                refine AllReadyIn.cons rfl (fun K hK => ?_) ?_
                · skip
                  go_simp
                  refine hK _ _ ?_; clear hK K
                  refine wpAnyIn_ready (rs := [5]) (by kernel_rfl) (by simp) ?_
                  refine AllReadyIn.cons rfl (fun K hK => ?_) ?_
                  · skip
                    refine stepIn_append _ rfl _ _ 31 rfl (n + 1 + 1 + 1) 2 i0 (.int .i64 0) 1 8 Tryz.underlying31 hi0 hz0 hz1 hz2 rfl (by decide) _ _ _ rfl (World.ownsRow.alloc hp2.row _) ⟨W2.heap.size, 0, none⟩ 1 1 [.int .i64 (valueS bs x)] rfl rfl (cell_one_new _ _ _) (by simp [Value.oneCell']) (by unfold maxLen; omega) (by omega) (by simp; have := hp2.box.lt; omega) ?_
                    intro v' w1 hown' hgrow
                    obtain ⟨g', cap', rfl⟩ := ownsRow_succ hown'
                    obtain ⟨x1, x2, x3, x4, x5⟩ := hp2.push (p' := valueS bs x :: p) hnw2 (Boxed.later (Boxed.later (Boxed.later hbk b1) bd) b2) (by rw [List.reverse_cons, List.map_append]; exact hown') hgrow
                    have hc1 := x1.cell
                    have hf1 := x1.frozen
                    refine hK _ _ ?_; clear hK K
                    refine wpAnyIn_ready (rs := [6]) (by kernel_rfl) (by simp) ?_
                    refine AllReadyIn.cons rfl (fun K hK => ?_) ?_
                    · skip
                      go_simp
                      refine hK _ _ ?_; clear hK K
                      refine wpAnyIn_done (by kernel_rfl) ?_ _
                      gi_wp2
                      exact ⟨(((keeps_of_below b1).trans (keeps_of_below bd)).trans (keeps_of_below b2)).trans (x3.from _), keepbox_mk ((b1.mono hp.le).trans ((bd.mono hp1.le).trans ((b2.mono hpd.le).trans x4))) hbk x5, _, _, HE.out, by simp; omega, x2, x5⟩
                    exact AllReadyIn.nil
                  exact AllReadyIn.nil
                exact AllReadyIn.nil
              refine AllReadyIn.cons rfl (fun K hK => ?_) ?_
              · skip
                go_simp
                refine hK _ _ ?_; clear hK K
                refine wpAnyIn_ready (rs := [0]) (by kernel_rfl) (by simp) ?_
                refine AllReadyIn.cons rfl (fun K hK => ?_) ?_
                · skip
                  go_simp
                  refine hK _ _ ?_; clear hK K
                  refine wpAnyIn_ready (rs := [5]) (by kernel_rfl) (by simp) ?_
                  refine AllReadyIn.cons rfl (fun K hK => ?_) ?_
                  · skip
                    refine stepIn_append _ rfl _ _ 31 rfl (n + 1 + 1 + 1) 2 i0 (.int .i64 0) 1 8 Tryz.underlying31 hi0 hz0 hz1 hz2 rfl (by decide) _ _ _ rfl (World.ownsRow.alloc hp2.row _) ⟨W2.heap.size, 0, none⟩ 1 1 [.int .i64 (valueS bs x)] rfl rfl (cell_one_new _ _ _) (by simp [Value.oneCell']) (by unfold maxLen; omega) (by omega) (by simp; have := hp2.box.lt; omega) ?_
                    intro v' w1 hown' hgrow
                    obtain ⟨g', cap', rfl⟩ := ownsRow_succ hown'
                    obtain ⟨x1, x2, x3, x4, x5⟩ := hp2.push (p' := valueS bs x :: p) hnw2 (Boxed.later (Boxed.later (Boxed.later hbk b1) bd) b2) (by rw [List.reverse_cons, List.map_append]; exact hown') hgrow
                    have hc1 := x1.cell
                    have hf1 := x1.frozen
                    refine hK _ _ ?_; clear hK K
                    refine wpAnyIn_ready (rs := [6]) (by kernel_rfl) (by simp) ?_
                    refine AllReadyIn.cons rfl (fun K hK => ?_) ?_
                    · skip
                      go_simp
                      refine hK _ _ ?_; clear hK K
                      refine wpAnyIn_done (by kernel_rfl) ?_ _
                      gi_wp2
                      exact ⟨(((keeps_of_below b1).trans (keeps_of_below bd)).trans (keeps_of_below b2)).trans (x3.from _), keepbox_mk ((b1.mono hp.le).trans ((bd.mono hp1.le).trans ((b2.mono hpd.le).trans x4))) hbk x5, _, _, HE.out, by simp; omega, x2, x5⟩
                    exact AllReadyIn.nil
                  exact AllReadyIn.nil
                exact AllReadyIn.nil
              exact AllReadyIn.nil
            exact AllReadyIn.nil
          exact AllReadyIn.nil
        exact AllReadyIn.nil
    · obtain ⟨a, b, q, rfl⟩ := run_two HT.out hk HX.out HR.out ho
      obtain ⟨g, cap, rfl⟩ := ownsRow_succ hp.row
      have hcap : q.length + 1 + 1 ≤ cap := by
        rcases hp.row.2 with ⟨e, _⟩ | ⟨g2, cap2, cur, e, _, _, h3, _⟩
        · cases e
        · cases e; simpa using h3
      have HY : Hid ((didS (opN x) a b).2 = true → runR bs (t.flat.reverse.take (k + 1)) [] = some ((didS (opN x) a b).1 :: q)) := Lib.hid (run_op hk HX.out HR.out ho)
      have HN : Hid ((didS (opN x) a b).2 = false → evalT bs t = none) := Lib.hid (run_stop ht hk HX.out HR.out ho)
      rw [shape_op ho] at HC
      have qw := as_ow
      have qn := as_on
      have qo := as_oo
      have hmx : Tryz.prog.follows .mixedOrders = true := by kernel_rfl
      have HDI := Lib.hid (fun W => iDid_any (opN x) a b W)
      generalize didS (opN x) a b = dd at HY HN HDI
      obtain ⟨z, is⟩ := dd
      generalize opN x = op at HC HDI ho
      clear ho ht
      simp only [List.length_cons] at hp
      have HP := Lib.hid hp
      clear hp
      have hmb : q.length + 2 ≤ 1048576 := by simp at hpk; omega
      generalize hm : q.length = m at HP hcap hmb
      have HM := Lib.hid hm
      clear hm
      gi_wp2_with (refine ⟨trivial, ?_⟩; gi_at_call 68; refine (CallsIn.inRound l (callsIn_wide.2 HC.out)).mono ?_; rintro e W1 ⟨rfl, b1⟩; have hp1 := HP.out.later hnw2 b1; have hb1 := hp1.box.cell; have ha1 : W1.cell? ⟨g, m + 1, none⟩ = some (.int .i64 a) := hp1.at_ (by have := HM.out; simp [← this]); have hbb1 : W1.cell? ⟨g, m, none⟩ = some (.int .i64 b) := hp1.at_ (by have := HM.out; simp [← this]))
      refine region_quiet_round rfl hmx (by kernel_rfl) ?_
      repeat (gi_big_quiet_step (fail))
      refine BigFrame.wpQuietIn_want (fun _ _ _ _ => trivial) rfl (fun K hK => ?_)
      gi_big_quiet_op
      apply Exists.intro
      refine ⟨fun _ => ?_, ?_⟩
      · refine (callsIn_wide.2 (HDI.out _)).mono ?_
        rintro e W2 ⟨rfl, rfl⟩
        exact ⟨rfl, _, rfl⟩
      refine hK _ ?_
      clear hK K
      repeat (gi_big_quiet_step (fail))
      refine wpQuietIn_nil ?_
      intro _ hw'
      obtain ⟨nq, hw''⟩ := hw'
      subst hw''
      have bd : Below W1.heap.size W1 (W1.drewN nq) := below_drewN (Below.refl _ _) _
      have hpd := hp1.later hnw2 bd
      generalize W1.drewN nq = Wd at bd hpd ⊢
      cases is with
      | false =>
        have hrc := hpd.res.cell
        have hrf := hpd.res.frozen
        have hyc := hpd.yes.cell
        have hyf := hpd.yes.frozen
        gi_wp2
        exact ⟨((keeps_of_below b1).trans (keeps_of_below bd)).trans (((KeepsOthers.setCell _ _ _).trans (KeepsOthers.setCell _ _ _)).from _), HN.out (by first | trivial | rfl), _, _, hpd.zero⟩
      | true =>
        have hbd := hpd.box.cell
        have HRW : Hid (Wd.ownsRow (n + 1 + 1 + 1) 2 1 (.slice (some ⟨g, 0, none⟩) m cap) m (q.reverse.map (Value.int .i64))) := Lib.hid (by
          have h1 := hpd.row
          have hl : (a :: b :: q).length = m + 1 + 1 := by have := HM.out; simp; omega
          rw [hl] at h1
          have h2 := row_cut h1 (j := m) (by omega)
          have h3 : ((a :: b :: q).reverse.map (Value.int .i64)).take m = q.reverse.map (Value.int .i64) := by
            rw [List.reverse_cons, List.reverse_cons, List.map_append, List.map_append, List.append_assoc, List.take_left' (by rw [List.length_map, List.length_reverse]; exact HM.out)]
          rwa [h3] at h2)
        gi_wp2_with (gi_at_builtin; refine wpListIn_append_own _ rfl _ _ 31 rfl (n + 1 + 1 + 1) 2 i0 (.int .i64 0) 1 8 Tryz.underlying31 hi0 hz0 hz1 hz2 rfl (by decide) _ _ _ rfl (World.ownsRow.alloc HRW.out _) ⟨Wd.heap.size, 0, none⟩ 1 1 [.int .i64 z] rfl rfl (cell_one_new _ _ _) (by simp [Value.oneCell']) (by unfold maxLen; omega) (by omega) (by simp; have := hpd.box.lt; omega) ?_; intro v' w1 hown' hgrow _; obtain ⟨g', cap', rfl⟩ := ownsRow_succ hown'; obtain ⟨x1, x2, x3, x4, x5⟩ := hpd.push (p' := z :: q) hnw2 (Boxed.later (Boxed.later hbk b1) bd) (by rw [List.reverse_cons, List.map_append, List.length_cons, HM.out]; exact hown') hgrow; have hc1 := x1.cell; have hf1 := x1.frozen)
        exact ⟨((keeps_of_below b1).trans (keeps_of_below bd)).trans (x3.from _), keepbox_mk ((b1.mono HP.out.le).trans ((bd.mono hp1.le).trans x4)) hbk x5, z :: q, HY.out (by first | trivial | rfl), by simp at hpk ⊢; omega, ⟨_, x2⟩, x5⟩
  · intro X l o o' hl hX ho
    have hlt := (Array.getElem?_eq_some_iff.1 hX).1
    have hg := grownBy_putObj' X l o'
    refine ⟨(Below.refl n X).grown hg (by have := HSZ.out; omega) (fun j e => by cases e; have := HSZ.out; omega), fun v hv => boxed_no hv hg (fun r e => by cases e; exact ⟨_, hX, ho⟩)⟩
  · rintro k X Y row ⟨p, v, h1, h2, h3, h4⟩ hg hrow
    exact ⟨p, v, h1, h2, h3.kept hnw2 hg (fun r e => ⟨by have := (hrow r e).1; have := HSZ.out; omega, (hrow r e).2⟩), boxed_no h4 hg (fun r e => (hrow r e).2)⟩
  · rintro _ X Y row ⟨he, p, v, h3⟩ hg hrow
    exact ⟨he, p, v, h3.kept hnw2 hg (fun r e => ⟨by have := (hrow r e).1; have := HSZ.out; omega, (hrow r e).2⟩)⟩

end Go.Proofs.YtblnonlcjfcblaaGreatDoor
