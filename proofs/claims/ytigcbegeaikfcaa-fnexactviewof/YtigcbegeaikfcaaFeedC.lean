/- Layer 10 (feeds): what a rank sees (twin), l10View and ViewOf of the model. No conditions but those typed. -/
import Derived.Test.YtigcbegeaikfcaaFeedA
import Derived.Test.YtigcbegeaikfcaaSltO
import Derived.Maps.AppendAt
namespace Go.Proofs.Ytigcbegeaikfcaa
open Go.RowKit
set_option linter.unusedVariables false

/-- What a rank sees of slot k. -/
def viewAt (us gs : List Int) (ss : List (List Int)) (r : Int) (k : Nat) : List Int := if seeP us gs r k then ss.getD k [] else []
def viewS (us gs : List Int) (ss : List (List Int)) (r : Int) (n : Nat) : List (List Int) := (List.range n).map (viewAt us gs ss r)
/-- What a rank sees; nothing where something is not right. -/
def vwS (us gs : List Int) (ss : List (List Int)) (r : Int) : List (List Int) := if rankB us gs ss r then viewS us gs ss r gs.length else []
theorem viewS_more (us gs : List Int) (ss : List (List Int)) (r : Int) (k : Nat) : viewS us gs ss r (k + 1) = viewS us gs ss r k ++ [viewAt us gs ss r k] := by
  simp [viewS, List.range_succ]
theorem viewS_len (us gs : List Int) (ss : List (List Int)) (r : Int) (k : Nat) : (viewS us gs ss r k).length = k := by simp [viewS]
theorem rank_right {us gs : List Int} {ss : List (List Int)} {r : Int} (h : rankB us gs ss r = true) : rightS us gs r = true := by
  simp only [rankB, hallB, Bool.and_eq_true] at h
  simp only [rightS, Bool.and_eq_true]
  exact ⟨h.1.1.1, h.2⟩
theorem rank_len {us gs : List Int} {ss : List (List Int)} {r : Int} (h : rankB us gs ss r = true) : ss.length = gs.length ∧ gs.length ≤ 4 ∧ ∀ s ∈ ss, s.length ≤ 40 := by
  have h4 := right_four (rank_right h)
  simp only [rankB, hallB, Bool.and_eq_true, decide_eq_true_eq, slotsB, List.all_eq_true, slotB] at h
  exact ⟨h.1.2, h4, fun s hs => (h.1.1.2.2 s hs).1⟩
theorem viewAt_yes {us gs : List Int} {ss : List (List Int)} {r : Int} {k : Nat} {s : List Int} (h : seeP us gs r k = true) (hs : ss[k]? = some s) : viewAt us gs ss r k = s := by
  simp [viewAt, h, hs]
theorem viewAt_no {us gs : List Int} {ss : List (List Int)} {r : Int} {k : Nat} (h : seeP us gs r k = false) : viewAt us gs ss r k = [] := by
  simp [viewAt, h]

theorem own_nil {w : World} {B k n : Nat} {e : TypeId} {v : Value} {xs : List Value} (h : w.ownsRow B e k v n xs) : nilOk v := by
  obtain ⟨_, h | ⟨g, c, _, h, _⟩⟩ := h
  · rw [h.1]; rfl
  · rw [h]; trivial
/-- Slots read below block B, a nil row without room. -/
def SeeSN (w : World) (B : Nat) (v : Value) (ss : List (List Int)) : Prop := ∃ vs : List Value, SeeV w B v vs ∧ vs.length = ss.length ∧ (∀ (k : Nat) (u : Value) (s : List Int), vs[k]? = some u → ss[k]? = some s → SeeI w B u s) ∧ ∀ u ∈ vs, nilOk u
theorem SeeSN.weak {w : World} {B : Nat} {v : Value} {ss : List (List Int)} (h : SeeSN w B v ss) : SeeSS w B v ss := by
  obtain ⟨vs, h1, h2, h3, -⟩ := h
  exact ⟨vs, h1, h2, h3⟩
theorem SeeSN.below {w w' : World} {B : Nat} {v : Value} {ss : List (List Int)} (h : SeeSN w B v ss) (hb : Below B w w') : SeeSN w' B v ss := by
  obtain ⟨vs, h1, h2, h3, h4⟩ := h
  exact ⟨vs, h1.below hb, h2, fun k u s hu hs => (h3 k u s hu hs).below hb, h4⟩
theorem SeeSN.more {w : World} {B B' : Nat} {v : Value} {ss : List (List Int)} (h : SeeSN w B v ss) (hb : B ≤ B') : SeeSN w B' v ss := by
  obtain ⟨vs, h1, h2, h3, h4⟩ := h
  exact ⟨vs, h1.more hb, h2, fun k u s hu hs => (h3 k u s hu hs).more hb, h4⟩
theorem SeeSN.at_ {w : World} {B : Nat} {A : Option Addr} {m c : Nat} {ss : List (List Int)} {k : Nat} {s : List Int} (h : SeeSN w B (.slice A m c) ss) (hs : ss[k]? = some s) :
    ∃ g o D q, A = some ⟨g, o, none⟩ ∧ w.cell? ⟨g, o + k, none⟩ = some (.slice D s.length q) ∧ SeeI w B (.slice D s.length q) s ∧ nilOk (.slice D s.length q) := by
  obtain ⟨vs, h1, h2, h3, h4⟩ := h
  have hk : k < vs.length := by rw [h2]; exact (List.getElem?_eq_some_iff.1 hs).1
  obtain ⟨g, o, hA, -, hc⟩ := h1.at_ (List.getElem?_eq_getElem hk)
  have hu := h3 k _ s (List.getElem?_eq_getElem hk) hs
  have hn := h4 _ (List.getElem_mem hk)
  obtain ⟨D, q, e⟩ := hu.shape
  rw [e] at hu hc hn
  exact ⟨g, o, D, q, hA, hc, hu, hn⟩
theorem OwnSS.seeN {w : World} {B : Nat} {v : Value} {us : List Value} {ss : List (List Int)} (h : OwnSS w B v us ss) : SeeSN w w.heap.size v ss :=
  ⟨us, OwnV.see (h.row), h.len, fun k u s hu hs => (h.inn k u s hu hs).see, fun u hu => by
    obtain ⟨k, hk, e⟩ := List.getElem_of_mem hu
    have hk2 : k < ss.length := by rw [← h.len]; exact hk
    exact own_nil (h.inn k u _ (by rw [List.getElem?_eq_getElem hk, e]) (List.getElem?_eq_getElem hk2))⟩

/-- A hall in a variable, its nil rows without room. -/
structure Hn (w0 : World) (o : Nat) (v u s : Value) (us gs : List Int) (ss : List (List Int)) (W : World) : Prop where
  hg : Hg w0 o v u s us gs ss W
  sn : SeeSN W o s ss
theorem Hn.next {w0 W W' : World} {o : Nat} {v u s : Value} {us gs : List Int} {ss : List (List Int)} (h : Hn w0 o v u s us gs ss W) (hb : Below W.heap.size W W') : Hn w0 o v u s us gs ss W' :=
  ⟨h.hg.next hb, h.sn.below (hb.mono h.hg.le)⟩
theorem Hn.box {w : World} {B : Nat} {v u s : Value} {us gs : List Int} {ss : List (List Int)} (h1 : SeeI w B v us) (h2 : SeeI w B u gs) (h3 : SeeSN w B s ss) (hB : B ≤ w.heap.size) (t : TypeId) :
    Hn w w.heap.size v u s us gs ss (w.alloc (.cells #[v, u, s] t)) :=
  ⟨Hg.box h1 h2 h3.weak hB t, (h3.below ((below_new w (.cells #[v, u, s] t)).mono hB)).more hB⟩

/-- Slots of the call's own are handed back. -/
def SlOut (w : World) (ss : List (List Int)) (e : Ending) (w' : World) : Prop := ∃ v us, e = .returned v ∧ OwnSS w' w.heap.size v us ss ∧ Below w.heap.size w w'

theorem OwnSS.nilrow {w : World} {B : Nat} {v : Value} {us : List Value} {ss : List (List Int)} (h : OwnSS w B v us ss) : us.length = ss.length := h.len

theorem ob_eqC {r n c q : Nat} (e : (Value.slice (some ⟨r, 0, none⟩) n c).ownBlock = some q) : r = q := by simpa [Value.ownBlock] using e
theorem Hg.only {S : Nat → Prop} {w0 W W' : World} {o : Nat} {v u s : Value} {us gs : List Int} {ss : List (List Int)} (h : Hg w0 o v u s us gs ss W) (on : Only S W W') (hS : ∀ q, S q → o < q) (h0 : w0.heap.size ≤ o) : Hg w0 o v u s us gs ss W' := by
  have hne : ¬ S o := fun e => by have := hS o e; omega
  have hb : Below o W W' := on.below h.le (fun k e => Nat.le_of_lt (hS k e))
  have hle := h.old.size
  exact ⟨(World.cell?_of_block (on.block o h.lt hne)).trans h.c0, (World.cell?_of_block (on.block o h.lt hne)).trans h.c1, (World.cell?_of_block (on.block o h.lt hne)).trans h.c2,
    h.see.below hb, h.gat.below hb, h.slo.below hb, Nat.lt_of_lt_of_le h.lt on.size, h.old.trans (hb.mono h0)⟩
theorem Hn.only {S : Nat → Prop} {w0 W W' : World} {o : Nat} {v u s : Value} {us gs : List Int} {ss : List (List Int)} (h : Hn w0 o v u s us gs ss W) (on : Only S W W') (hS : ∀ q, S q → o < q) (h0 : w0.heap.size ≤ o) : Hn w0 o v u s us gs ss W' :=
  ⟨h.hg.only on hS h0, h.sn.below (on.below h.hg.le (fun k e => Nat.le_of_lt (hS k e)))⟩

set_option maxHeartbeats 4000000 in
set_option maxRecDepth 100000 in
theorem l10View_any (B : Nat) (v u s : Value) (us gs : List Int) (ss : List (List Int)) (r : Int) (w : World) (h1 : SeeI w B v us) (h2 : SeeI w B u gs) (h3 : SeeSN w B s ss) (hB : B ≤ w.heap.size) (hR : rankB us gs ss r = true) :
    Calls Try.prog 35 #[.agg #[v, u, s], .int .i64 r] w (SlOut w (viewS us gs ss r gs.length)) := by
  obtain ⟨j0, hj, hy0, hy1, hy2⟩ := info_parts Try.infoSl
  obtain ⟨hl, h4, h40⟩ := rank_len hR
  have hr := rank_right hR
  obtain ⟨b, rfl, hb, h6⟩ := right_rank hr
  have HL := Lib.hid hl
  have H40 := Lib.hid h40
  have HG : Hid (∀ (k : Nat) (x : Int), gs[k]? = some x → ∃ a : Nat, x = a ∧ a < us.length) := Lib.hid fun k x hx => right_gate hr hx
  have HU : Hid (∀ a : Nat, a < us.length → belowS us a b = upB us a b) := Lib.hid fun a ha => right_up hr ha hb
  have S0 := Hn.box h1 h2 h3 hB 32
  obtain ⟨A, c, rfl⟩ := h1.shape
  obtain ⟨A', c', rfl⟩ := h2.shape
  obtain ⟨A2, c2, rfl⟩ := h3.weak.shape
  clear h1 h2 h3 hR hl hr h40
  have oE := OwnSS.empty (w.alloc (.cells #[.slice A us.length c, .slice A' gs.length c', .slice A2 ss.length c2] 32))
  rw [World.size_alloc] at oE
  have S1 := S0.next (below_new _ (.cells #[] 22))
  clear S0
  go_enter Try.func35, Try.ntmps35
  go_wp2_with fail
  generalize World.alloc _ (.cells #[] _) = W at S1 oE ⊢
  generalize hoo : w.heap.size = o at S1 oE ⊢
  have HO := Lib.hid hoo
  clear hoo
  go_loopw [5, 6, 7] (fun z i _ wr => ∃ (k R C : Nat) (vs : List Value), k ≤ gs.length ∧ i = .int .i64 k ∧ z = .slice (some ⟨R, 0, none⟩) k C ∧ OwnSS wr (o + 1) (.slice (some ⟨R, 0, none⟩) k C) vs (viewS us gs ss b k) ∧ Hn w o (.slice A us.length c) (.slice A' gs.length c') (.slice A2 ss.length c2) us gs ss wr) (fun _ i _ _ => gs.length - (intOf i).toNat)
  case atStart => exact ⟨0, _, _, [], Nat.zero_le _, rfl, rfl, oE, S1⟩
  case round =>
    clear S1 oE
    obtain ⟨k, R, C, vs, hk, rfl, rfl, oz, Sk⟩ := hrel
    have q0 := Sk.hg.c0
    have q1 := Sk.hg.c1
    have q2 := Sk.hg.c2
    by_cases hlt : k < gs.length
    · have i1 : (k : Int) < gs.length := by omega
      have S2 := Sk.next (below_new wr (.cells #[] 2))
      have o2 := oz.later (below_new wr (.cells #[] 2))
      have nE : OwnI (wr.alloc (.cells #[] 2)) wr.heap.size 2 (.slice (some ⟨wr.heap.size, 0, none⟩) 0 0) [] := OwnI.empty wr wr.heap.size 2 (Nat.le_refl _)
      have HR := Lib.hid (World.ownsRow.lt oz.row R rfl)
      have HRZ : Hid (∀ q, rowsSS vs q → q < wr.heap.size) := Lib.hid (fun q e => (oz.blocks q e).2)
      clear Sk oz
      obtain ⟨g, p, x, rfl, -, hx, hcx⟩ := S2.hg.gat.at_ hlt
      obtain ⟨a, rfl, ha⟩ := HG.out k x hx
      have HX : Hid (seeP us gs b k = upB us a b) := Lib.hid (by rw [seeP_at hx, HU.out a ha])
      have d0 := later_cell S2.hg.c0
      have d1 := later_cell S2.hg.c1
      have dx := later_cell hcx
      clear hx
      have hbs : wr.heap.size < (wr.alloc (.cells #[] 2)).heap.size := by simp
      have HW : Hid (wr.heap.size < (wr.alloc (.cells #[] 2)).heap.size) := Lib.hid hbs
      clear hbs
      go_wp2_with fail
      generalize hWA : wr.alloc _ = WA at *
      generalize hbs : wr.heap.size = bs at *
      have T2 : Hid (∀ i : Later WA, Calls Try.prog 58 #[.agg #[.slice A us.length c], .int .i64 a, .int .i64 b] i.now (BoolOf i.now (upB us a b))) := Lib.hid (fun i => by
        have S3 := S2.next i.old
        exact l2Below_any o _ us a b ha (by omega) _ S3.hg.see S3.hg.le)
      clear hWA hbs
      have bl := HR.out
      cases hp : upB us a b
      · have HV := Lib.hid (viewAt_no (ss := ss) (HX.out.trans hp))
        rw [hp] at T2
        clear hp
        refine region_later (by kernel_rfl) (by kernel_rfl) ?_
        repeat (go_big_quiet_step ((go_at_call 58; exact later_call (T2.out _))))
        refine wpQuiet_nil ?_
        rintro w5 ⟨⟨_, hbk⟩, rfl⟩
        have o5 := o2.later hbk
        have S5 := S2.next hbk
        have n5 := own_later nE hbk
        have hz5 := hbk.size
        have hbb := HW.out
        clear o2 S2 nE hbk d0 d1 dx T2 q0 q1 q2 hcx
        have bA := below_new w5 (.cells #[.slice (some ⟨bs, 0, none⟩) 0 0] 22)
        have oA := o5.later bA
        have nA := own_less (own_later n5 bA) (show o + 1 ≤ bs by omega)
        have SA := Lib.hid (S5.next bA)
        have hrow := oA.row
        have hlen : vs.length = k := by rw [oA.len, viewS_len]
        rw [hlen] at hrow
        have HLEN := Lib.hid hlen
        have hwA : o + 1 ≤ (w5.alloc (.cells #[.slice (some ⟨bs, 0, none⟩) 0 0] 22)).heap.size := by have := bA.size; omega
        have HWA := Lib.hid hwA
        have OA := Lib.hid oA
        have NA := Lib.hid nA
        have HBS := Lib.hid (show bs ≤ w5.heap.size by omega)
        clear bA oA nA hlen hwA
        go_wp2_with (at_builtin; refine wpList_append_own_at _ rfl _ _ 25 rfl (o + 1) 22 j0 (.slice none 0 0) 1 24 Try.underlying25 hj hy0 hy1 hy2 rfl (by decide) _ _ _ rfl hrow ⟨w5.heap.size, 0, none⟩ 1 1 [.slice (some ⟨bs, 0, none⟩) 0 0] rfl rfl (cell_one_new _ _ _) (by intro u hu; simp at hu; subst hu; rfl) (by unfold maxLen; omega) (by omega) HWA.out ?_; intro v4 w4 hown4 hgr4 hnil4 hat4; (obtain ⟨g4, c4, rfl⟩ := own_base hown4 (fun q => by have := (hnil4.1 q).2; cases this)))
        have q4 := OA.out.push NA.out (fun j u hu q e1 e2 => by have h1 := HRZ.out q ⟨j, u, hu, e1⟩; have h2 := (fun (q : Nat) (e : (Value.slice (some ⟨bs, 0, none⟩) 0 0).ownBlock = some q) => (show bs ≤ q from Nat.le_of_eq (ob_eqC e))) q e2; omega) (fun q e1 e2 => by have e' := ob_eqC e1; have h1 := HR.out.2; have h2 := (fun (q : Nat) (e : (Value.slice (some ⟨bs, 0, none⟩) 0 0).ownBlock = some q) => (show bs ≤ q from Nat.le_of_eq (ob_eqC e))) q e2; omega) (by rw [HLEN.out]; exact hown4) hgr4 hat4
        have S7 := SA.out.only (Only.of_grown (S := fun q => q = R) hgr4 (fun q e => (ob_eqC e).symm)) (fun q e => by have := HR.out.1; omega) (by rw [HO.out]; exact Nat.le_refl _)
        go_roundw
        case rel => exact ⟨k + 1, g4, c4, vs ++ [.slice (some ⟨bs, 0, none⟩) 0 0], by omega, by go_num, rfl, by rw [viewS_more, HV.out]; exact q4, S7⟩
        case measure => simp [intOf]; omega
      · have hxs : ∃ s, ss[k]? = some s := ⟨_, List.getElem?_eq_getElem (by have := HL.out; omega)⟩
        obtain ⟨s, hxs⟩ := hxs
        have HV := Lib.hid (viewAt_yes (HX.out.trans hp) hxs)
        have hsl := H40.out s (List.mem_of_getElem? hxs)
        rw [hp] at T2
        clear hp
        refine region_later (by kernel_rfl) (by kernel_rfl) ?_
        repeat (go_big_quiet_step ((go_at_call 58; exact later_call (T2.out _))))
        refine wpQuiet_nil ?_
        rintro w5 ⟨⟨_, hbk⟩, rfl⟩
        have o5 := o2.later hbk
        have S5 := S2.next hbk
        have hz5 := hbk.size
        have hbb := HW.out
        clear o2 S2 nE hbk d0 d1 dx T2 q0 q1 q2 hcx
        obtain ⟨gS, pS, D, qS, rfl, hcs, hsee, hnil⟩ := S5.sn.at_ hxs
        have q2 := S5.hg.c2
        have i2 : (k : Int) < ss.length := by have := HL.out; omega
        clear hxs
        have HC := Lib.hid (l1Copy_any o _ s w5 hsee S5.hg.le hnil (by omega))
        clear hsee hnil
        go_wp2_with fail
        refine HC.out.mono ?_
        rintro e w6 ⟨gn, cn, rfl, on6, b6⟩
        have o6 := o5.later b6
        have S6 := S5.next b6
        have hz6 := b6.size
        have n6 := own_less on6 (show bs ≤ w5.heap.size by omega)
        have hgn := on6.lt gn rfl
        clear o5 S5 b6 on6 hcs q2 HC
        have bA := below_new w6 (.cells #[.slice (some ⟨gn, 0, none⟩) s.length cn] 22)
        have oA := o6.later bA
        have nA := own_less (own_later n6 bA) (show o + 1 ≤ bs by omega)
        have SA := Lib.hid (S6.next bA)
        have hrow := oA.row
        have hlen : vs.length = k := by rw [oA.len, viewS_len]
        rw [hlen] at hrow
        have HLEN := Lib.hid hlen
        have hwA : o + 1 ≤ (w6.alloc (.cells #[.slice (some ⟨gn, 0, none⟩) s.length cn] 22)).heap.size := by have := bA.size; omega
        have HWA := Lib.hid hwA
        have OA := Lib.hid oA
        have NA := Lib.hid nA
        have HBS := Lib.hid (show bs ≤ w6.heap.size by omega)
        clear bA oA nA hlen hwA
        go_wp2_with (at_builtin; refine wpList_append_own_at _ rfl _ _ 25 rfl (o + 1) 22 j0 (.slice none 0 0) 1 24 Try.underlying25 hj hy0 hy1 hy2 rfl (by decide) _ _ _ rfl hrow ⟨w6.heap.size, 0, none⟩ 1 1 [.slice (some ⟨gn, 0, none⟩) s.length cn] rfl rfl (cell_one_new _ _ _) (by intro u hu; simp at hu; subst hu; rfl) (by unfold maxLen; omega) (by omega) HWA.out ?_; intro v4 w4 hown4 hgr4 hnil4 hat4; (obtain ⟨g4, c4, rfl⟩ := own_base hown4 (fun q => by have := (hnil4.1 q).2; cases this)))
        have q4 := OA.out.push NA.out (fun j u hu q e1 e2 => by have h1 := HRZ.out q ⟨j, u, hu, e1⟩; have h2 := (fun (q : Nat) (e : (Value.slice (some ⟨gn, 0, none⟩) s.length cn).ownBlock = some q) => (show bs ≤ q by have := ob_eqC e; omega)) q e2; omega) (fun q e1 e2 => by have e' := ob_eqC e1; have h1 := HR.out.2; have h2 := (fun (q : Nat) (e : (Value.slice (some ⟨gn, 0, none⟩) s.length cn).ownBlock = some q) => (show bs ≤ q by have := ob_eqC e; omega)) q e2; omega) (by rw [HLEN.out]; exact hown4) hgr4 hat4
        have S7 := SA.out.only (Only.of_grown (S := fun q => q = R) hgr4 (fun q e => (ob_eqC e).symm)) (fun q e => by have := HR.out.1; omega) (by rw [HO.out]; exact Nat.le_refl _)
        go_roundw
        case rel => exact ⟨k + 1, g4, c4, vs ++ [.slice (some ⟨gn, 0, none⟩) s.length cn], by omega, by go_num, rfl, by rw [viewS_more, HV.out]; exact q4, S7⟩
        case measure => simp [intOf]; omega
    · obtain rfl : k = gs.length := by omega
      have ob := Sk.hg.old
      go_wp2_with fail
      go_ret
      exact ⟨_, vs, rfl, oz.less (by have := HO.out; omega), ob⟩

end Go.Proofs.Ytigcbegeaikfcaa
