/- Layer 7 (plays): the program's reader: takesSum, opens, closes. Condition: the listed variables hold what the program's text lays (Vars). -/
import Derived.Test.YtblnonlcjfcblaaGreatDoorRdrB
import Derived.Deep.CutRange
namespace Go.Proofs.YtblnonlcjfcblaaGreatDoor
open Go.RowKit
set_option linter.unusedVariables false

/-- An append at a step of a drawn region. -/
theorem step_append_row {P : Program} (w : World) {ops : Array Oper} {o : Oper} {a : Act} {K : Act → World → Prop} {Q : Exit → Act → World → Prop} {E : Prop} (hgd : o.guard = none) (s x : Operand) (t : TypeId)
    (ho : o.op = .call { callee := .builtin .append, args := #[s, x], argTypes := #[t, t] }) (B : Nat) (e : TypeId) (i : TypeInfo) (z : Value) (size bytes : Nat) (ht : P.underlying t = some (.slice e)) (hi : P.info? e = some i) (hz : i.zero = some z)
    (hsize : i.size = size) (hby : i.bytes = bytes) (hzs : z.cells.size = size) (hsz : 0 < size) (v : Value) (n : Nat) (xs : List Value) (hs : a.eval s = v) (hown : w.ownsRow B e size v n xs)
    (ad : Addr) (m c : Nat) (news : List Value) (hx : a.eval x = .slice (some ad) m c) (hl : news.length = m * size) (hnews : ∀ j u, news[j]? = some u → w.cell? (ad.add j) = some u) (h1 : ∀ u ∈ news, u.oneCell' = true)
    (hb : n + m ≤ maxLen) (hbb : (n + m) * bytes ≤ 140737488355328) (hbase : B ≤ w.heap.size)
    (h : ∀ v' w', w'.ownsRow B e size v' (n + m) (xs ++ news) → w.grownBy w' v.ownBlock → K (a.put o.dst v') w') :
    if Region.wanted o (yielded ops a.tmps) = true then Oper.wp P o a w K Q else E := by
  have hw : Region.wanted o (yielded ops a.tmps) = true := by simp [Region.wanted, hgd]
  rw [if_pos hw]
  obtain ⟨v', w', hr, h2, h3, h4, h5⟩ := run_append_own_at (P := P) w B t o.type e i z size bytes ht hi hz hsize hby hzs hsz v n xs hown ad m c news hl hnews h1 hb hbb hbase
  unfold Oper.wp execOp
  simp only [ho, resolve, invoke, builtin, Sem.run_bind, Sem.run_pure, Result.andThen_ok, List.map_toArray, List.map_cons, List.map_nil, hs, hx, hr]
  exact h v' w' h2 h3
theorem row_shape {w : World} {B sz n : Nat} {e : TypeId} {v : Value} {xs : List Value} (h : w.ownsRow B e sz v n xs) : ∃ A c, v = .slice A n c := by
  obtain ⟨_, h⟩ := h
  rcases h with ⟨rfl, hn⟩ | ⟨g, cap, cur, rfl, _⟩
  · exact ⟨none, 0, by rw [hn]⟩
  · exact ⟨_, cap, rfl⟩
theorem news_see {W : World} {B g n c : Nat} {ys : List Txt} (h : SeeV W B (.slice (some ⟨g, 0, none⟩) n c) (ys.map str)) : ∀ j u, (ys.map str)[j]? = some u → W.cell? ((⟨g, 0, none⟩ : Addr).add j) = some u := fun j u hu => by
  obtain ⟨g', o', e, _, hc⟩ := h.at_ hu
  cases e
  rw [add_at]
  exact hc

/-- In the midst of takesSum. -/
def Mid (B g : Nat) (sv : Value) (ss : List Txt) (w : World) (k : Int) (nm : List Txt) (gt : List Int) (op : List Bool) (dp : Nat) (W : World) : Prop := Below g w W ∧ ∃ vn vg vo, Rd B g sv ss W k vn vg vo nm gt op dp
theorem Mid.drewN {B g : Nat} {sv : Value} {ss : List Txt} {w : World} {k : Int} {nm : List Txt} {gt : List Int} {op : List Bool} {dp : Nat} {W : World} (h : Mid B g sv ss w k nm gt op dp W) (n : Nat) : Mid B g sv ss w k nm gt op dp (W.drewN n) := by
  obtain ⟨b, vn, vg, vo, r⟩ := h
  exact ⟨below_drewN b n, vn, vg, vo, r.drewN n⟩

set_option maxRecDepth 100000 in
set_option maxHeartbeats 4000000 in
theorem takesSum_any (B g : Nat) (sv : Value) (ss : List Txt) (w : World) (k : Nat) (vn vg vo : Value) (nm : List Txt) (gt : List Int) (op : List Bool) (dp : Nat) (V : ∀ w', Below g w w' → Vars w') (h : Rd B g sv ss w (k : Int) vn vg vo nm gt op dp) (hn : ss.length ≤ 1048576) (hS : shortS ss) (hnm : nm.length ≤ 4194304) :
    Calls Tryz.prog 97 #[.pointer (some ⟨g, 0, none⟩)] w (RrOut B g sv ss w (.bool (decide (0 ≤ sumEndS ss (k : Int)))) (sumEndS ss (k : Int)) (nm ++ namesS ss (k : Int)) gt op dp) := by
  obtain ⟨i0, hi, hz0, hz1, hz2⟩ := info_parts Tryz.infoStr
  have HV := Lib.hid V
  have hlt := h.lt
  have hlow := h.low
  have hnl : (namesS ss (k : Int)).length ≤ 1048576 := by
    by_cases q : sumEndS ss (k : Int) < 0
    · rw [names_no q]; simp
    · have := names_len (ss := ss) (k := k) (k1 := (sumEndS ss (k : Int)).toNat) (by unfold nnE; rw [if_pos (by omega)])
      have h2 := end_in (ss := ss) (k := k) (k1 := (sumEndS ss (k : Int)).toNat) (by unfold nnE; rw [if_pos (by omega)])
      omega
  have bd : Below w.heap.size w w.drew := (Below.refl _ w).drew
  have HC1 : Hid (Calls Tryz.prog 47 #[sv, .int .i64 (k : Int)] w.drew (PutOut w.heap.size (namesS ss (k : Int)) w.drew)) := Lib.hid (iNamesIn_any B sv ss (k : Int) w.drew (V _ (bd.mono (Nat.le_of_lt hlt))) (h.see.below (bd.mono (by omega))) (by show B ≤ w.heap.size; omega) hS hn)
  have HC2 : Hid (∀ W, Below g w W → SeeV W B sv (ss.map str) → g < W.heap.size → Calls Tryz.prog 41 #[sv, .int .i64 (k : Int)] W (IntLt W (sumEndS ss (k : Int)))) := Lib.hid (fun W b s l => iSumEnd_any B sv ss (k : Int) W (V _ b) s (by omega) hS hn)
  clear V
  generalize namesS ss (k : Int) = ns at hnl HC1 ⊢
  generalize sumEndS ss (k : Int) = z at HC2 ⊢
  have c0 := h.c0
  have c1 := h.c1
  have c2 := h.c2
  obtain ⟨A, c, e⟩ := strs_shape h.see
  subst e
  obtain ⟨An, cn, e⟩ := strs_shape h.names.see
  subst e
  have H := Lib.hid h
  clear h
  go_enter Tryz.func97, Tryz.ntmps97
  go_upto_region 1 with fail
  go_cut [3] from 3 (fun s wc => Mid B g (.slice A ss.length c) ss w (k : Int) (nm ++ ns) gt op dp wc)
  case first =>
    go_region_law (first
      | (go_simp; refine HC1.out.mono ?_; rintro e w1 ⟨g1, k1, rfl, o1, b1⟩; have R1 := Lib.hid (H.out.later (bd.trans b1)); have d0 := R1.out.c0; have d1 := R1.out.c1; have d2 := R1.out.c2; have l1 := R1.out.lt; dsimp only)
      | (refine step_append_row _ (by rfl) _ _ _ (by rfl) (g + 1) 9 i0 (.string ⟨#[]⟩) 1 16 Tryz.underlying22 hi hz0 hz1 hz2 rfl (by decide) _ _ _ (by rfl) R1.out.names ⟨g1, 0, none⟩ ns.length k1 (ns.map str) (by rfl) (by simp) (news_see o1.see) (fun u hu => str_one u _ hu) (by unfold maxLen; simp; omega) (by simp; omega) (by omega) ?_; intro v5 w5 hown5 hgr5; obtain ⟨A5, c5, rfl⟩ := row_shape hown5; obtain ⟨hq, R3⟩ := R1.out.grewN (nm' := nm ++ ns) hgr5 (by unfold OwnV; rw [List.map_append, List.length_append, List.length_map, List.length_map]; rw [List.length_map] at hown5; exact hown5); have R4 := Lib.hid R3; have q2 := (World.cell?_of_block hq).trans R1.out.c2; have q3 := (World.frozen?_of_block hq).trans (R1.out.fz 2); have B5 : Hid (Below g w w5) := Lib.hid (((bd.trans b1).mono (Nat.le_of_lt hlt)).grown hgr5 (by omega) (fun j hj => by have := (R1.out.names.lt j hj).1; omega)); clear R3 hq hgr5 hown5))
    all_goals (
      go_wp2_with fail
      go_meet
      case rel => exact ⟨B5.out.setCell (by simp) _, _, _, _, R4.out⟩)
  case rest =>
    obtain ⟨b2, vn2, vg2, vo2, h2⟩ := hcut
    obtain ⟨An2, cn2, e⟩ := strs_shape h2.names.see
    subst e
    clear c0 c1 c2 HC1
    have c0 := h2.c0
    have c1 := h2.c1
    have l2 := h2.lt
    have f1 := h2.fz 1
    have bd2 : Below wc.heap.size wc wc.drew := (Below.refl _ wc).drew
    have HC : Hid (Calls Tryz.prog 41 #[.slice A ss.length c, .int .i64 (k : Int)] wc.drew (IntLt wc.drew z)) := Lib.hid (HC2.out _ (b2.trans (bd2.mono (Nat.le_of_lt l2))) (h2.see.below (bd2.mono (by omega))) l2)
    have H2 := Lib.hid h2
    clear h2 HC2
    go_upto_region 2 with fail
    go_cut [20] from 20 (fun s wc => Mid B g (.slice A ss.length c) ss w z (nm ++ ns) gt op dp wc)
    case first =>
      go_region_law (go_simp; refine HC.out.mono ?_; rintro e w1 ⟨rfl, b1⟩; have R1 := Lib.hid (H2.out.later (bd2.trans b1)); have d0 := R1.out.c0; have d1 := R1.out.c1; have d2 := R1.out.fz 1; dsimp only)
      all_goals (
        go_wp2_with fail
        go_meet
        case rel => exact ⟨(b2.trans ((bd2.trans b1).mono (Nat.le_of_lt l2))).setCell (by simp) _, _, _, _, R1.out.setAt z⟩)
    case rest =>
      obtain ⟨b3, vn3, vg3, vo3, h3⟩ := hcut
      have d1 := h3.c1
      have H3 := Lib.hid h3
      clear h3
      go_wp2_with fail
      go_ret
      exact ⟨rfl, b3, _, _, _, H3.out⟩

end Go.Proofs.YtblnonlcjfcblaaGreatDoor
