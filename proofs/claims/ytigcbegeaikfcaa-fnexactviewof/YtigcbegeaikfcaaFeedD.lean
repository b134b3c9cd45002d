/- Layer 10 (feeds): ViewOf of the model and of the program, by the same function. No conditions but those typed. -/
import Derived.Test.YtigcbegeaikfcaaFeedC
namespace Go.Proofs.Ytigcbegeaikfcaa
open Go.RowKit
set_option linter.unusedVariables false

set_option maxHeartbeats 1000000 in
theorem sViewOf_any (B : Nat) (v u s : Value) (us gs : List Int) (ss : List (List Int)) (r : Int) (w : World) (h1 : SeeI w B v us) (h2 : SeeI w B u gs) (h3 : SeeSN w B s ss) (hB : B ≤ w.heap.size) :
    Calls Try.prog 12 #[.agg #[v, u, s], .int .i64 r] w (SlOut w (vwS us gs ss r)) := by
  have S0 := Hn.box h1 h2 h3 hB 32
  obtain ⟨A, c, rfl⟩ := h1.shape
  obtain ⟨A', c', rfl⟩ := h2.shape
  obtain ⟨A2, c2, rfl⟩ := h3.weak.shape
  clear h1 h2 h3
  go_enter Try.func12, Try.ntmps12
  have p0 := S0.hg.c0
  have p1 := S0.hg.c1
  have p2 := S0.hg.c2
  go_wp2_with fail
  generalize w.alloc _ = W at S0 p0 p1 p2 ⊢
  generalize hoo : w.heap.size = o at S0 p0 p1 p2 ⊢
  have HO := Lib.hid hoo
  clear hoo
  refine (l10Right_any o _ _ _ us gs ss r _ S0.hg.see S0.hg.gat S0.hg.slo S0.hg.le).mono ?_
  rintro e w1 ⟨rfl, b1⟩
  have S1 := S0.next b1
  clear S0 p0 p1 p2 b1
  cases hr : rankB us gs ss r
  · have HE : Hid (vwS us gs ss r = []) := Lib.hid (by simp [vwS, hr])
    have oE := OwnSS.empty w1
    have S2 := S1.next (below_new w1 (.cells #[] 22))
    clear hr
    go_wp2_with fail
    go_ret
    exact ⟨_, [], rfl, by rw [HE.out]; exact oE.less (by have := S1.hg.lt; have := HO.out; omega), S2.hg.old⟩
  · have HE : Hid (vwS us gs ss r = viewS us gs ss r gs.length) := Lib.hid (by simp [vwS, hr])
    have q0 := S1.hg.c0
    have q1 := S1.hg.c1
    have q2 := S1.hg.c2
    go_wp2_with fail
    refine (l10View_any o _ _ _ us gs ss r _ S1.hg.see S1.hg.gat S1.sn S1.hg.le hr).mono ?_
    rintro e w2 ⟨v2, vs2, rfl, o2, b2⟩
    go_wp2_with fail
    go_ret
    exact ⟨_, vs2, rfl, by rw [HE.out]; exact o2.less (by have := S1.hg.lt; have := HO.out; omega), (S1.next b2).hg.old⟩

/-- A made row of rows while it is filled: element i reads as ts i. -/
structure Vw (W : World) (z n : Nat) (cur : Array Value) (ts : Nat → List Int) : Prop where
  row : W.heap[z]? = some (.cells cur 22 (0, 0))
  sz : cur.size = n
  inn : ∀ (i : Nat) (u : Value), cur[i]? = some u → OwnI W (z + 1) 2 u (ts i)
  ap : ∀ (i j : Nat) (u u' : Value), i ≠ j → cur[i]? = some u → cur[j]? = some u' → apartV u u'
theorem Vw.next {W W' : World} {z n : Nat} {cur : Array Value} {ts : Nat → List Int} (h : Vw W z n cur ts) (b : Below W.heap.size W W') : Vw W' z n cur ts :=
  ⟨row_later h.row b, h.sz, fun i u hu => own_later (h.inn i u hu) b, h.ap⟩
theorem Vw.set {W : World} {z n k : Nat} {cur : Array Value} {ts ts' : Nat → List Int} (h : Vw W z n cur ts) (u : Value) (o : OwnI W (z + 1) 2 u (ts' k)) (hk : ∀ i, ¬ i = k → ts' i = ts i)
    (hap : ∀ (i : Nat) (u' : Value), cur[i]? = some u' → apartV u' u) : Vw (W.setCell ⟨z, k, none⟩ u) z n (cur.setIfInBounds k u) ts' := by
  have hget : ∀ {i : Nat} {x : Value}, (cur.setIfInBounds k u)[i]? = some x → (i = k ∧ x = u) ∨ (¬ i = k ∧ cur[i]? = some x) := fun {i x} hx => by
    rw [Array.getElem?_setIfInBounds] at hx
    by_cases e : k = i
    · rw [if_pos e] at hx
      split at hx
      · exact .inl ⟨e.symm, by injection hx with hx; exact hx.symm⟩
      · cases hx
    · rw [if_neg e] at hx
      exact .inr ⟨fun q => e q.symm, hx⟩
  refine ⟨heap_set h.row _, by rw [Array.size_setIfInBounds]; exact h.sz, fun i x hx => ?_, fun i j x x' hij hx hx' => ?_⟩
  · rcases hget hx with ⟨rfl, rfl⟩ | ⟨hi, hx⟩
    · exact own_far o (p := ⟨z, i, none⟩) (by simp) _
    · rw [hk i hi]; exact own_far (h.inn i x hx) (p := ⟨z, k, none⟩) (by simp) _
  · rcases hget hx with ⟨hi, e⟩ | ⟨hi, k1⟩ <;> rcases hget hx' with ⟨hj, f⟩ | ⟨hj, k2⟩
    · omega
    · rw [e]; exact fun q a b => hap j x' k2 q b a
    · rw [f]; exact hap i x k1
    · exact h.ap i j x x' hij k1 k2
theorem Vw.own {W : World} {z n : Nat} {cur : Array Value} {ts : Nat → List Int} (h : Vw W z n cur ts) (hn : n ≤ maxLen) : OwnSS W z (.slice (some ⟨z, 0, none⟩) n n) cur.toList ((List.range n).map ts) := by
  have hl : cur.toList.length = n := by simp [h.sz]
  refine ⟨⟨by rw [Nat.mul_one], .inr ⟨z, n, cur, by rw [hl], Nat.le_refl _, h.row, by rw [hl]; exact Nat.le_refl _, hn, by rw [h.sz]; simp, ?_⟩⟩, by rw [hl]; simp, fun k u s hu hs => ?_, fun i j u u' hij hu hu' => ?_, fun k u hu g e f => ?_⟩
  · rw [Nat.mul_one, hl, List.take_of_length_le (by rw [hl]; exact Nat.le_refl _)]
  · have hk : k < n := by have := (List.getElem?_eq_some_iff.1 hu).1; omega
    rw [List.getElem?_map, List.getElem?_range hk] at hs
    obtain rfl : ts k = s := by simpa using hs
    exact own_less (h.inn k u (by simpa using hu)) (by omega)
  · exact h.ap i j u u' hij (by simpa using hu) (by simpa using hu')
  · have := (h.inn k u (by simpa using hu)).lt g f
    have := ob_eqC e
    omega

/-- What is there of slot i once the first gates that are seen are through. -/
def tsOf (zs : List Int) (ss : List (List Int)) (j i : Nat) : List Int := if (i : Int) ∈ zs.take j then ss.getD i [] else []
theorem tsOf_zero (zs : List Int) (ss : List (List Int)) (i : Nat) : tsOf zs ss 0 i = [] := by simp [tsOf]
theorem tsOf_hit {zs : List Int} {ss : List (List Int)} {j k : Nat} {s : List Int} (hz : zs[j]? = some (k : Int)) (hs : ss[k]? = some s) : tsOf zs ss (j + 1) k = s := by
  have : (k : Int) ∈ zs.take (j + 1) := by rw [List.take_add_one, hz]; simp
  simp [tsOf, this, hs]
theorem tsOf_miss {zs : List Int} {ss : List (List Int)} {j k i : Nat} (hz : zs[j]? = some (k : Int)) (hi : ¬ i = k) : tsOf zs ss (j + 1) i = tsOf zs ss j i := by
  have : (i : Int) ∈ zs.take (j + 1) ↔ (i : Int) ∈ zs.take j := by
    rw [List.take_add_one, hz]
    simp
    intro h
    omega
  simp [tsOf, this]
theorem tsOf_end {us gs : List Int} {ss : List (List Int)} {r : Int} (h : gatesS us gs = true) : (List.range gs.length).map (tsOf (seenS us gs r) ss (seenS us gs r).length) = viewS us gs ss r gs.length := by
  unfold viewS
  refine List.map_congr_left fun i hi => ?_
  have hi := List.mem_range.1 hi
  have hs : seenS us gs r = sel (seeP us gs r) gs.length := by simp [seenS, h]
  have hm : (i : Int) ∈ sel (seeP us gs r) gs.length ↔ seeP us gs r i = true := by
    rw [mem_sel]
    constructor
    · rintro ⟨j, h1, h2, h3⟩
      have : i = j := by omega
      subst this; exact h3
    · intro q; exact ⟨i, hi, rfl, q⟩
  unfold tsOf viewAt
  rw [List.take_length, hs]
  by_cases q : seeP us gs r i = true
  · rw [if_pos (hm.2 q), if_pos q]
  · rw [if_neg (fun e => q (hm.1 e)), if_neg q]
theorem seen_at {us gs : List Int} {r : Int} {j : Nat} {x : Int} (h : gatesS us gs = true) (hx : (seenS us gs r)[j]? = some x) : ∃ k : Nat, x = k ∧ k < gs.length := by
  have hs : seenS us gs r = sel (seeP us gs r) gs.length := by simp [seenS, h]
  rw [hs] at hx
  obtain ⟨k, h1, h2, -⟩ := mem_sel.1 (List.mem_of_getElem? hx)
  exact ⟨k, h2, h1⟩
theorem seen_len (us gs : List Int) (r : Int) : (seenS us gs r).length ≤ gs.length := by
  simp only [seenS]; split
  · exact sel_le _ _
  · simp

set_option maxHeartbeats 4000000 in
set_option maxRecDepth 100000 in
theorem iViewOf_any (B : Nat) (v u s : Value) (us gs : List Int) (ss : List (List Int)) (r : Int) (w : World) (h1 : SeeI w B v us) (h2 : SeeI w B u gs) (h3 : SeeSN w B s ss) (hB : B ≤ w.heap.size) :
    Calls Try.prog 13 #[.agg #[v, u, s], .int .i64 r] w (SlOut w (vwS us gs ss r)) := by
  have S0 := Hn.box h1 h2 h3 hB 32
  obtain ⟨A, c, rfl⟩ := h1.shape
  obtain ⟨A', c', rfl⟩ := h2.shape
  obtain ⟨A2, c2, rfl⟩ := h3.weak.shape
  clear h1 h2 h3
  go_enter Try.func13, Try.ntmps13
  have p0 := S0.hg.c0
  have p1 := S0.hg.c1
  have p2 := S0.hg.c2
  go_wp2_with fail
  generalize w.alloc _ = W at S0 p0 p1 p2 ⊢
  generalize hoo : w.heap.size = o at S0 p0 p1 p2 ⊢
  have HO := Lib.hid hoo
  clear hoo
  refine (hasRank_any o _ _ _ us gs ss r _ S0.hg.see S0.hg.gat S0.hg.slo S0.hg.le).mono ?_
  rintro e w1 ⟨rfl, b1⟩
  have S1 := S0.next b1
  clear S0 p0 p1 p2 b1
  cases hr : rankB us gs ss r
  · have HE : Hid (vwS us gs ss r = []) := Lib.hid (by simp [vwS, hr])
    have oE := OwnSS.empty w1
    have S2 := S1.next (below_new w1 (.cells #[] 22))
    clear hr
    go_wp2_with fail
    go_ret
    exact ⟨_, [], rfl, by rw [HE.out]; exact oE.less (by have := S1.hg.lt; have := HO.out; omega), S2.hg.old⟩
  obtain ⟨hl, h4, h40⟩ := rank_len hr
  have HE : Hid (vwS us gs ss r = (List.range gs.length).map (tsOf (seenS us gs r) ss (seenS us gs r).length)) := Lib.hid (by rw [tsOf_end (right_gates (rank_right hr))]; simp [vwS, hr])
  have HS := Lib.hid (fun (j : Nat) (x : Int) (hx : (seenS us gs r)[j]? = some x) => seen_at (right_gates (rank_right hr)) hx)
  have hsl := seen_len us gs r
  have q0 := S1.hg.c0
  have q1 := S1.hg.c1
  have q2 := S1.hg.c2
  have hmk := fun W => run_make_row' (P := Try.prog) 25 22 (.slice none 0 0) 24 Try.underlying25 Try.infoSl rfl .i64 .i64 ss.length (by omega) (by omega) W
  have HN := Lib.hid h40
  have HL := Lib.hid hl
  clear hr h40 hl
  generalize hzz : seenS us gs r = zs at *
  have HZS := Lib.hid hzz
  clear hzz
  generalize hcur : madeCells #[.slice none 0 0] ss.length = cur0 at hmk
  have V0 : Vw (w1.alloc (.cells cur0 22)) w1.heap.size ss.length cur0 (tsOf zs ss 0) := by
    refine ⟨heap_alloc_new _ _, by rw [← hcur, size_madeCells], fun i x hx => ?_, fun i j x x' hij hx hx' => ?_⟩
    · have hi : i < ss.length := by have := (Array.getElem?_eq_some_iff.1 hx).1; rw [← hcur, size_madeCells] at this; simpa using this
      rw [← hcur, made_at hi] at hx
      injection hx with hx
      rw [← hx, tsOf_zero]
      exact OwnI.nil _ _ _
    · have hi : i < ss.length := by have := (Array.getElem?_eq_some_iff.1 hx).1; rw [← hcur, size_madeCells] at this; simpa using this
      rw [← hcur, made_at hi] at hx
      injection hx with hx
      rw [← hx]
      intro q a; cases a
  have S2 := S1.next (below_new w1 (.cells cur0 22))
  have ho1 := S1.hg.lt
  have n0 := S2.hg.c0
  have n1 := S2.hg.c1
  have HSB := Lib.hid (iSeenBy_any o _ _ us gs r _ S2.hg.see S2.hg.gat S2.hg.le)
  rw [HZS.out] at HSB
  clear S1 hcur
  have hW1 : (w1.alloc (.cells cur0 22)).heap.size = w1.heap.size + 1 := by simp
  go_wp2_with fail
  clear hmk q0 q1 q2 n0 n1
  generalize w1.alloc (.cells cur0 22) = W1 at V0 S2 hW1 HSB ⊢
  generalize w1.heap.size = z at V0 hW1 ho1 ⊢
  refine HSB.out.mono ?_
  clear HSB
  rintro e w3 ⟨vz, rfl, oz, b3⟩
  have V3 := V0.next b3
  have S3 := S2.next b3
  have hw3 : z < w3.heap.size := by have := b3.size; omega
  rw [hW1] at oz
  obtain ⟨Az, cz, rfl⟩ := oz.see.shape
  clear V0 S2 b3 hW1
  go_wp2_with fail
  go_loopw [7, 24] (fun _ i wr => ∃ (j : Nat) (cur : Array Value), j ≤ zs.length ∧ i = .int .i64 j ∧ Vw wr z ss.length cur (tsOf zs ss j) ∧ OwnI wr (z + 1) 2 (.slice Az zs.length cz) zs ∧ Hn w o (.slice A us.length c) (.slice A' gs.length c') (.slice A2 ss.length c2) us gs ss wr) (fun _ i _ => zs.length - (intOf i).toNat)
  case atStart => exact ⟨0, cur0, Nat.zero_le _, rfl, V3, oz, S3⟩
  case round =>
    clear V3 oz S3
    obtain ⟨j, cur, hj, rfl, V, oz, S⟩ := hrel
    by_cases hlt : j < zs.length
    · have i1 : (j : Int) < zs.length := by omega
      obtain ⟨g, p, x, rfl, -, hx, hcx⟩ := oz.see.at_ hlt
      obtain ⟨k, rfl, hk⟩ := HS.out j x hx
      have hxs : ∃ s, ss[k]? = some s := ⟨_, List.getElem?_eq_getElem (by have := HL.out; omega)⟩
      obtain ⟨s, hxs⟩ := hxs
      have hs40 := HN.out s (List.mem_of_getElem? hxs)
      obtain ⟨gS, pS, D, qS, rfl, hcs, hsee, hnil⟩ := S.sn.at_ hxs
      have q2 := S.hg.c2
      have i2 : (k : Int) < ss.length := by have := HL.out; omega
      have i3 : k < ss.length := by have := HL.out; omega
      have HC := Lib.hid (cloneI_any o _ s wr hsee S.hg.le hnil (by omega))
      have HT1 := Lib.hid (tsOf_hit (ss := ss) hx hxs)
      have HT2 := Lib.hid (fun i hi => tsOf_miss (ss := ss) (i := i) hx hi)
      clear hx hxs hsee hnil
      go_wp2_with fail
      refine HC.out.mono ?_
      clear HC
      rintro e w4 ⟨v4, rfl, o4, -, b4⟩
      have V4 := V.next b4
      have S4 := S.next b4
      have oz4 := own_later oz b4
      have hw4 := b4.size
      have hz : z < wr.heap.size := heap_lt V.row
      have hold : ∀ (i : Nat) (u : Value), cur[i]? = some u → ∀ q, u.ownBlock = some q → q < wr.heap.size := fun i u hu q e => ((V.inn i u hu).lt q e).2
      have o4' := own_less o4 (show z + 1 ≤ wr.heap.size by omega)
      have hv4 := o4.lt
      have hcell : ∃ u, w4.cell? ⟨z, k, none⟩ = some u := by
        rw [cell_of_row w4 z k cur _ (0, 0) V4.row]
        exact ⟨_, Array.getElem?_eq_getElem (by rw [V4.sz]; exact i3)⟩
      obtain ⟨u0, hcell⟩ := hcell
      have hfz : w4.frozen? ⟨z, k, none⟩ = false := frozen_row V4.row
      have V5 := V4.set (k := k) (ts' := tsOf zs ss (j + 1)) v4 (by rw [HT1.out]; exact o4') (fun i hi => HT2.out i hi) (fun i u' hu q a b => by have := hold i u' hu q a; have := (hv4 q b).1; omega)
      have on5 : Only (fun q => q = z) w4 (w4.setCell ⟨z, k, none⟩ v4) := ⟨rfl, rfl, rfl, by simp [World.setCell], fun i _ hi => Below.heap_setCell _ _ _ _ (fun e => hi e)⟩
      have S5 := S4.only on5 (fun q e => by omega) (by rw [HO.out]; exact Nat.le_refl _)
      have oz5 := own_far oz4 (p := ⟨z, k, none⟩) (by simp) v4
      obtain ⟨D4, q4, rfl⟩ := o4.see.shape
      clear V S oz o4 o4' V4 S4 oz4 on5 hold hcs q2 b4
      go_wp2_with fail
      go_roundw
      case rel => exact ⟨j + 1, _, by omega, by go_num, V5, oz5, S5⟩
      case measure => simp [intOf]; omega
    · obtain rfl : j = zs.length := by omega
      have os := V.own (by unfold maxLen; have := HL.out; omega)
      have ob := S.hg.old
      have hzo : w.heap.size ≤ z := by rw [HO.out]; omega
      go_wp2_with fail
      go_ret
      exact ⟨_, _, rfl, by rw [HE.out, ← HL.out]; exact os.less hzo, ob⟩

end Go.Proofs.Ytigcbegeaikfcaa
