/- Layer 10 (feeds): slots read from a text, by the program. Conditions: the listed variables hold what the program's text lays (Vars); internal/bytealg.MaxLen is a number (MaxL). -/
import Derived.Test.YtigcbegeaikfcaaDoorRdsM
import Derived.Test.YtigcbegeaikfcaaDoorSltK
import Derived.Test.YtigcbegeaikfcaaDoorWordP
namespace Go.Proofs.YtigcbegeaikfcaaDoor
open Go.RowKit
set_option linter.unusedVariables false

def MaxL (w : World) : Prop := ∃ m : Int, w.cell? ⟨0, 0, none⟩ = some (.int .i64 m)
theorem MaxL.below {w w' : World} (h : MaxL w) (b : Below w.heap.size w w') : MaxL w' := by
  obtain ⟨m, hm⟩ := h
  exact ⟨m, (b.cell (World.block_lt_of_cell? w ⟨0, 0, none⟩ hm)).trans hm⟩
def SplT (b : UInt8) (M : Nat) (l : List UInt8) (w : World) (q : List (List UInt8)) (e : Ending) (w' : World) : Prop :=
  ∃ c, e = .returned (.slice (some ⟨w.heap.size, 0, none⟩) q.length c) ∧ OwnV w' w.heap.size 9 (.slice (some ⟨w.heap.size, 0, none⟩) q.length c) (q.map str) ∧ Below w.heap.size w w'
theorem split32_any (l : List UInt8) (hl : l.length ≤ 1048576) (w : World) (hM : MaxL w) :
    ∃ q : List (List UInt8), (40 < (cutT 32 l).length ∧ 40 < q.length ∧ q.length ≤ 41 ∨ q = cutT 32 l ∧ (cutT 32 l).length ≤ 40) ∧
      Calls Tryd.prog 46 #[str l, str [32], .int .i64 41] w (SplT 32 41 l w q) := by
  obtain ⟨m, hm⟩ := hM
  have hsp := Tryd.strings_SplitN ⟨l.toArray⟩ ⟨#[32]⟩ 41 m w (by show l.toArray.size < _; simp; omega) hm (by decide) (by decide) (by decide)
  rw [show (⟨l.toArray⟩ : ByteArray).size = l.length from by simp [ByteArray.size]] at hsp
  have hD : (Lib.splitB ⟨#[32]⟩ 0 (min 41 (l.length + 1) - 1) ⟨l.toArray⟩).map (·.data.toList) = Lib.splitK [32] 0 (min 41 (l.length + 1) - 1) l := by rw [Lib.splitB_data]
  generalize Lib.splitB ⟨#[32]⟩ 0 (min 41 (l.length + 1) - 1) ⟨l.toArray⟩ = bs at hsp hD
  have hcl := cutT_le 32 l
  have hq : 40 < (cutT 32 l).length ∧ 40 < (Lib.splitK [32] 0 (min 41 (l.length + 1) - 1) l).length ∧ (Lib.splitK [32] 0 (min 41 (l.length + 1) - 1) l).length ≤ 41 ∨ Lib.splitK [32] 0 (min 41 (l.length + 1) - 1) l = cutT 32 l ∧ (cutT 32 l).length ≤ 40 := by
    rcases Nat.lt_or_ge (min 41 (l.length + 1) - 1 + 1) (cutT 32 l).length with h2 | h2
    · rw [splitK_long 32 l _ h2]; omega
    · rw [splitK_all 32 l _ h2]
      by_cases h : (cutT 32 l).length ≤ 40
      · exact .inr ⟨rfl, h⟩
      · exact .inl ⟨by omega, by omega, by omega⟩
  have hcap : (Lib.splitK [32] 0 (min 41 (l.length + 1) - 1) l).length ≤ min 41 (l.length + 1) := by
    rcases Nat.lt_or_ge (min 41 (l.length + 1) - 1 + 1) (cutT 32 l).length with h2 | h2
    · rw [splitK_long 32 l _ h2]; omega
    · rw [splitK_all 32 l _ h2]; omega
  rw [← hD] at hq hcap
  refine ⟨bs.map (·.data.toList), hq, ?_⟩
  unfold SplT
  rw [List.length_map] at hcap ⊢
  refine Calls.mono (show Calls Tryd.prog 46 #[str l, str [32], .int .i64 41] w _ from hsp) ?_
  rintro e w' ⟨rfl, rfl⟩
  refine ⟨_, rfl, ?_, (Below.refl _ _).alloc (Nat.le_refl _) _⟩
  have hcm : min 41 (l.length + 1) ≤ 41 := by omega
  generalize min 41 (l.length + 1) = cap at hcap hsp hD hq hcm ⊢
  refine ⟨by simp, .inr ⟨w.heap.size, cap, Lib.cellsOf bs cap, by simp, Nat.le_refl _, heap_alloc_new _ _, by simpa using hcap, ?_, ?_, ?_⟩⟩
  · unfold maxLen; omega
  · unfold Lib.cellsOf; simp; omega
  · unfold Lib.cellsOf
    rw [Nat.mul_one, List.length_map, List.length_map]
    simp

theorem split47_any (l : List UInt8) (hl : l.length ≤ 1048576) (w : World) (hM : MaxL w) :
    ∃ q : List (List UInt8), (4 < (cutT 47 l).length ∧ 4 < q.length ∧ q.length ≤ 5 ∨ q = cutT 47 l ∧ (cutT 47 l).length ≤ 4) ∧
      Calls Tryd.prog 46 #[str l, str [47], .int .i64 5] w (SplT 47 5 l w q) := by
  obtain ⟨m, hm⟩ := hM
  have hsp := Tryd.strings_SplitN ⟨l.toArray⟩ ⟨#[47]⟩ 5 m w (by show l.toArray.size < _; simp; omega) hm (by decide) (by decide) (by decide)
  rw [show (⟨l.toArray⟩ : ByteArray).size = l.length from by simp [ByteArray.size]] at hsp
  have hD : (Lib.splitB ⟨#[47]⟩ 0 (min 5 (l.length + 1) - 1) ⟨l.toArray⟩).map (·.data.toList) = Lib.splitK [47] 0 (min 5 (l.length + 1) - 1) l := by rw [Lib.splitB_data]
  generalize Lib.splitB ⟨#[47]⟩ 0 (min 5 (l.length + 1) - 1) ⟨l.toArray⟩ = bs at hsp hD
  have hcl := cutT_le 47 l
  have hq : 4 < (cutT 47 l).length ∧ 4 < (Lib.splitK [47] 0 (min 5 (l.length + 1) - 1) l).length ∧ (Lib.splitK [47] 0 (min 5 (l.length + 1) - 1) l).length ≤ 5 ∨ Lib.splitK [47] 0 (min 5 (l.length + 1) - 1) l = cutT 47 l ∧ (cutT 47 l).length ≤ 4 := by
    rcases Nat.lt_or_ge (min 5 (l.length + 1) - 1 + 1) (cutT 47 l).length with h2 | h2
    · rw [splitK_long 47 l _ h2]; omega
    · rw [splitK_all 47 l _ h2]
      by_cases h : (cutT 47 l).length ≤ 4
      · exact .inr ⟨rfl, h⟩
      · exact .inl ⟨by omega, by omega, by omega⟩
  have hcap : (Lib.splitK [47] 0 (min 5 (l.length + 1) - 1) l).length ≤ min 5 (l.length + 1) := by
    rcases Nat.lt_or_ge (min 5 (l.length + 1) - 1 + 1) (cutT 47 l).length with h2 | h2
    · rw [splitK_long 47 l _ h2]; omega
    · rw [splitK_all 47 l _ h2]; omega
  rw [← hD] at hq hcap
  refine ⟨bs.map (·.data.toList), hq, ?_⟩
  unfold SplT
  rw [List.length_map] at hcap ⊢
  refine Calls.mono (show Calls Tryd.prog 46 #[str l, str [47], .int .i64 5] w _ from hsp) ?_
  rintro e w' ⟨rfl, rfl⟩
  refine ⟨_, rfl, ?_, (Below.refl _ _).alloc (Nat.le_refl _) _⟩
  have hcm : min 5 (l.length + 1) ≤ 5 := by omega
  generalize min 5 (l.length + 1) = cap at hcap hsp hD hq hcm ⊢
  refine ⟨by simp, .inr ⟨w.heap.size, cap, Lib.cellsOf bs cap, by simp, Nat.le_refl _, heap_alloc_new _ _, by simpa using hcap, ?_, ?_, ?_⟩⟩
  · unfold maxLen; omega
  · unfold Lib.cellsOf; simp; omega
  · unfold Lib.cellsOf
    rw [Nat.mul_one, List.length_map, List.length_map]
    simp

theorem SeeV.off {w w' : World} {B g n c : Nat} {xs : List Value} {row : Option Nat} (h : SeeV w B (.slice (some ⟨g, 0, none⟩) n c) xs) (hB : B ≤ w.heap.size) (hg : w.grownBy w' row) (hr : row ≠ some g) : SeeV w' B (.slice (some ⟨g, 0, none⟩) n c) xs := by
  obtain ⟨h0, A', c', he, hlt, h1⟩ := h
  refine ⟨h0, A', c', he, hlt, ?_⟩
  intro k x hx
  obtain ⟨g1, o, rfl, hb, hc⟩ := h1 k x hx
  injection he with he
  injection he with he
  injection he with he _
  subst he
  exact ⟨g, o, rfl, hb, (World.cell?_of_block (hg.block _ (by show g < _; omega) (fun q => hr q.symm))).trans hc⟩

theorem own_moreR {w1 : World} {B : Nat} {e : TypeId} {v' : Value} {zs : List Int} {z : Int} (h1 : w1.ownsRow B e 1 v' (zs.length + 1) (zs.map (Value.int .i64) ++ [.int .i64 z])) : OwnI w1 B e v' (zs ++ [z]) := by
  unfold OwnI
  simpa using h1

def RdIOut (w : World) (r : Option (List Int)) (e : Ending) (w' : World) : Prop := ∃ v, e = .returned (.tuple #[v, .bool r.isSome]) ∧ OwnI w' w.heap.size 2 v (r.getD []) ∧ Below w.heap.size w w'
theorem rdI_none {w w' : World} {r : Option (List Int)} {v : Value} (h : r = none) (o : OwnI w' w.heap.size 2 v []) (b : Below w.heap.size w w') : RdIOut w r (.returned (.tuple #[v, .bool false])) w' := by
  subst h; exact ⟨v, rfl, o, b⟩
theorem rdI_some {w w' : World} {r : Option (List Int)} {xs : List Int} {v : Value} (h : r = some xs) (o : OwnI w' w.heap.size 2 v xs) (b : Below w.heap.size w w') : RdIOut w r (.returned (.tuple #[v, .bool true])) w' := by
  subst h; exact ⟨v, rfl, o, b⟩

set_option maxHeartbeats 4000000 in
set_option maxRecDepth 100000 in
theorem iReadInts_any (t : List UInt8) (hl : t.length ≤ 1048576) (w : World) (V : Vars w) (M : MaxL w) :
    Calls Tryd.prog 47 #[str t, str [32], .int .i64 40, .func (.func 48) #[] #[]] w (RdIOut w (rdIntsP t)) := by
  obtain ⟨i0, hi, hz0, hz1, hz2⟩ := info_parts Tryd.infoI64
  have HCS := Lib.hid (fun x hx => Nat.le_trans (cutM_short 32 t x hx) hl)
  have oE := OwnI.empty w w.heap.size 2 (Nat.le_refl _)
  have bE := below_new w (.cells #[] 2)
  have HV := Lib.hid (fun W (b : Below w.heap.size w W) => V.below b)
  obtain ⟨q, hq, hsp⟩ := split32_any t hl (w.alloc (.cells #[] 2)) (M.below bE)
  have HSP := Lib.hid hsp
  obtain ⟨R, hR⟩ : ∃ R, rdIntsP t = R := ⟨_, rfl⟩
  rw [hR]
  have HR := Lib.hid hR
  have hszE : (w.alloc (.cells #[] 2)).heap.size = w.heap.size + 1 := by simp
  clear V M hsp hR
  go_enter Tryd.func47, Tryd.ntmps47
  go_wp2_with fail
  refine HSP.out.mono ?_
  clear HSP
  generalize w.alloc _ = WE at *
  rintro e w1 ⟨c, rfl, ov, b1⟩
  rw [hszE] at ov
  have o1 := own_later oE b1
  have bb := below_then bE b1 (Nat.le_refl _)
  have sv := ov.see
  have hw1 := b1.size
  have hw2 : w.heap.size + 2 ≤ w1.heap.size := by
    rcases ov.2 with ⟨h, _⟩ | ⟨g, c0, cu, h, _, hg, _⟩
    · cases h
    · injection h with h
      injection h with h
      injection h with h
      have := (Array.getElem?_eq_some_iff.1 hg).1
      omega
  clear oE bE b1
  rcases hq with ⟨hc, hq1, hq2⟩ | ⟨rfl, hc⟩
  · have HE : Hid (R = none) := Lib.hid (by rw [← HR.out]; unfold rdIntsP; rw [if_neg (by omega)])
    have hgt : (40 : Int) < q.length := by omega
    have oN := OwnI.empty w1 w1.heap.size 2 (Nat.le_refl _)
    have bN := below_new w1 (.cells #[] 2)
    go_wp2_with fail
    go_ret2
    exact rdI_none HE.out (oN.less (by omega)) (below_then bb bN (Nat.le_refl _))
  have HE : Hid (R = mapO rdS (cutT 32 t)) := Lib.hid (by rw [← HR.out]; unfold rdIntsP; rw [if_pos hc])
  have hle : ¬ (40 : Int) < (cutT 32 t).length := by omega
  have HC := Lib.hid hc
  generalize cutT 32 t = ts at *
  have hml : (ts.map str).length = ts.length := by simp
  clear HR hc
  go_wp2_with fail
  clear hle
  go_loopw [10, 13, 14, 15, 29] (fun l _ _ _ i wr => ∃ (k g' c' : Nat) (xs : List Int), k ≤ ts.length ∧ xs.length = k ∧ i = .int .i64 k ∧ l = .slice (some ⟨g', 0, none⟩) k c' ∧ OwnI wr w.heap.size 2 (.slice (some ⟨g', 0, none⟩) k c') xs ∧ mapO rdS (ts.take k) = some xs ∧ SeeV wr wr.heap.size (.slice (some ⟨(w.heap.size + 1), 0, none⟩) ts.length c) (ts.map str) ∧ g' ≠ (w.heap.size + 1) ∧ w.heap.size + 2 ≤ wr.heap.size ∧ Below w.heap.size w wr) (fun _ _ _ _ i _ => ts.length - (intOf i).toNat)
  case atStart => exact ⟨0, w.heap.size, 0, [], Nat.zero_le _, rfl, rfl, rfl, o1, rfl, sv, by omega, hw2, bb⟩
  case round =>
    clear o1 sv ov bb
    obtain ⟨k, g', c', xs, hk, hxl, rfl, rfl, ho, hm, sv, hgne, hwr, bb⟩ := hrel
    by_cases hlt : k < ts.length
    · have hx := List.getElem?_eq_getElem hlt
      generalize ts[k] = x at hx
      have hxs := HCS.out x (List.mem_of_getElem? hx)
      obtain ⟨g, p, e0, -, hcx⟩ := sv.at_ (k := k) (x := str x) (by rw [List.getElem?_map, hx]; rfl)
      injection e0 with e0
      injection e0 with e1 e2
      subst e1 e2
      rw [Nat.zero_add] at hcx
      have HI := Lib.hid (iReadWord_any x hxs wr (HV.out wr bb))
      have HX := Lib.hid hx
      have HM := Lib.hid hm
      clear hx hm
      cases hr : rdS x with
      | none =>
        rw [hr] at HI
        have HN : Hid (R = none) := Lib.hid (by rw [HE.out]; exact mapO_out HX.out hr)
        go_wp2_with fail
        refine HI.out.mono ?_
        rintro e w2 ⟨rfl, b2⟩
        have oN := OwnI.empty w2 w2.heap.size 2 (Nat.le_refl _)
        have bN := below_new w2 (.cells #[] 2)
        have bb2 := below_then bb b2 (Nat.le_refl _)
        have hz := bb2.size
        go_wp2_with fail
        go_ret2
        exact rdI_none HN.out (oN.less (by omega)) (below_then bb2 bN (Nat.le_refl _))
      | some n =>
        rw [hr] at HI
        have HM2 := Lib.hid (mapO_at HM.out HX.out hr)
        clear hr
        go_wp2_with fail
        refine HI.out.mono ?_
        rintro e w2 ⟨rfl, b2⟩
        have o2 := own_later ho b2
        have sv2 := (sv.below b2).more b2.size
        have bb2 := below_then bb b2 (Nat.le_refl _)
        have hz := bb2.size
        have HLT := Lib.hid ho.lt
        have oW : OwnI (w2.alloc (.cells #[.int .i64 n] 2)) w.heap.size 2 (.slice (some ⟨g', 0, none⟩) k c') xs := own_later o2 (below_new w2 (.cells #[.int .i64 n] 2))
        have svA := (sv2.below (below_new w2 (.cells #[.int .i64 n] 2))).more (below_new w2 (.cells #[.int .i64 n] 2)).size
        have h40 := HC.out
        have HSV := Lib.hid svA
        have HB := Lib.hid (And.intro b2.size bb.size)
        clear ho o2 sv b2 sv2 svA
        go_wp2_with (at_builtin; refine wpList_append_own_at _ rfl _ _ 61 rfl w.heap.size 2 i0 (.int .i64 0) 1 8 Tryd.underlying61 hi hz0 hz1 hz2 rfl (by decide) _ _ _ rfl oW ⟨w2.heap.size, 0, none⟩ 1 1 [.int .i64 n] rfl rfl (cell_one_new _ _ _) (by intro u hu; simp at hu; subst hu; rfl) (by unfold maxLen; omega) (by omega) (by simp; omega) ?_; intro v9 w9 hown9 hgr9 hnil9 hat9; (obtain ⟨g9, c9, rfl⟩ := own_base hown9 (fun q => by have := (hnil9.1 q).2; cases this)))
        have o9 : OwnI w9 w.heap.size 2 (.slice (some ⟨g9, 0, none⟩) (xs.length + 1) c9) (xs ++ [n]) := own_moreR hown9
        rw [hxl] at o9
        have bb9 : Below w.heap.size w w9 := ((bb2.trans ((Below.refl w.heap.size w2).alloc (by omega) (.cells #[.int .i64 n] 2)))).trans ((Below.refl _ _).grown hgr9 (by simp; omega) (fun j hj => by cases hj; exact (HLT.out g' rfl).1))
        have sv9 : SeeV w9 w9.heap.size (.slice (some ⟨(w.heap.size + 1), 0, none⟩) ts.length c) (ts.map str) := (HSV.out.off (Nat.le_refl _) hgr9 (by intro q; injection q with q; exact hgne q)).more hgr9.size
        have hg9 : g9 ≠ (w.heap.size + 1) := by
          have hb2 := HB.out
          rcases hat9 with q | q
          · injection q with q
            intro z
            exact hgne (q.symm.trans z)
          · injection q with q
            replace q : g9 = _ := q
            have h2 := hb2.1
            rw [World.size_alloc] at q
            omega
        have hgr9' := Lib.hid (show w2.heap.size + 1 ≤ w9.heap.size by simpa using hgr9.size)
        clear hown9 hgr9 hnil9 hat9 oW HSV bb2 bb
        go_roundw
        case rel => exact ⟨k + 1, g9, c9, xs ++ [n], by omega, by simp [hxl], by go_num, by simp, o9, HM2.out, sv9, hg9, by have := hgr9'.out; have h2 := HB.out.1; omega, bb9⟩
        case measure => simp [intOf]; omega
    · obtain rfl : k = ts.length := by omega
      have HN : Hid (R = some xs) := Lib.hid (by rw [HE.out, ← hm, List.take_length])
      go_wp2_with fail
      go_ret2
      exact rdI_some HN.out ho bb

end Go.Proofs.YtigcbegeaikfcaaDoor
