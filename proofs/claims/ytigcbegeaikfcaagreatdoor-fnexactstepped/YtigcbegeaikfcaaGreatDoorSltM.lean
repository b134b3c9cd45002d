/- Layer 9 (the player): slots: what they are, how they are read; the model's l9Item, l9Slots, l1Copy; the program's slotOk, slotsOk, slices.Clone. No conditions but those typed. -/
import Derived.Test.YtigcbegeaikfcaaGreatDoorCoreA
import Derived.Laws.AppendOwn
import Derived.Laws.AppendOwnNone
namespace Go.Proofs.YtigcbegeaikfcaaGreatDoor
open Go.RowKit
set_option linter.unusedVariables false

theorem all_more {α : Type} {p : α → Bool} {zs : List α} {k : Nat} {x : α} (h : (zs.take k).all p = true) (hx : zs[k]? = some x) (hp : p x = true) : (zs.take (k + 1)).all p = true := by
  rw [List.take_add_one, hx]; simp [h, hp]
theorem all_out {α : Type} {p : α → Bool} {zs : List α} {k : Nat} {x : α} (hx : zs[k]? = some x) (hp : p x = false) : zs.all p = false := by
  rw [List.all_eq_false]; exact ⟨x, List.mem_of_getElem? hx, by simp [hp]⟩
theorem all_end {α : Type} {p : α → Bool} {zs : List α} (h : (zs.take zs.length).all p = true) : zs.all p = true := by rwa [List.take_length] at h

def slotB (s : List Int) : Bool := decide (s.length ≤ 40) && s.all wordB
def slotsB (ss : List (List Int)) : Bool := decide (1 ≤ ss.length ∧ ss.length ≤ 4) && ss.all slotB
def itemS (ss : List (List Int)) (g k : Int) : Int := (ss.getD g.toNat []).getD k.toNat 0

/-- Slots read below block B: a row of rows. -/
def SeeSS (w : World) (B : Nat) (v : Value) (ss : List (List Int)) : Prop := ∃ vs : List Value, SeeV w B v vs ∧ vs.length = ss.length ∧ ∀ (k : Nat) (u : Value) (s : List Int), vs[k]? = some u → ss[k]? = some s → SeeI w B u s
theorem SeeSS.below {w w' : World} {B : Nat} {v : Value} {ss : List (List Int)} (h : SeeSS w B v ss) (hb : Below B w w') : SeeSS w' B v ss := by
  obtain ⟨vs, h1, h2, h3⟩ := h
  exact ⟨vs, h1.below hb, h2, fun k u s hu hs => (h3 k u s hu hs).below hb⟩
theorem SeeSS.more {w : World} {B B' : Nat} {v : Value} {ss : List (List Int)} (h : SeeSS w B v ss) (hb : B ≤ B') : SeeSS w B' v ss := by
  obtain ⟨vs, h1, h2, h3⟩ := h
  exact ⟨vs, h1.more hb, h2, fun k u s hu hs => (h3 k u s hu hs).more hb⟩
theorem SeeSS.shape {w : World} {B : Nat} {v : Value} {ss : List (List Int)} (h : SeeSS w B v ss) : ∃ A c, v = .slice A ss.length c := by
  obtain ⟨vs, h1, h2, h3⟩ := h
  rw [← h2]; exact h1.shape
theorem SeeSS.len {w : World} {B : Nat} {v : Value} {ss : List (List Int)} (h : SeeSS w B v ss) : ss.length ≤ maxLen := by
  obtain ⟨vs, h1, h2, h3⟩ := h
  rw [← h2]; exact h1.1
theorem SeeSS.at_ {w : World} {B : Nat} {A : Option Addr} {m c : Nat} {ss : List (List Int)} {k : Nat} {s : List Int} (h : SeeSS w B (.slice A m c) ss) (hs : ss[k]? = some s) :
    ∃ g o D q, A = some ⟨g, o, none⟩ ∧ w.cell? ⟨g, o + k, none⟩ = some (.slice D s.length q) ∧ SeeI w B (.slice D s.length q) s := by
  obtain ⟨vs, h1, h2, h3⟩ := h
  have hk : k < vs.length := by rw [h2]; exact (List.getElem?_eq_some_iff.1 hs).1
  obtain ⟨g, o, hA, -, hc⟩ := h1.at_ (List.getElem?_eq_getElem hk)
  have hu := h3 k _ s (List.getElem?_eq_getElem hk) hs
  obtain ⟨D, q, e⟩ := hu.shape
  rw [e] at hu hc
  exact ⟨g, o, D, q, hA, hc, hu⟩

theorem itemS_at {ss : List (List Int)} {g k : Nat} {s : List Int} (hs : ss[g]? = some s) : itemS ss g k = s.getD k 0 := by
  unfold itemS
  simp [List.getD_eq_getElem?_getD, hs]

set_option maxHeartbeats 2000000 in
theorem l9Item_any (B : Nat) (v : Value) (ss : List (List Int)) (g k : Nat) (w : World) (h : SeeSS w B v ss) (hg : g < ss.length) (hk : k ≤ 100000) :
    Calls Tryz.prog 147 #[v, .int .i64 g, .int .i64 k] w fun e w' => e = .returned (.int .i64 (itemS ss g k)) ∧ w = w' := by
  have hl := h.len
  unfold maxLen at hl
  obtain ⟨A, c, rfl⟩ := h.shape
  have hs := List.getElem?_eq_getElem hg
  generalize ss[g] = s at hs
  obtain ⟨b, o, D, q, rfl, hc, hi⟩ := h.at_ hs
  have hm := hi.1
  unfold maxLen at hm
  have HE : Hid (itemS ss g k = s.getD k 0) := Lib.hid (itemS_at hs)
  clear hs h
  by_cases hlt : k < s.length
  · obtain ⟨b2, o2, x, rfl, -, hx, hcx⟩ := hi.at_ hlt
    have HX : Hid (s.getD k 0 = x) := Lib.hid (by rw [List.getD_eq_getElem?_getD, hx]; rfl)
    clear hx hi
    go_enter Tryz.func147, Tryz.ntmps147
    go_wp2_with fail
    go_ret
    exact ⟨ret_int (by rw [HE.out, HX.out]), rfl⟩
  · have HX : Hid (s.getD k 0 = 0) := Lib.hid (by rw [List.getD_eq_getElem?_getD, List.getElem?_eq_none (by omega)]; rfl)
    clear hi
    go_enter Tryz.func147, Tryz.ntmps147
    go_wp2_with fail
    go_ret
    exact ⟨ret_int (by rw [HE.out, HX.out]), rfl⟩

set_option maxHeartbeats 2000000 in
theorem l9Slots_any (B : Nat) (v : Value) (ss : List (List Int)) (w : World) (h : SeeSS w B v ss) : Calls Tryz.prog 52 #[v] w (BoolIs (slotsB ss) w) := by
  have hl := h.len
  unfold maxLen at hl
  obtain ⟨A, c, rfl⟩ := h.shape
  go_enter Tryz.func52, Tryz.ntmps52
  go_wp2_with fail
  go_loop [3, 4] (fun i _ => ∃ k : Nat, k ≤ ss.length ∧ i = .int .i64 k ∧ (ss.take k).all slotB = true) (fun i _ => ss.length - (intOf i).toNat)
  case atStart => exact ⟨0, Nat.zero_le _, rfl, by simp⟩
  case round =>
    obtain ⟨k, hk, rfl, hv⟩ := hrel
    have HV := Lib.hid hv
    clear hv
    by_cases hlt : k < ss.length
    · have hs := List.getElem?_eq_getElem hlt
      generalize ss[k] = s at hs
      have HS := Lib.hid hs
      obtain ⟨b, o, D, q, rfl, hc, hi⟩ := h.at_ hs
      have hm := hi.1
      unfold maxLen at hm
      clear hs
      by_cases h40 : s.length ≤ 40
      · have h40' : ¬ (40 : Int) < (s.length : Int) := by omega
        have HB : Hid (slotB s = s.all wordB) := Lib.hid (by unfold slotB; rw [decide_eq_true h40, Bool.true_and])
        go_wp2_with fail
        clear h40 h40'
        go_loop [4] (fun i => ∃ j : Nat, j ≤ s.length ∧ i = .int .i64 j ∧ (s.take j).all wordB = true) (fun i => s.length - (intOf i).toNat)
        case atStart => exact ⟨0, Nat.zero_le _, rfl, by simp⟩
        case round =>
          obtain ⟨j, hj, rfl, hv⟩ := hrel
          have HW := Lib.hid hv
          clear hv
          by_cases hjt : j < s.length
          · obtain ⟨b2, o2, x, rfl, -, hx, hcx⟩ := hi.at_ hjt
            have HX := Lib.hid hx
            clear hx
            go_wp2_with fail
            refine (l5Word_any x _).mono ?_
            rintro e w' ⟨rfl, rfl⟩
            cases hp : wordB x
            · have HE : Hid (slotsB ss = false) := Lib.hid (by unfold slotsB; rw [all_out HS.out (by rw [HB.out]; exact all_out HX.out hp), Bool.and_false])
              go_wp2_with fail
              go_ret
              exact ⟨ret_bool HE.out.symm, rfl⟩
            · have HO := Lib.hid (all_more HW.out HX.out hp)
              go_wp2_with fail
              go_round
              case rel => exact ⟨j + 1, by omega, by go_num, HO.out⟩
              case measure => simp [intOf]; omega
          · obtain rfl : j = s.length := by omega
            have HO : Hid ((ss.take (k + 1)).all slotB = true) := Lib.hid (all_more HV.out HS.out (by rw [HB.out]; exact all_end HW.out))
            clear HW hi
            go_wp2_with fail
            go_round
            case rel => exact ⟨k + 1, by omega, by go_num, HO.out⟩
            case measure => simp [intOf]; omega
      · have h40' : (40 : Int) < (s.length : Int) := by omega
        have HE : Hid (slotsB ss = false) := Lib.hid (by unfold slotsB; rw [all_out HS.out (by unfold slotB; rw [decide_eq_false h40, Bool.false_and]), Bool.and_false])
        clear h40
        go_wp2_with fail
        go_ret
        exact ⟨ret_bool HE.out.symm, rfl⟩
    · obtain rfl : k = ss.length := by omega
      have HE : Hid (slotsB ss = inB ss.length 1 4) := Lib.hid (by
        unfold slotsB inB
        rw [all_end HV.out, Bool.and_true]
        exact decide_eq_decide.2 (by omega))
      clear HV h
      go_wp2_with fail
      refine (in_any _ 1 4 _).mono ?_
      rintro e w' ⟨rfl, rfl⟩
      go_wp2_with fail
      go_ret
      exact ⟨ret_bool HE.out.symm, rfl⟩

/-- A nil slice has no room. -/
def nilOk : Value → Prop
  | .slice none _ c => c = 0
  | _ => True
theorem ints_news {W : World} {B n c : Nat} {ad : Addr} {zs : List Int} (h : SeeI W B (.slice (some ad) n c) zs) : ∀ j u, (zs.map (Value.int .i64))[j]? = some u → W.cell? (ad.add j) = some u := fun j u hu => by
  have hj : j < zs.length := by have := (List.getElem?_eq_some_iff.1 hu).1; simpa using this
  obtain ⟨g, o, x, e, -, hx, hc⟩ := h.at_ hj
  injection e with e
  subst e
  rw [List.getElem?_map, hx] at hu
  injection hu with hu
  subst hu
  have : (⟨g, o, none⟩ : Addr).add j = ⟨g, o + j, none⟩ := by unfold Addr.add; split <;> simp_all
  rw [this]; exact hc
theorem ints_one (zs : List Int) (u : Value) (h : u ∈ zs.map (Value.int .i64)) : u.oneCell' = true := by
  obtain ⟨x, -, rfl⟩ := List.mem_map.1 h; rfl
def CopyOut (w : World) (zs : List Int) (e : Ending) (w' : World) : Prop := ∃ g c, e = .returned (.slice (some ⟨g, 0, none⟩) zs.length c) ∧ OwnI w' w.heap.size 2 (.slice (some ⟨g, 0, none⟩) zs.length c) zs ∧ Below w.heap.size w w'
theorem own_base {w : World} {B n k : Nat} {e : TypeId} {v : Value} {xs : List Value} (h : w.ownsRow B e k v n xs) (hn : ¬ v = .slice none 0 0) : ∃ g c, v = .slice (some ⟨g, 0, none⟩) n c := by
  obtain ⟨_, h | ⟨g, c, _, h, _⟩⟩ := h
  · exact absurd h.1 hn
  · exact ⟨g, c, h⟩

set_option maxHeartbeats 2000000 in
theorem l1Copy_any (B : Nat) (v : Value) (zs : List Int) (w : World) (s : SeeI w B v zs) (hB : B ≤ w.heap.size) (hn : nilOk v) (hl : zs.length ≤ 1048576) : Calls Tryz.prog 100 #[v] w (CopyOut w zs) := by
  obtain ⟨i0, hi, hz0, hz1, hz2⟩ := info_parts Tryz.infoI64
  have oE := OwnI.empty w w.heap.size 2 (Nat.le_refl _)
  have bE := below_new w (.cells #[] 2)
  have sE := s.below (bE.mono hB)
  obtain ⟨A, c, rfl⟩ := s.shape
  cases A with
  | none =>
    obtain rfl : c = 0 := hn
    have hz : zs = [] := by
      cases zs with
      | nil => rfl
      | cons x r => obtain ⟨g, o, y, e, -⟩ := s.at_ (k := 0) (by simp); cases e
    subst hz
    go_enter Tryz.func100, Tryz.ntmps100
    go_wp2_with (at_builtin; refine wpList_append_own_none rfl _ _ 24 rfl w.heap.size 2 i0 1 Tryz.underlying24 hi _ _ _ rfl oE rfl ?_)
    go_ret
    exact ⟨_, _, rfl, oE, bE⟩
  | some ad =>
    go_enter Tryz.func100, Tryz.ntmps100
    go_wp2_with (at_builtin; refine wpList_append_own _ rfl _ _ 24 rfl w.heap.size 2 i0 (.int .i64 0) 1 8 Tryz.underlying24 hi hz0 hz1 hz2 rfl (by decide) _ _ _ rfl oE ad zs.length c (zs.map (Value.int .i64)) rfl (by simp) (ints_news sE) (ints_one zs) (by unfold maxLen; simp; omega) (by simp; omega) (by simp) ?_; intro v2 w2 hown2 hgr2 hnil2)
    have b2 : Below w.heap.size w w2 := bE.grown hgr2 bE.size (fun j hj => by cases hj; exact Nat.le_refl _)
    obtain ⟨g, c2, rfl⟩ := own_base hown2 (fun q => by have := (hnil2.1 q).1; cases this)
    simp only [List.length_nil, Nat.zero_add] at hown2
    go_wp2
    go_ret
    exact ⟨g, c2, by simp, hown2, b2⟩

set_option maxHeartbeats 1000000 in
theorem each_WordOk (B : Nat) (v : Value) (zs : List Int) (w : World) (h : SeeI w B v zs) : Calls Tryz.prog 108 #[v, .func (.func 109) #[] #[]] w (BoolIs (zs.all wordB) w) := by
  have hm := h.1
  unfold maxLen at hm
  obtain ⟨A, c, rfl⟩ := h.shape
  go_enter Tryz.func108, Tryz.ntmps108
  go_wp2_with fail
  go_loop [6, 9] (fun _ i => ∃ k : Nat, k ≤ zs.length ∧ i = .int .i64 k ∧ (zs.take k).all wordB = true) (fun _ i => zs.length - (intOf i).toNat)
  case atStart => exact ⟨0, Nat.zero_le _, rfl, by simp⟩
  case round =>
    obtain ⟨k, hk, rfl, hv⟩ := hrel
    have HV := Lib.hid hv
    clear hv
    by_cases hlt : k < zs.length
    · obtain ⟨g, o, x, rfl, -, hx, hc⟩ := h.at_ hlt
      have HX := Lib.hid hx
      clear hx h
      go_wp2_with fail
      refine (iWordOk_any x _).mono ?_
      rintro e w' ⟨rfl, rfl⟩
      cases hp : wordB x
      · have HE := Lib.hid (all_out HX.out hp)
        go_wp2_with fail
        go_ret
        exact ⟨ret_bool HE.out.symm, rfl⟩
      · have HE := Lib.hid (all_more HV.out HX.out hp)
        go_wp2_with fail
        go_round
        case rel => exact ⟨k + 1, by omega, by go_num, HE.out⟩
        case measure => simp [intOf]; omega
    · obtain rfl : k = zs.length := by omega
      have HE := Lib.hid (all_end HV.out)
      go_wp2_with fail
      go_ret
      exact ⟨ret_bool HE.out.symm, rfl⟩

set_option maxHeartbeats 1000000 in
theorem iSlotOk_any (B : Nat) (v : Value) (zs : List Int) (w : World) (h : SeeI w B v zs) : Calls Tryz.prog 98 #[v] w (BoolIs (slotB zs) w) := by
  have hm := h.1
  unfold maxLen at hm
  obtain ⟨A, c, rfl⟩ := h.shape
  by_cases hl : zs.length ≤ 40
  · have HE : Hid (slotB zs = zs.all wordB) := Lib.hid (by unfold slotB; rw [decide_eq_true hl, Bool.true_and])
    have hl2 : (zs.length : Int) ≤ 40 := by omega
    go_enter Tryz.func98, Tryz.ntmps98
    go_wp2_with fail
    refine (each_WordOk B _ zs _ h).mono ?_
    rintro e w' ⟨rfl, rfl⟩
    go_wp2_with fail
    go_ret
    exact ⟨ret_bool HE.out.symm, rfl⟩
  · have HE : Hid (slotB zs = false) := Lib.hid (by unfold slotB; rw [decide_eq_false hl, Bool.false_and])
    have hl2 : ¬ (zs.length : Int) ≤ 40 := by omega
    go_enter Tryz.func98, Tryz.ntmps98
    go_wp2_with fail
    go_ret
    exact ⟨ret_bool (by rw [HE.out]), rfl⟩

set_option maxHeartbeats 1000000 in
theorem each_slotOk (B : Nat) (v : Value) (ss : List (List Int)) (w : World) (h : SeeSS w B v ss) : Calls Tryz.prog 97 #[v, .func (.func 98) #[] #[]] w (BoolIs (ss.all slotB) w) := by
  have hm := h.len
  unfold maxLen at hm
  obtain ⟨A, c, rfl⟩ := h.shape
  go_enter Tryz.func97, Tryz.ntmps97
  go_wp2_with fail
  go_loop [6, 9] (fun _ i => ∃ k : Nat, k ≤ ss.length ∧ i = .int .i64 k ∧ (ss.take k).all slotB = true) (fun _ i => ss.length - (intOf i).toNat)
  case atStart => exact ⟨0, Nat.zero_le _, rfl, by simp⟩
  case round =>
    obtain ⟨k, hk, rfl, hv⟩ := hrel
    have HV := Lib.hid hv
    clear hv
    by_cases hlt : k < ss.length
    · have hx := List.getElem?_eq_getElem hlt
      generalize ss[k] = s at hx
      obtain ⟨g, o, D, q, rfl, hc, hi⟩ := h.at_ hx
      have HX := Lib.hid hx
      have HC := Lib.hid (fun W r => iSlotOk_any B (.slice D s.length q) s W r)
      clear hx h
      go_wp2_with fail
      refine (HC.out _ hi).mono ?_
      rintro e w' ⟨rfl, rfl⟩
      cases hp : slotB s
      · have HE := Lib.hid (all_out HX.out hp)
        go_wp2_with fail
        go_ret
        exact ⟨ret_bool HE.out.symm, rfl⟩
      · have HE := Lib.hid (all_more HV.out HX.out hp)
        go_wp2_with fail
        go_round
        case rel => exact ⟨k + 1, by omega, by go_num, HE.out⟩
        case measure => simp [intOf]; omega
    · obtain rfl : k = ss.length := by omega
      have HE := Lib.hid (all_end HV.out)
      go_wp2_with fail
      go_ret
      exact ⟨ret_bool HE.out.symm, rfl⟩

set_option maxHeartbeats 1000000 in
theorem iSlotsOk_any (B : Nat) (v : Value) (ss : List (List Int)) (w : World) (h : SeeSS w B v ss) : Calls Tryz.prog 45 #[v] w (BoolIs (slotsB ss) w) := by
  have hm := h.len
  unfold maxLen at hm
  obtain ⟨A, c, rfl⟩ := h.shape
  by_cases h1 : 1 ≤ ss.length
  · by_cases h4 : ss.length ≤ 4
    · have HE : Hid (slotsB ss = ss.all slotB) := Lib.hid (by unfold slotsB; rw [decide_eq_true ⟨h1, h4⟩, Bool.true_and])
      have h1' : (1 : Int) ≤ (ss.length : Int) := by omega
      have h4' : (ss.length : Int) ≤ 4 := by omega
      go_enter Tryz.func45, Tryz.ntmps45
      go_wp2_with fail
      refine (each_slotOk B _ ss _ h).mono ?_
      rintro e w' ⟨rfl, rfl⟩
      go_wp2_with fail
      go_ret
      exact ⟨ret_bool HE.out.symm, rfl⟩
    · have HE : Hid (slotsB ss = false) := Lib.hid (by unfold slotsB; rw [decide_eq_false (fun q => h4 q.2), Bool.false_and])
      have h1' : (1 : Int) ≤ (ss.length : Int) := by omega
      have h4' : ¬ (ss.length : Int) ≤ 4 := by omega
      go_enter Tryz.func45, Tryz.ntmps45
      go_wp2_with fail
      go_ret
      exact ⟨ret_bool (by rw [HE.out]), rfl⟩
  · have HE : Hid (slotsB ss = false) := Lib.hid (by unfold slotsB; rw [decide_eq_false (fun q => h1 q.1), Bool.false_and])
    have h1' : ¬ (1 : Int) ≤ (ss.length : Int) := by omega
    go_enter Tryz.func45, Tryz.ntmps45
    go_wp2_with fail
    go_ret
    exact ⟨ret_bool (by rw [HE.out]), rfl⟩

/-- A copy of a row of numbers: nil of nil. -/
def CloneOut (w : World) (zs : List Int) (e : Ending) (w' : World) : Prop := ∃ v, e = .returned v ∧ OwnI w' w.heap.size 2 v zs ∧ nilOk v ∧ Below w.heap.size w w'
set_option maxHeartbeats 2000000 in
set_option maxRecDepth 100000 in
theorem cloneI_any (B : Nat) (v : Value) (zs : List Int) (w : World) (s : SeeI w B v zs) (hB : B ≤ w.heap.size) (hn : nilOk v) (hl : zs.length ≤ 1048576) : Calls Tryz.prog 93 #[v] w (CloneOut w zs) := by
  obtain ⟨i0, hi, hz0, hz1, hz2⟩ := info_parts Tryz.infoI64
  have oE := OwnI.empty w w.heap.size 2 (Nat.le_refl _)
  have bE := below_new w (.cells #[] 2)
  have sE := s.below (bE.mono hB)
  have q22 : ∀ (w : World) (a : Option Addr) (n c n' c' : Nat), (binOp .eql 24 (.slice a n c) (.slice none n' c')).run Tryz.prog w = .ok (.bool a.isNone) w := fun w a n c n' c' => Lib.run_eql_slice_nil w _ _ a n c n' c' Tryz.underlying24
  obtain ⟨A, c, rfl⟩ := s.shape
  cases A with
  | none =>
    obtain rfl : c = 0 := hn
    have hz : zs = [] := by
      cases zs with
      | nil => rfl
      | cons x r => obtain ⟨g, o, y, e, -⟩ := s.at_ (k := 0) (by simp); cases e
    subst hz
    go_enter Tryz.func93, Tryz.ntmps93
    go_wp2_with fail
    go_ret
    exact ⟨_, rfl, OwnI.nil _ _ _, rfl, Below.refl _ _⟩
  | some ad =>
    go_enter Tryz.func93, Tryz.ntmps93
    go_wp2_with (at_builtin; refine wpList_append_own _ rfl _ _ 24 rfl w.heap.size 2 i0 (.int .i64 0) 1 8 Tryz.underlying24 hi hz0 hz1 hz2 rfl (by decide) _ _ _ rfl oE ad zs.length c (zs.map (Value.int .i64)) rfl (by simp) (ints_news sE) (ints_one zs) (by unfold maxLen; simp; omega) (by simp; omega) (by simp) ?_; intro v2 w2 hown2 hgr2 hnil2)
    have b2 : Below w.heap.size w w2 := bE.grown hgr2 bE.size (fun j hj => by cases hj; exact Nat.le_refl _)
    obtain ⟨g, c2, rfl⟩ := own_base hown2 (fun q => by have := (hnil2.1 q).1; cases this)
    simp only [List.length_nil, Nat.zero_add] at hown2
    go_wp2
    go_ret
    exact ⟨.slice (some ⟨g, 0, none⟩) zs.length c2, by simp, hown2, trivial, b2⟩

end Go.Proofs.YtigcbegeaikfcaaGreatDoor
