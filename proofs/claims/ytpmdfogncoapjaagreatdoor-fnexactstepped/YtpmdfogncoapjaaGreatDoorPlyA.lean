/- Layer 9 (the player): how the program finds a box by its name: byName, cmp.Compare at text, slices.BinarySearchFunc at boxes. No conditions but those typed. -/
import Derived.Test.YtpmdfogncoapjaaGreatDoorCoreO
namespace Go.Proofs.YtpmdfogncoapjaaGreatDoor
open Go.RowKit
set_option linter.unusedVariables false

set_option maxHeartbeats 400000 in
theorem isNaN_any (s : List UInt8) (w : World) : Calls Tryz.prog 194 #[str s] w fun e w' => e = .returned (.bool false) ∧ w = w' := by
  have h : (!(s == s)) = false := by simp
  go_enter Tryz.func194, Tryz.ntmps194
  go_wp2_with fail
  go_ret
  exact ⟨rfl, rfl⟩

/-- How two texts stand to each other: -1, 0, 1. -/
def cmpS (s n : List UInt8) : Int := if Op.bytesLess s n then -1 else if Op.bytesLess n s then 1 else 0

set_option maxHeartbeats 400000 in
theorem compare_any (s n : List UInt8) (w : World) : Calls Tryz.prog 189 #[str s, str n] w fun e w' => e = .returned (.int .i64 (cmpS s n)) ∧ w = w' := by
  cases h1 : Op.bytesLess s n
  · cases h2 : Op.bytesLess n s
    · have hq : (!(s == n)) = false := by
        have := less_or_eq s n
        rw [h1, h2] at this
        simpa using this
      have HE : Hid (cmpS s n = 0) := Lib.hid (by unfold cmpS; rw [h1, h2]; rfl)
      go_enter Tryz.func189, Tryz.ntmps189
      go_wp2_with (go_at_call 194; refine (isNaN_any _ _).mono ?_; rintro e w' ⟨rfl, rfl⟩)
      go_ret
      exact ⟨ret_int HE.out.symm, rfl⟩
    · have hq : (!(s == n)) = true := by
        have := less_or_eq s n
        rw [h1, h2] at this
        simpa using this
      have HE : Hid (cmpS s n = 1) := Lib.hid (by unfold cmpS; rw [h1, h2]; rfl)
      go_enter Tryz.func189, Tryz.ntmps189
      go_wp2_with (go_at_call 194; refine (isNaN_any _ _).mono ?_; rintro e w' ⟨rfl, rfl⟩)
      go_ret
      exact ⟨ret_int HE.out.symm, rfl⟩
  · have HE : Hid (cmpS s n = -1) := Lib.hid (by unfold cmpS; rw [h1]; rfl)
    go_enter Tryz.func189, Tryz.ntmps189
    go_wp2_with (go_at_call 194; refine (isNaN_any _ _).mono ?_; rintro e w' ⟨rfl, rfl⟩)
    go_ret
    exact ⟨ret_int HE.out.symm, rfl⟩

set_option maxHeartbeats 400000 in
theorem byName_any (s : List UInt8) (x : Int) (n : List UInt8) (w : World) : Calls Tryz.prog 182 #[.agg #[str s, .int .i64 x], str n] w fun e w' => e = .returned (.int .i64 (cmpS s n)) ∧ Below w.heap.size w w' := by
  go_enter Tryz.func182, Tryz.ntmps182
  go_wp2_with fail
  refine (compare_any _ _ _).mono ?_
  rintro e w' ⟨rfl, rfl⟩
  go_wp2_with fail
  go_ret
  exact ⟨rfl, below_new _ _⟩

theorem cmpS_neg {s n : List UInt8} : cmpS s n < 0 ↔ Op.bytesLess s n = true := by
  unfold cmpS
  cases Op.bytesLess s n <;> cases Op.bytesLess n s <;> simp
theorem cmpS_zero {s n : List UInt8} : cmpS s n = 0 ↔ s = n := by
  unfold cmpS
  rw [less_lt, less_lt]
  constructor
  · intro h
    by_cases h1 : s < n
    · simp [h1] at h
    · by_cases h2 : n < s
      · simp [h1, h2] at h
      · have a : n ≤ s := h1
        have b : s ≤ n := h2
        exact List.le_antisymm b a
  · rintro rfl
    simp [List.lt_irrefl]

/-- Boxes that rise. -/
def Rise (bs : List Bx) : Prop := ∀ (i j : Nat) (b c : Bx), i < j → bs[i]? = some b → bs[j]? = some c → Op.bytesLess b.1 c.1 = true
theorem less_trans {a b c : List UInt8} (h1 : Op.bytesLess a b = true) (h2 : Op.bytesLess b c = true) : Op.bytesLess a c = true := by
  rw [less_lt, decide_eq_true_eq] at *
  exact List.lt_trans h1 h2
theorem boxes_rise {bs : List Bx} (h : boxesB bs = true) : Rise bs := by
  have hat : ∀ k, k < bs.length → boxAt bs k = true := fun k hk => by
    unfold boxesB boxesTo at h
    simp only [Bool.and_eq_true] at h
    exact List.all_eq_true.1 h.1 k (List.mem_range.2 hk)
  have step : ∀ j b c, bs[j]? = some b → bs[j + 1]? = some c → Op.bytesLess b.1 c.1 = true := fun j b c hb hc => by
    have := hat (j + 1) (List.getElem?_eq_some_iff.1 hc).1
    unfold boxAt at this
    rw [hc] at this
    simp only [risesAt, hb, Bool.and_eq_true] at this
    exact this.2.2
  intro i j b c hij hb hc
  induction j generalizing c with
  | zero => omega
  | succ j ih =>
    by_cases e : i = j
    · subst e; exact step i b c hb hc
    · have hj : j < bs.length := by have := (List.getElem?_eq_some_iff.1 hc).1; omega
      have hd := List.getElem?_eq_getElem hj
      exact less_trans (ih bs[j] (by omega) hd) (step j _ c hd hc)

/-- Does the box at that place bear that name? -/
def isS (bs : List Bx) (n : List UInt8) : Bool := match bs[placeS bs n]? with
  | some b => decide (b.1 = n)
  | none => false
theorem isS_at {bs : List Bx} {n : List UInt8} {k : Nat} {b : Bx} (hp : placeS bs n = k) (hb : bs[k]? = some b) : isS bs n = decide (cmpS b.1 n = 0) := by
  unfold isS
  rw [hp, hb]
  exact decide_eq_decide.2 cmpS_zero.symm
theorem isS_end {bs : List Bx} {n : List UInt8} (hp : placeS bs n = bs.length) : isS bs n = false := by
  unfold isS
  rw [hp, List.getElem?_eq_none (Nat.le_refl _)]
theorem less_not_less {b c n : List UInt8} (h1 : Op.bytesLess b c = true) (h2 : Op.bytesLess b n = false) : Op.bytesLess c n = false := by
  cases h : Op.bytesLess c n
  · rfl
  · rw [less_trans h1 h] at h2; cases h2

theorem search_ret {k m : Nat} {a b : Bool} (h : k = m) (h2 : a = b) : Ending.returned (.tuple #[.int .i64 (k : Int), .bool a]) = .returned (.tuple #[.int .i64 (m : Int), .bool b]) := by rw [h, h2]

set_option maxHeartbeats 2000000 in
theorem search_any (B : Nat) (v : Value) (bs : List Bx) (n : List UInt8) (w : World) (h : SeeBx w B v bs) (hB : B ≤ w.heap.size) (hr : Rise bs) (hl : bs.length ≤ 12) :
    Calls Tryz.prog 181 #[v, str n, .func (.func 182) #[] #[]] w fun e w' =>
      e = .returned (.tuple #[.int .i64 (placeS bs n : Nat), .bool (isS bs n)]) ∧ Below w.heap.size w w' := by
  obtain ⟨A, c, rfl⟩ := h.shape
  have HR := Lib.hid hr
  clear hr
  have HBN := Lib.hid (fun s x w => byName_any s x n w)
  go_enter Tryz.func181, Tryz.ntmps181
  go_wp2_with fail
  go_loopw [9, 10] (fun i j wr => ∃ lo hi : Nat, lo ≤ hi ∧ hi ≤ bs.length ∧ i = .int .i64 lo ∧ j = .int .i64 hi ∧ (∀ t b, t < lo → bs[t]? = some b → Op.bytesLess b.1 n = true) ∧ (∀ t b, hi ≤ t → bs[t]? = some b → Op.bytesLess b.1 n = false) ∧ Below w.heap.size w wr) (fun i j _ => (intOf j).toNat - (intOf i).toNat)
  case atStart => exact ⟨0, bs.length, Nat.zero_le _, Nat.le_refl _, rfl, rfl, fun t b h => absurd h (Nat.not_lt_zero _), fun t b h hb => absurd (List.getElem?_eq_some_iff.1 hb).1 (by omega), Below.refl _ _⟩
  case round =>
    obtain ⟨lo, hi, hlh, hhl, rfl, rfl, hv1, hv2, hbw⟩ := hrel
    have H1 := Lib.hid hv1
    have H2 := Lib.hid hv2
    clear hv1 hv2
    by_cases hlt : lo < hi
    · obtain ⟨m, hm⟩ : ∃ m, m = (lo + hi) / 2 := ⟨_, rfl⟩
      have hm1 : ((lo : Int) + (hi : Int)) / 2 = (m : Int) := by omega
      have hmlt : m < bs.length := by omega
      have hb := List.getElem?_eq_getElem hmlt
      generalize bs[m] = b at hb
      obtain ⟨g, o, rfl, -, h0, h1⟩ := (h.below (hbw.mono hB)).at_ hb
      obtain ⟨s, y⟩ := b
      dsimp only at h0 h1
      have HX := Lib.hid hb
      clear hb
      have hml : lo ≤ m := by omega
      have hmh : m < hi := by omega
      have HM := Lib.hid hm
      clear hm
      cases hs : Op.bytesLess s n
      · have hc : ¬ cmpS s n < 0 := by rw [cmpS_neg, hs]; simp
        have HS := Lib.hid hs
        clear hs
        have HBM := Lib.hid (fun W => HBN.out s y W)
        generalize cmpS s n = z at *
        go_wp2_with (refine (HBM.out _).mono ?_; rintro e w2 ⟨rfl, b2⟩)
        have b3 := below_then hbw b2 (Nat.le_refl _)
        go_roundw
        case rel => exact ⟨lo, m, hml, by omega, rfl, by go_num, H1.out, fun t b ht hb => (by
          by_cases e : t = m
          · subst e; rw [HX.out] at hb; injection hb with hb; subst hb; exact HS.out
          · by_cases ht2 : hi ≤ t
            · exact H2.out t b ht2 hb
            · cases hq : Op.bytesLess b.1 n
              · rfl
              · have := less_trans (HR.out m t _ b (by omega) HX.out hb) hq
                rw [HS.out] at this; cases this), b3⟩
        case measure => simp [intOf]; omega
      · have hc : cmpS s n < 0 := cmpS_neg.2 hs
        have HS := Lib.hid hs
        clear hs
        have HBM := Lib.hid (fun W => HBN.out s y W)
        generalize cmpS s n = z at *
        go_wp2_with (refine (HBM.out _).mono ?_; rintro e w2 ⟨rfl, b2⟩)
        have b3 := below_then hbw b2 (Nat.le_refl _)
        go_roundw
        case rel => exact ⟨m + 1, hi, by omega, hhl, by go_num, rfl, fun t b ht hb => (by
          by_cases e : t = m
          · subst e; rw [HX.out] at hb; injection hb with hb; subst hb; exact HS.out
          · exact less_trans (HR.out t m b _ (by omega) hb HX.out) HS.out), H2.out, b3⟩
        case measure => simp [intOf]; omega
    · obtain rfl : lo = hi := by omega
      have hp : placeS bs n = lo := place_at (fun t b ht hb => H1.out t b ht hb) (fun b hb => H2.out lo b (Nat.le_refl _) hb) hhl
      by_cases hn : lo < bs.length
      · have hb := List.getElem?_eq_getElem hn
        generalize bs[lo] = b at hb
        obtain ⟨g, o, rfl, -, h0, h1⟩ := (h.below (hbw.mono hB)).at_ hb
        have HE := Lib.hid (isS_at hp hb)
        obtain ⟨s, y⟩ := b
        dsimp only at h0 h1 HE
        have HP := Lib.hid hp
        clear hb hp h
        have HBM := Lib.hid (fun W => HBN.out s y W)
        generalize cmpS s n = z at *
        by_cases hz : z = 0
        · go_wp2_with (refine (HBM.out _).mono ?_; rintro e w2 ⟨rfl, b2⟩)
          have b3 := below_then hbw b2 (Nat.le_refl _)
          go_ret2
          exact ⟨search_ret HP.out.symm (by rw [HE.out]; simp [hz]), b3⟩
        · go_wp2_with (refine (HBM.out _).mono ?_; rintro e w2 ⟨rfl, b2⟩)
          have b3 := below_then hbw b2 (Nat.le_refl _)
          go_ret2
          exact ⟨search_ret HP.out.symm (by rw [HE.out]; simp [hz]), b3⟩
      · have HE := Lib.hid (isS_end (by rw [hp]; omega))
        have HP := Lib.hid hp
        clear hp h
        go_wp2_with fail
        go_ret2
        exact ⟨search_ret HP.out.symm HE.out.symm, hbw⟩

end Go.Proofs.YtpmdfogncoapjaaGreatDoor
