/- The laws' own helpers on lists of texts: their size, a copy, whether two are equal, marked, held. No conditions but those typed. -/
import Derived.Test.YtpembdiopmdhfaaGreatDoorRows
import Derived.Test.YtpembdiopmdhfaaGreatDoorSizeM
import Derived.Test.YtpembdiopmdhfaaGreatDoorRowV
import Derived.Deep.OwnRows
import Derived.Deep.QuietTactic
import Derived.BigQuiet
namespace Go.Proofs.YtpembdiopmdhfaaGreatDoor
open Go.RowKit
set_option linter.unusedVariables false

theorem tx_at {w : World} {B : Nat} {A : Option Addr} {m c : Nat} {ss : List (List UInt8)} {k : Nat} {x : List UInt8} (h : SeeV w B (.slice A m c) (ss.map str)) (hx : ss[k]? = some x) :
    ∃ g o, A = some ⟨g, o, none⟩ ∧ g < B ∧ w.cell? ⟨g, o + k, none⟩ = some (str x) := h.at_ (by rw [List.getElem?_map, hx]; rfl)
theorem tx_shape {w : World} {B : Nat} {v : Value} {ss : List (List UInt8)} (h : SeeV w B v (ss.map str)) : ∃ A c, v = .slice A ss.length c := by
  obtain ⟨A, c, e⟩ := h.shape; exact ⟨A, c, by rw [e, List.length_map]⟩
theorem tx_len {w : World} {B : Nat} {v : Value} {ss : List (List UInt8)} (h : SeeV w B v (ss.map str)) : ss.length ≤ maxLen := by have := h.1; rwa [List.length_map] at this
theorem ret_num {a b : Int} (h : a = b) : Ending.returned (.int .i64 a) = .returned (.int .i64 b) := by rw [h]
theorem ret_tru {a b : Bool} (h : a = b) : Ending.returned (.bool a) = .returned (.bool b) := by rw [h]

def txLens (ss : List (List UInt8)) : List Nat := ss.map List.length
/-- No text is longer than an int64 says. -/
def fitS (ss : List (List UInt8)) : Prop := ∀ s ∈ ss, s.length ≤ 9223372036854775807

theorem sz_strs {ss : List (List UInt8)} {left : Int} (h : 0 ≤ szL left (txLens ss)) (h0 : 0 ≤ left) (h1 : left ≤ 1048576) : ss.length ≤ 1048576 ∧ (∀ s ∈ ss, s.length ≤ 1048576) ∧ szL left (txLens ss) ≤ 1048576 := by
  rcases szL_fits (ls := txLens ss) h0 with e | ⟨_, e1, e2, e3⟩
  · omega
  · refine ⟨by have : (txLens ss).length = ss.length := by simp [txLens]
               omega, fun s hs => ?_, by omega⟩
    have := e3 s.length (by unfold txLens; exact List.mem_map_of_mem hs)
    omega

theorem Tryz.infoStr : (Tryz.prog.info? 9).map (fun i => (i.zero, i.size, i.bytes)) = some (some (.string ⟨#[]⟩), 1, 16) := by kernel_rfl
theorem take_next {ss : List (List UInt8)} {k : Nat} {x : List UInt8} (hx : ss[k]? = some x) : (ss.take (k + 1)).map str = (ss.take k).map str ++ [str x] := by
  rw [List.take_add_one, hx]; simp

def eqT (xs ys : List (List UInt8)) : Bool := decide (xs = ys)
theorem eqT_same (xs : List (List UInt8)) : eqT xs xs = true := by simp [eqT]
theorem takeT_more {xs ys : List (List UInt8)} {k : Nat} {x : List UInt8} (h : xs.take k = ys.take k) (hx : xs[k]? = some x) (hy : ys[k]? = some x) : xs.take (k + 1) = ys.take (k + 1) := by
  rw [List.take_add_one, List.take_add_one, h, hx, hy]

set_option maxHeartbeats 1000000 in
theorem likeTexts_any (B : Nat) (va vb : Value) (xs ys : List (List UInt8)) (w : World) (ha : SeeV w B va (xs.map str)) (hb : SeeV w B vb (ys.map str)) :
    Calls Tryz.prog 12 #[va, vb] w fun e w' => e = .returned (.bool (eqT xs ys)) ∧ ∃ n, w' = w.drewN n := by
  obtain ⟨A, ca, rfl⟩ := tx_shape ha
  obtain ⟨A', cb, rfl⟩ := tx_shape hb
  have hm := tx_len ha
  have hm' := tx_len hb
  unfold maxLen at hm hm'
  by_cases hl : xs.length = ys.length
  · have hb1 : ((xs.length : Int) != (ys.length : Int)) = false := by simp [hl]
    have Hl := Lib.hid hl
    clear hl
    go_enter Tryz.func12, Tryz.ntmps12
    go_wp2
    clear hb1
    go_loopw [5] (fun i wr => ∃ k m : Nat, k ≤ xs.length ∧ i = .int .i64 k ∧ xs.take k = ys.take k ∧ wr = w.drewN m) (fun i _ => xs.length - (intOf i).toNat)
    case atStart => exact ⟨0, 0, Nat.zero_le _, rfl, rfl, rfl⟩
    case round =>
      obtain ⟨k, m, hk, rfl, ht, rfl⟩ := hrel
      have HT := Lib.hid ht
      clear ht
      by_cases hlt : k < xs.length
      · have hlt' : k < ys.length := by have := Hl.out; omega
        have hx := List.getElem?_eq_getElem hlt
        generalize xs[k] = x at hx
        have hy := List.getElem?_eq_getElem hlt'
        generalize ys[k] = y at hy
        obtain ⟨g, o, rfl, -, hcx⟩ := tx_at ha hx
        obtain ⟨g', o', rfl, -, hcy⟩ := tx_at hb hy
        have HX := Lib.hid hx
        have HY := Lib.hid hy
        clear hx hy ha hb
        by_cases hxy : x = y
        · subst hxy
          have hf : (!(x == x)) = false := by simp
          go_wp2_with fail
          go_quiet (fail)
          go_wp2
          go_roundw
          case rel => exact ⟨k + 1, _, by omega, by go_num, takeT_more HT.out HX.out HY.out, rfl⟩
          case measure => simp [intOf]; omega
        · have hf : (!(x == y)) = true := by simpa using hxy
          have HE : Hid (eqT xs ys = false) := Lib.hid (by
            unfold eqT
            rw [decide_eq_false_iff_not]
            intro h
            have h2 := HX.out
            rw [h, HY.out] at h2
            injection h2 with h2
            exact hxy h2.symm)
          clear hxy
          go_wp2_with fail
          go_quiet (fail)
          go_wp2
          go_ret
          exact ⟨ret_tru HE.out.symm, _, World.drewN_drewN _ _ _⟩
      · have HE : Hid (eqT xs ys = true) := Lib.hid (by
          have h := HT.out
          rw [List.take_of_length_le (by omega), List.take_of_length_le (by have := Hl.out; omega)] at h
          simp [eqT, h])
        go_wp2_with fail
        go_ret
        exact ⟨ret_tru HE.out.symm, _, rfl⟩
  · have hb1 : ((xs.length : Int) != (ys.length : Int)) = true := by simp; omega
    have HE : Hid (eqT xs ys = false) := Lib.hid (by
      unfold eqT
      rw [decide_eq_false_iff_not]
      rintro rfl
      exact hl rfl)
    clear hl
    go_enter Tryz.func12, Tryz.ntmps12
    go_wp2
    go_ret
    exact ⟨ret_tru HE.out.symm, 0, rfl⟩

end Go.Proofs.YtpembdiopmdhfaaGreatDoor
