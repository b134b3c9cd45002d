/- The model's l1Words: texts with another one between. -/
import Derived.Test.YtigcbegeaikfcaaDoorRows
import Derived.Test.YtigcbegeaikfcaaDoorLowA
namespace Go.Proofs.YtigcbegeaikfcaaDoor
open Go.RowKit
set_option linter.unusedVariables false

theorem join_first (ts : List (List UInt8)) (sep t : List UInt8) (h : ts[0]? = some t) : Lib.join (ts.take 1) sep = t := by
  rw [List.take_add_one, h]; exact Lib.join_one t sep
theorem join_succ (ts : List (List UInt8)) (sep t : List UInt8) (k : Nat) (hk : 0 < k) (h : ts[k]? = some t) : Lib.join (ts.take (k + 1)) sep = Lib.join (ts.take k) sep ++ sep ++ t := by
  match ts, k, hk, h with
  | x :: r, k + 1, _, h =>
    rw [List.take_succ_cons, List.take_succ_cons, Lib.join_cons, Lib.join_cons, Lib.joinTail_take_succ sep r k t (by simpa using h), List.append_assoc, List.append_assoc, List.append_assoc]
theorem join_take_le (ts : List (List UInt8)) (sep : List UInt8) (k : Nat) : (Lib.join (ts.take k) sep).length ≤ (Lib.join ts sep).length := by
  have step : ∀ k, (Lib.join (ts.take k) sep).length ≤ (Lib.join (ts.take (k + 1)) sep).length := fun k => by
    cases h : ts[k]? with
    | none => rw [List.take_add_one, h]; simp
    | some t =>
      rcases Nat.eq_zero_or_pos k with rfl | hk
      · simp [Lib.join]
      · rw [join_succ ts sep t k hk h]; simp
  have mono : ∀ d, (Lib.join (ts.take k) sep).length ≤ (Lib.join (ts.take (k + d)) sep).length := fun d => by
    induction d with
    | zero => exact Nat.le_refl _
    | succ d ih => exact Nat.le_trans ih (step (k + d))
  have := mono ts.length
  rwa [List.take_of_length_le (show ts.length ≤ k + ts.length from by omega)] at this

set_option maxHeartbeats 1000000 in
theorem l1Words_any (B : Nat) (v : Value) (ts : List (List UInt8)) (sep : List UInt8) (w : World) (hs : SeeV w B v (ts.map str)) (hl : (Lib.join ts sep).length ≤ 4611686018427387904) :
    Calls Tryd.prog 53 #[v, str sep] w fun e w' => e = .returned (str (Lib.join ts sep)) ∧ w = w' := by
  obtain ⟨A, c, rfl⟩ := hs.shape
  have hm := hs.1
  unfold maxLen at hm
  rw [List.length_map] at hm ⊢
  go_enter Tryd.func53, Tryd.ntmps53
  go_wp2_with fail
  go_loop [5, 6] (fun s i => ∃ k : Nat, k ≤ ts.length ∧ i = .int .i64 k ∧ s = str (Lib.join (ts.take k) sep)) (fun _ i => ts.length - (intOf i).toNat)
  case atStart => exact ⟨0, Nat.zero_le _, rfl, rfl⟩
  case round =>
    obtain ⟨k, hk, rfl, rfl⟩ := hrel
    by_cases hlt : k < ts.length
    · have ht := List.getElem?_eq_getElem hlt
      generalize ts[k] = t at ht
      obtain ⟨g, o, rfl, -, hc⟩ := hs.at_ (k := k) (x := str t) (by rw [List.getElem?_map, ht]; rfl)
      have q1 := join_take_le ts sep (k + 1)
      rcases Nat.eq_zero_or_pos k with rfl | hpos
      · have HF := Lib.hid (join_first ts sep t ht)
        clear ht
        rw [HF.out] at q1
        rw [Nat.add_zero] at hc
        rw [show Lib.join (ts.take 0) sep = [] from rfl]
        go_wp2_with fail
        go_round
        case rel => exact ⟨1, by omega, by go_num, by rw [HF.out]; exact congrArg Value.string (mk_append [] t)⟩
        case measure => simp [intOf]; omega
      · have HF := Lib.hid (join_succ ts sep t k hpos ht)
        clear ht
        rw [HF.out, List.length_append, List.length_append] at q1
        generalize Lib.join (ts.take k) sep = j at HF q1 ⊢
        go_wp2_with fail
        go_round
        case rel => exact ⟨k + 1, by omega, by go_num, by rw [HF.out, mk_append, mk_append]⟩
        case measure => simp [intOf]; omega
    · obtain rfl : k = ts.length := by omega
      rw [List.take_length]
      go_wp2_with fail
      go_ret
      exact ⟨rfl, rfl⟩

end Go.Proofs.YtigcbegeaikfcaaDoor
