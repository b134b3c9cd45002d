/- The laws' own marks in lists of texts: markText, markStringS, heldStringS. No conditions but those typed. -/
import Derived.Test.YtblnonlcjfcblaaGreatDoorTxtL
import Derived.Test.YtblnonlcjfcblaaGreatDoorIntT
import Derived.Maps.AppendAt
namespace Go.Proofs.YtblnonlcjfcblaaGreatDoor
open Go.RowKit
set_option linter.unusedVariables false

/-- A number's digits; none of 0. -/
def digT (k : Nat) : List UInt8 := if h : k = 0 then [] else digT (k / 10) ++ [UInt8.ofNat (48 + k % 10)]
termination_by k
theorem digT_0 : digT 0 = [] := by rw [digT]; simp
theorem digT_s {k : Nat} (h : ¬ k = 0) : digT k = digT (k / 10) ++ [UInt8.ofNat (48 + k % 10)] := by
  conv => lhs; rw [digT]
  rw [dif_neg h]
def mkT (k : Nat) : List UInt8 := 109 :: digT k
/-- Marks from s on. -/
def mkTs (s n : Nat) : List (List UInt8) := (List.range n).map fun j => mkT (s + j)
theorem mkTs_length (s n : Nat) : (mkTs s n).length = n := by simp [mkTs]
theorem mkTs_at {s n k : Nat} (h : k < n) : (mkTs s n)[k]? = some (mkT (s + k)) := by simp [mkTs, h]
theorem mkTs_succ (s k : Nat) : mkTs s (k + 1) = mkTs s k ++ [mkT (s + k)] := by simp [mkTs, List.range_succ]

set_option maxHeartbeats 2000000 in
set_option maxRecDepth 10000 in
theorem markText_any (k : Nat) (h1 : 1 ≤ k) (h2 : k ≤ 4194304) (w : World) : Calls Tryz.prog 58 #[.int .i64 k] w (StrB (mkT k) w) := by
  unfold mkT
  have hk0 : ¬ (k : Int) ≤ 0 := by omega
  go_enter Tryz.func58, Tryz.ntmps58
  go_wp2_with fail
  go_loopw [0, 3] (fun n s wr => ∃ (x : Nat) (t : List UInt8), n = .int .i64 x ∧ s = str t ∧ digT x ++ t = digT k ∧ t.length + x ≤ k ∧ Below w.heap.size w wr) (fun n _ _ => (intOf n).toNat)
  case atStart => exact ⟨k, [], rfl, rfl, List.append_nil _, by simp, Below.refl _ _⟩
  case round =>
    obtain ⟨x, t, rfl, rfl, hr, hl, hb⟩ := hrel
    clear hk0
    by_cases hx : x = 0
    · subst hx
      rw [digT_0, List.nil_append] at hr
      have HR := Lib.hid hr
      have hap : (⟨#[109]⟩ : ByteArray) ++ ⟨t.toArray⟩ = ⟨(109 :: t).toArray⟩ := mk_append [109] t
      clear hr
      go_wp2_with fail
      go_ret
      exact ⟨by rw [← HR.out]; rfl, hb⟩
    · have HS : Hid (digT (x / 10) ++ UInt8.ofNat (48 + x % 10) :: t = digT k) := Lib.hid (by rw [← hr, digT_s hx, List.append_assoc]; rfl)
      have hcv := conv_digit wr _ _ (dig_num x)
      generalize UInt8.ofNat (48 + x % 10) = b at HS hcv
      have HB : Hid (Below w.heap.size w (wr.alloc (.cells #[.int .u8 (48 + (x : Int) % 10)] 5))) := Lib.hid (hb.alloc hb.size _)
      have hap : (⟨#[b]⟩ : ByteArray) ++ ⟨t.toArray⟩ = ⟨(b :: t).toArray⟩ := mk_append [b] t
      have h0 : 0 ≤ (x : Int) % 10 := by omega
      have h9 : (x : Int) % 10 ≤ 9 := by omega
      have hxp : 0 < x := by omega
      clear hr hb hx
      go_wp2_with fail
      go_roundw
      case rel => exact ⟨x / 10, b :: t, by go_num, rfl, HS.out, by simp; omega, HB.out⟩
      case measure => simp [intOf]; omega

set_option maxHeartbeats 2000000 in
theorem markStrs_any (B : Nat) (v : Value) (xs : List (List UInt8)) (s : Nat) (w : World) (h : OwnV w B 9 v (xs.map str)) (h1 : 1 ≤ s) (hs : s + xs.length ≤ 4194304) :
    Calls Tryz.prog 20 #[v, .int .i64 s] w fun r w' => r = .returned (.int .i64 ((s + xs.length : Nat) : Int)) ∧ OwnV w' B 9 v ((mkTs s xs.length).map str) ∧ w.grownBy w' v.ownBlock := by
  obtain ⟨hl, h⟩ := h
  rw [List.length_map] at h
  rcases h with ⟨rfl, hn⟩ | ⟨g, cap, cur, rfl, hB, hg, hnc, hcm, hcs, ht⟩
  · obtain rfl : xs = [] := List.eq_nil_of_length_eq_zero hn
    go_enter Tryz.func20, Tryz.ntmps20
    go_wp2
    go_loop [1, 5] (fun i j => i = .int .i64 s ∧ j = .int .i64 0) (fun _ _ => 0)
    case atStart => exact ⟨rfl, rfl⟩
    case round =>
      obtain ⟨rfl, rfl⟩ := hrel
      go_wp2
      go_ret
      exact ⟨rfl, OwnV.nil _ _ _, World.grownBy.refl _ _⟩
  · generalize hzn : xs.length = n at *
    have Hc := Lib.hid hcs
    have hcn : n ≤ cur.size := by omega
    unfold maxLen at hcm
    clear hl ht hcs hzn
    have Hg := Lib.hid hg
    clear hg
    go_enter Tryz.func20, Tryz.ntmps20
    go_wp2_with fail
    go_loopw [1, 5] (fun m i wr => ∃ (k : Nat) (cur' : Array Value), k ≤ n ∧ i = .int .i64 k ∧ m = .int .i64 ((s + k : Nat) : Int) ∧ wr.heap[g]? = some (.cells cur' 9 (0, 0)) ∧ cur'.size = cur.size ∧
      cur'.toList.take k = (mkTs s k).map str ∧ w.grownBy wr (some g)) (fun _ i _ => n - (intOf i).toNat)
    case atStart => exact ⟨0, cur, Nat.zero_le _, rfl, rfl, Hg.out, rfl, by simp [mkTs], World.grownBy.refl _ _⟩
    case round =>
      obtain ⟨k, cur', hk, rfl, rfl, hh, hsz, htk, hgr⟩ := hrel
      have HH := Lib.hid hh
      have HZ := Lib.hid hsz
      have HT := Lib.hid htk
      clear hh hsz htk
      by_cases hlt : k < n
      · have hk' : k < cur'.size := by have := HZ.out; omega
        go_wp2_with fail
        refine (markText_any (s + k) (by omega) (by omega) _).mono ?_
        rintro e w2 ⟨rfl, b2⟩
        generalize htx : mkT (s + k) = tx
        have HTX := Lib.hid htx
        clear htx
        have HH2 : Hid (w2.heap[g]? = some (.cells cur' 9 (0, 0))) := Lib.hid ((b2.block g (Array.getElem?_eq_some_iff.1 HH.out).1).trans HH.out)
        have hcell : w2.cell? ⟨g, k, none⟩ = some cur'[k] := by rw [cell_of_row w2 g k cur' _ (0, 0) HH2.out]; exact Array.getElem?_eq_getElem hk'
        have hfz : w2.frozen? ⟨g, k, none⟩ = false := frozen_row HH2.out
        have hg2 : w.grownBy w2 (some g) := ⟨b2.os.trans hgr.os, b2.tape.trans hgr.tape, b2.output.trans hgr.output, Nat.le_trans hgr.size b2.size, fun j hj hne => (b2.block j (Nat.lt_of_lt_of_le hj hgr.size)).trans (hgr.block j hj hne)⟩
        go_wp2
        go_roundw
        case rel => exact ⟨k + 1, _, by omega, by go_num, by go_num, heap_set HH2.out _, by rw [Array.size_setIfInBounds]; exact HZ.out, by rw [mkTs_succ, List.map_append, HTX.out]; exact take_set HT.out hk', grown_set hg2 _⟩
        case measure => simp [intOf]; omega
      · obtain rfl : n = k := by omega
        obtain ⟨z, HZZ⟩ : ∃ z : Int, Hid (((s + n : Nat) : Int) = z) := ⟨_, Lib.hid rfl⟩
        go_wp2
        go_ret
        refine ⟨by go_num, ⟨by simp [mkTs], .inr ⟨g, cap, cur', by rw [List.length_map, mkTs_length], hB, HH.out, by rw [List.length_map, mkTs_length]; exact hnc, by unfold maxLen; exact hcm, by rw [HZ.out]; exact Hc.out, ?_⟩⟩, hgr⟩
        rw [List.length_map, mkTs_length, Nat.mul_one]
        exact HT.out

set_option maxHeartbeats 2000000 in
theorem heldStrs_any (B : Nat) (v : Value) (n s : Nat) (w : World) (h : SeeV w B v ((mkTs s n).map str)) (hB : B ≤ w.heap.size) (h1 : 1 ≤ s) (hs : s + n ≤ 4194304) :
    Calls Tryz.prog 21 #[v, .int .i64 s] w fun r w' => r = .returned (.int .i64 ((s + n : Nat) : Int)) ∧ Below w.heap.size w w' := by
  obtain ⟨A, c, e⟩ := tx_shape h
  rw [mkTs_length] at e
  subst e
  go_enter Tryz.func21, Tryz.ntmps21
  go_wp2_with fail
  go_loopw [1, 5] (fun m i wr => ∃ k : Nat, k ≤ n ∧ i = .int .i64 k ∧ m = .int .i64 ((s + k : Nat) : Int) ∧ Below w.heap.size w wr) (fun _ i _ => n - (intOf i).toNat)
  case atStart => exact ⟨0, Nat.zero_le _, rfl, rfl, Below.refl _ _⟩
  case round =>
    obtain ⟨k, hk, rfl, rfl, hbw⟩ := hrel
    by_cases hlt : k < n
    · obtain ⟨g, o, rfl, -, hcx⟩ := tx_at (h.below (hbw.mono hB)) (mkTs_at hlt)
      have T1 := Lib.hid (fun W => markText_any (s + k) (by omega) (by omega) W)
      generalize mkT (s + k) = tx at T1 hcx
      have hcl := later_cell hcx
      have hf : (!(tx == tx)) = false := by simp
      clear hcx
      go_wp2_with fail
      refine region_later (by kernel_rfl) (by kernel_rfl) ?_
      repeat (go_big_quiet_step (first | (go_at_call 58; exact later_call (T1.out _))))
      refine wpQuiet_nil ?_
      rintro w2 ⟨⟨_, hbk⟩, rfl⟩
      go_wp2_with fail
      go_roundw
      case rel => exact ⟨k + 1, by omega, by go_num, by go_num, below_then hbw hbk (Nat.le_refl _)⟩
      case measure => simp [intOf]; omega
    · obtain rfl : n = k := by omega
      go_wp2_with fail
      go_ret
      exact ⟨by go_num, hbw⟩

end Go.Proofs.YtblnonlcjfcblaaGreatDoor
