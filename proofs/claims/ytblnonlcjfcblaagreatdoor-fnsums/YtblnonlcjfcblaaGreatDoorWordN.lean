/- Layer 5 (words): NameOk, of the program and of the model, and the law's walk. No conditions but those typed. -/
import Derived.Test.YtblnonlcjfcblaaGreatDoorWordA
import Derived.Test.YtblnonlcjfcblaaGreatDoorRowV
namespace Go.Proofs.YtblnonlcjfcblaaGreatDoor
open Go.RowKit
set_option linter.unusedVariables false

def lowB (b : UInt8) : Bool := decide (97 ≤ (b.toNat : Int) ∧ (b.toNat : Int) ≤ 122)
/-- 1 to 6 bytes of a to z. -/
def nameB (l : List UInt8) : Bool := l.all lowB && inB l.length 1 6
theorem lowB_yes {b : UInt8} (h : lowB b = true) : 97 ≤ (b.toNat : Int) ∧ (b.toNat : Int) ≤ 122 := by simpa [lowB] using h
theorem lowB_no {b : UInt8} (h : lowB b = false) : (b.toNat : Int) < 97 ∨ 122 < (b.toNat : Int) := by
  have : ¬ (97 ≤ (b.toNat : Int) ∧ (b.toNat : Int) ≤ 122) := by simpa [lowB] using h
  omega
theorem low_step {l : List UInt8} {k : Nat} {b : UInt8} (h : (l.take k).all lowB = true) (hb : l[k]? = some b) (hp : lowB b = true) : (l.take (k + 1)).all lowB = true := by
  rw [List.take_add_one, hb, List.all_append, h]; simp [hp]
theorem low_out {l : List UInt8} {k : Nat} {b : UInt8} (hb : l[k]? = some b) (hp : lowB b = false) : l.all lowB = false := by
  rw [List.all_eq_false]; exact ⟨b, List.mem_of_getElem? hb, by simp [hp]⟩
theorem ret_bool {a b : Bool} (h : a = b) : Ending.returned (.bool a) = .returned (.bool b) := by rw [h]
def BoolIs (b : Bool) (w : World) (e : Ending) (w' : World) : Prop := e = .returned (.bool b) ∧ w = w'

set_option maxHeartbeats 1000000 in
theorem sNameOk_any (l : List UInt8) (hl : l.length ≤ 1048576) (w : World) : Calls Tryz.prog 76 #[str l] w (BoolIs (nameB l) w) := by
  go_enter Tryz.func76, Tryz.ntmps76
  go_wp2_with fail
  go_loop [3] (fun i => ∃ k : Nat, k ≤ l.length ∧ i = .int .i64 k ∧ (l.take k).all lowB = true) (fun i => l.length - (intOf i).toNat)
  case atStart => exact ⟨0, Nat.zero_le _, rfl, rfl⟩
  case round =>
    obtain ⟨k, hk, rfl, hall⟩ := hrel
    have HA := Lib.hid hall
    clear hall
    by_cases hlt : k < l.length
    · have hb := List.getElem?_eq_getElem hlt
      generalize l[k] = b at hb
      have hix := idx_str (P := Tryz.prog) 9 l k b Tryz.underlying9 hb
      unfold byte at hix
      cases hp : lowB b
      · have HN : Hid (nameB l = false) := Lib.hid (by rw [nameB, low_out hb hp]; rfl)
        rw [HN.out]
        rcases lowB_no hp with h | h
        all_goals
          clear hp hb
          generalize (b.toNat : Int) = z at hix h
          go_wp2_with fail
          go_ret
          exact ⟨rfl, rfl⟩
      · have HS := Lib.hid (low_step HA.out hb hp)
        obtain ⟨h0, h1⟩ := lowB_yes hp
        clear hp hb
        generalize (b.toNat : Int) = z at hix h0 h1
        go_wp2_with fail
        go_round
        case rel => exact ⟨k + 1, by omega, by go_num, HS.out⟩
        case measure => simp [intOf]; omega
    · obtain rfl : k = l.length := by omega
      have HN : Hid (nameB l = inB l.length 1 6) := Lib.hid (by
        have := HA.out
        rw [List.take_length] at this
        rw [nameB, this]; rfl)
      clear HA
      go_wp2_with fail
      refine (in_any _ _ _ _).mono ?_
      rintro e w' ⟨rfl, rfl⟩
      go_wp2_with fail
      go_ret
      exact ⟨ret_bool HN.out.symm, rfl⟩

set_option maxHeartbeats 1000000 in
theorem iNameOk_any (l : List UInt8) (hl : l.length ≤ 1048576) (w : World) : Calls Tryz.prog 77 #[str l] w (BoolIs (nameB l) w) := by
  by_cases h1 : l.length < 1
  · have HN : Hid (nameB l = false) := Lib.hid (by rw [nameB, inB_no (by omega), Bool.and_false])
    rw [HN.out]
    have h1' : decide ((l.length : Int) < 1) = true := by simp; omega
    go_enter Tryz.func77, Tryz.ntmps77
    go_wp2_with fail
    go_ret
    exact ⟨rfl, rfl⟩
  by_cases h6 : 6 < l.length
  · have HN : Hid (nameB l = false) := Lib.hid (by rw [nameB, inB_no (by omega), Bool.and_false])
    rw [HN.out]
    go_enter Tryz.func77, Tryz.ntmps77
    go_wp2_with fail
    go_ret
    exact ⟨rfl, rfl⟩
  have HI : Hid (nameB l = l.all lowB) := Lib.hid (by rw [nameB, inB_yes (by omega), Bool.and_true])
  have g1 : 1 ≤ l.length := by omega
  have g6 : l.length ≤ 6 := by omega
  clear h1 h6
  rw [HI.out]
  go_enter Tryz.func77, Tryz.ntmps77
  go_wp2_with fail
  go_loop [3, 14] (fun _ i => ∃ k : Nat, k ≤ l.length ∧ i = .int .i64 k ∧ (l.take k).all lowB = true) (fun _ i => l.length - (intOf i).toNat)
  case atStart => exact ⟨0, Nat.zero_le _, rfl, rfl⟩
  case round =>
    obtain ⟨k, hk, rfl, hall⟩ := hrel
    have HA := Lib.hid hall
    clear hall
    by_cases hlt : k < l.length
    · have hb := List.getElem?_eq_getElem hlt
      generalize l[k] = b at hb
      have hix := idx_str (P := Tryz.prog) 9 l k b Tryz.underlying9 hb
      unfold byte at hix
      cases hp : lowB b
      · have HN : Hid (l.all lowB = false) := Lib.hid (low_out hb hp)
        rw [HN.out]
        rcases lowB_no hp with h | h
        all_goals
          clear hp hb
          generalize (b.toNat : Int) = z at hix h
          go_wp2_with fail
          go_ret
          exact ⟨rfl, rfl⟩
      · have HS := Lib.hid (low_step HA.out hb hp)
        obtain ⟨h0, h1⟩ := lowB_yes hp
        clear hp hb
        generalize (b.toNat : Int) = z at hix h0 h1
        go_wp2_with fail
        go_round
        case rel => exact ⟨k + 1, by omega, by go_num, HS.out⟩
        case measure => simp [intOf]; omega
    · obtain rfl : k = l.length := by omega
      have HN : Hid (l.all lowB = true) := Lib.hid (by
        have := HA.out
        rwa [List.take_length] at this)
      clear HA
      go_wp2_with fail
      go_ret
      exact ⟨ret_bool HN.out.symm, rfl⟩

end Go.Proofs.YtblnonlcjfcblaaGreatDoor
