/- Layer 6 (sums): boxes: ValueIn and BoxesOk, of the program and of the model, by the same functions. No conditions but those typed. -/
import Derived.Test.YtblnonlcjfcblaaGreatDoorRowN
import Derived.Test.YtblnonlcjfcblaaGreatDoorWordN
import Derived.Laws.Cover1
namespace Go.Proofs.YtblnonlcjfcblaaGreatDoor
open Go.RowKit
set_option linter.unusedVariables false

/-- A box: its name and its value. -/
abbrev Bx := List UInt8 × Int
abbrev boxV (b : Bx) : List Value := [str b.1, .int .i64 b.2]
def SeeBx (w : World) (B : Nat) (v : Value) (bs : List Bx) : Prop := SeeN 2 w B v (bs.map boxV)
def OwnBx (w : World) (B : Nat) (e : TypeId) (v : Value) (bs : List Bx) : Prop := OwnN 2 w B e v (bs.map boxV)
theorem SeeBx.below {w w' : World} {B : Nat} {v : Value} {bs : List Bx} (h : SeeBx w B v bs) (hb : Below B w w') : SeeBx w' B v bs := SeeN.below h hb
theorem SeeBx.alloc {w : World} {B : Nat} {v : Value} {bs : List Bx} (h : SeeBx w B v bs) (hB : B ≤ w.heap.size) (o : Obj) : SeeBx (w.alloc o) B v bs := SeeN.alloc h hB o
theorem SeeBx.more {w : World} {B B' : Nat} {v : Value} {bs : List Bx} (h : SeeBx w B v bs) (hB : B ≤ B') : SeeBx w B' v bs := SeeN.more h hB
theorem SeeBx.shape {w : World} {B : Nat} {v : Value} {bs : List Bx} (h : SeeBx w B v bs) : ∃ A c, v = .slice A bs.length c := by
  obtain ⟨A, c, e⟩ := SeeN.shape h; exact ⟨A, c, by rw [e, List.length_map]⟩
theorem SeeBx.len {w : World} {B : Nat} {v : Value} {bs : List Bx} (h : SeeBx w B v bs) : bs.length ≤ maxLen := by have := h.1; rwa [List.length_map] at this
theorem SeeBx.at_ {w : World} {B : Nat} {A : Option Addr} {m c : Nat} {bs : List Bx} {k : Nat} {b : Bx} (h : SeeBx w B (.slice A m c) bs) (hx : bs[k]? = some b) :
    ∃ g o, A = some ⟨g, o, none⟩ ∧ g < B ∧ w.cell? ⟨g, o + k * 2, none⟩ = some (str b.1) ∧ w.cell? ⟨g, o + k * 2 + 1, none⟩ = some (.int .i64 b.2) := by
  obtain ⟨g, o, h1, h2, h3⟩ := SeeN.at_ h (k := k) (x := boxV b) (by rw [List.getElem?_map, hx]; rfl)
  exact ⟨g, o, h1, h2, h3 0 _ rfl, h3 1 _ rfl⟩
theorem OwnBx.see {w : World} {B : Nat} {e : TypeId} {v : Value} {bs : List Bx} (h : OwnBx w B e v bs) : SeeBx w w.heap.size v bs := OwnN.see h
theorem OwnBx.later {w w' : World} {B : Nat} {e : TypeId} {v : Value} {bs : List Bx} (h : OwnBx w B e v bs) (hb : Below w.heap.size w w') : OwnBx w' B e v bs := OwnN.later h hb

/-- The value of the first box of that name; 0 when there is none. -/
def valueS : List Bx → List UInt8 → Int
  | [], _ => 0
  | b :: r, s => if b.1 = s then b.2 else valueS r s
theorem value_yes {bs : List Bx} {k : Nat} {b : Bx} {s : List UInt8} (hv : valueS (bs.drop k) s = valueS bs s) (hb : bs[k]? = some b) (h : b.1 = s) : valueS bs s = b.2 := by
  obtain ⟨hk, hg⟩ := List.getElem?_eq_some_iff.1 hb
  rw [← hv, List.drop_eq_getElem_cons hk, hg, valueS, if_pos h]
theorem value_no {bs : List Bx} {k : Nat} {b : Bx} {s : List UInt8} (hv : valueS (bs.drop k) s = valueS bs s) (hb : bs[k]? = some b) (h : ¬ b.1 = s) : valueS (bs.drop (k + 1)) s = valueS bs s := by
  obtain ⟨hk, hg⟩ := List.getElem?_eq_some_iff.1 hb
  rw [← hv, List.drop_eq_getElem_cons hk, hg, valueS, if_neg h]
theorem value_end {bs : List Bx} {s : List UInt8} (hv : valueS (bs.drop bs.length) s = valueS bs s) : valueS bs s = 0 := by
  rw [← hv, List.drop_of_length_le (Nat.le_refl _)]; rfl

set_option maxHeartbeats 1000000 in
theorem sValueIn_any (B : Nat) (v : Value) (bs : List Bx) (s : List UInt8) (w : World) (h : SeeBx w B v bs) :
    Calls Tryz.prog 111 #[v, str s] w fun e w' => e = .returned (.int .i64 (valueS bs s)) ∧ w = w' := by
  have hm := h.len
  unfold maxLen at hm
  obtain ⟨A, c, rfl⟩ := h.shape
  go_enter Tryz.func111, Tryz.ntmps111
  go_wp2_with fail
  go_loop [5] (fun i => ∃ k : Nat, k ≤ bs.length ∧ i = .int .i64 k ∧ valueS (bs.drop k) s = valueS bs s) (fun i => bs.length - (intOf i).toNat)
  case atStart => exact ⟨0, Nat.zero_le _, rfl, rfl⟩
  case round =>
    obtain ⟨k, hk, rfl, hv⟩ := hrel
    have HV := Lib.hid hv
    clear hv
    by_cases hlt : k < bs.length
    · have hb := List.getElem?_eq_getElem hlt
      generalize bs[k] = b at hb
      obtain ⟨g, o, rfl, -, hn, hx⟩ := h.at_ hb
      obtain ⟨n, x⟩ := b
      dsimp only at hn hx
      by_cases hs : n = s
      · subst hs
        have HE := Lib.hid (value_yes HV.out hb rfl)
        clear hb h
        go_wp2_with fail
        go_ret
        exact ⟨ret_int HE.out.symm, rfl⟩
      · have HE := Lib.hid (value_no HV.out hb hs)
        have hf : (n == s) = false := by simpa using hs
        clear hb h hs
        go_wp2_with fail
        go_round
        case rel => exact ⟨k + 1, by omega, by go_num, HE.out⟩
        case measure => simp [intOf]; omega
    · obtain rfl : k = bs.length := by omega
      have HE := Lib.hid (value_end HV.out)
      go_wp2_with fail
      go_ret
      exact ⟨ret_int HE.out.symm, rfl⟩

set_option maxHeartbeats 1000000 in
theorem iValueIn_any (B : Nat) (v : Value) (bs : List Bx) (s : List UInt8) (w : World) (h : SeeBx w B v bs) (hB : B ≤ w.heap.size) :
    Calls Tryz.prog 108 #[v, str s] w fun e w' => e = .returned (.int .i64 (valueS bs s)) ∧ Below w.heap.size w w' := by
  have hm := h.len
  unfold maxLen at hm
  obtain ⟨A, c, rfl⟩ := h.shape
  go_enter Tryz.func108, Tryz.ntmps108
  go_wp2_with fail
  go_loopw [6, 9] (fun _ i wr => ∃ k : Nat, k ≤ bs.length ∧ i = .int .i64 k ∧ valueS (bs.drop k) s = valueS bs s ∧ Below w.heap.size w wr) (fun _ i _ => bs.length - (intOf i).toNat)
  case atStart => exact ⟨0, Nat.zero_le _, rfl, rfl, Below.refl _ _⟩
  case round =>
    obtain ⟨k, hk, rfl, hv, hbw⟩ := hrel
    have HV := Lib.hid hv
    clear hv
    by_cases hlt : k < bs.length
    · have hb := List.getElem?_eq_getElem hlt
      generalize bs[k] = b at hb
      obtain ⟨g, o, rfl, -, hn, hx⟩ := (h.below (hbw.mono hB)).at_ hb
      obtain ⟨n, x⟩ := b
      dsimp only at hn hx
      have hb2 := hbw.alloc (hbw.size) (.cells #[str n, .int .i64 x] 86)
      by_cases hs : n = s
      · subst hs
        have HE := Lib.hid (value_yes HV.out hb rfl)
        clear hb h
        go_wp2_with fail
        go_ret
        exact ⟨ret_int HE.out.symm, hb2⟩
      · have HE := Lib.hid (value_no HV.out hb hs)
        have hf : (n == s) = false := by simpa using hs
        clear hb h hs
        go_wp2_with fail
        go_roundw
        case rel => exact ⟨k + 1, by omega, by go_num, HE.out, hb2⟩
        case measure => simp [intOf]; omega
    · obtain rfl : k = bs.length := by omega
      have HE := Lib.hid (value_end HV.out)
      go_wp2_with fail
      go_ret
      exact ⟨ret_int HE.out.symm, hbw⟩

end Go.Proofs.YtblnonlcjfcblaaGreatDoor
