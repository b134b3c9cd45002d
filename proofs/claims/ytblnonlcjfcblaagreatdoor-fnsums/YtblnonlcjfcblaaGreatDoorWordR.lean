/- Layer 5 (words): the model's ReadWord. No conditions but those typed. -/
import Derived.Test.YtblnonlcjfcblaaGreatDoorWordM
import Derived.Test.YtblnonlcjfcblaaGreatDoorRowV
namespace Go.Proofs.YtblnonlcjfcblaaGreatDoor
open Go.RowKit
set_option linter.unusedVariables false

def RdOut (r : Option Int) (w : World) (e : Ending) (w' : World) : Prop := e = .returned (.tuple #[.int .i64 (r.getD 0), .bool r.isSome]) ∧ w = w'
theorem rd_ret {x y : Int} {b c : Bool} (h : x = y) (hb : b = c) : Ending.returned (.tuple #[.int .i64 x, .bool b]) = .returned (.tuple #[.int .i64 y, .bool c]) := by rw [h, hb]
theorem rd_none {r : Option Int} (h : r = none) : Ending.returned (.tuple #[.int .i64 0, .bool false]) = .returned (.tuple #[.int .i64 (r.getD 0), .bool r.isSome]) := by rw [h]; rfl
theorem rd_some {r : Option Int} {x : Int} (h : r = some x) : Ending.returned (.tuple #[.int .i64 x, .bool true]) = .returned (.tuple #[.int .i64 (r.getD 0), .bool r.isSome]) := by rw [h]; rfl
theorem digB_yes {b : UInt8} (h : digB b = true) : 48 ≤ (b.toNat : Int) ∧ (b.toNat : Int) ≤ 57 := by have := digB_iff.1 h; omega
theorem digB_no {b : UInt8} (h : digB b = false) : (b.toNat : Int) < 48 ∨ 57 < (b.toNat : Int) := by
  have : ¬ (48 ≤ b.toNat ∧ b.toNat ≤ 57) := by simpa [digB] using h
  omega
theorem dig_step {l : List UInt8} {k : Nat} {b : UInt8} (h : (l.take k).all digB = true) (hb : l[k]? = some b) (hp : digB b = true) : (l.take (k + 1)).all digB = true := by
  rw [List.take_add_one, hb, List.all_append, h]; simp [hp]
theorem rdD_dig {neg : Bool} {l : List UInt8} {k : Nat} {b : UInt8} (hb : l[k]? = some b) (hp : digB b = false) : rdD neg l = none := by
  unfold rdD
  rw [if_neg]
  rintro ⟨_, _, h, _⟩
  have := List.all_eq_true.1 h b (List.mem_of_getElem? hb)
  rw [hp] at this
  cases this
theorem rdD_long {neg : Bool} {l : List UInt8} (h : l.length < 1 ∨ 10 < l.length) : rdD neg l = none := by
  unfold rdD
  rw [if_neg]
  rintro ⟨_, _, _⟩
  omega
theorem rdD_nought {neg : Bool} {l : List UInt8} (h0 : l.head? = some 48) (h1 : neg = true ∨ 1 < l.length) : rdD neg l = none := by
  unfold rdD
  rw [if_neg]
  rintro ⟨_, _, _, h, _⟩
  exact h ⟨h0, h1⟩
theorem rdD_end {neg : Bool} {l : List UInt8} (h1 : 1 ≤ l.length) (h2 : l.length ≤ 10) (h3 : l.all digB = true) (h4 : ¬ (l.head? = some 48 ∧ (neg = true ∨ 1 < l.length))) :
    rdD neg l = if wordB (sgn neg (valN l)) = true then some (sgn neg (valN l)) else none := by
  unfold rdD
  by_cases h : wordB (sgn neg (valN l)) = true
  · rw [if_pos ⟨h1, h2, h3, h4, h⟩, if_pos h]
  · rw [if_neg (fun q => h q.2.2.2.2), if_neg h]
theorem valZ_take {l : List UInt8} {k : Nat} {b : UInt8} (hb : l[k]? = some b) (hd : digB b = true) : ((valN (l.take (k + 1)) : Nat) : Int) = (valN (l.take k) : Int) * 10 + ((b.toNat : Int) - 48) := by
  rw [valN_take hb]
  have := digB_iff.1 hd
  omega

set_option maxHeartbeats 1000000 in
theorem sRead_nil (w : World) : Calls Tryz.prog 74 #[str []] w (RdOut none w) := by
  go_enter Tryz.func74, Tryz.ntmps74
  go_wp2_with fail
  go_ret2
  exact ⟨rfl, rfl⟩

theorem val_bound {l : List UInt8} {k : Nat} (h : (l.take k).all digB = true) (hl : l.length ≤ 10) : 0 ≤ ((valN (l.take k) : Nat) : Int) ∧ ((valN (l.take k) : Nat) : Int) ≤ 9999999999 := by
  have := valN_lt h (by rw [List.length_take]; omega)
  omega

set_option maxHeartbeats 2000000 in
theorem sRead_neg (l r : List UInt8) (hl : l.length ≤ 1048576) (he : l = 45 :: r) (w : World) : Calls Tryz.prog 74 #[str l] w (RdOut (rdD true r) w) := by
  have hb0 : l[0]? = some 45 := by rw [he]; rfl
  have hix0 := idx_str (P := Tryz.prog) 9 l 0 45 Tryz.underlying9 hb0
  have HAT : Hid (∀ (j : Nat) (b : UInt8), r[j]? = some b → l[j + 1]? = some b) := Lib.hid (fun j b hb => by rw [he]; simpa using hb)
  have HL : Hid (l.length = r.length + 1) := Lib.hid (by rw [he]; rfl)
  have hne : (!l.isEmpty) = true := by rw [he]; rfl
  clear he hb0
  rw [show (((0 : Nat) : Int)) = 0 from rfl] at hix0
  unfold byte at hix0
  rw [show (((45 : UInt8).toNat : Int)) = 45 from rfl] at hix0
  by_cases h2 : l.length < 2
  · have HR := Lib.hid (rdD_long (neg := true) (l := r) (by have := HL.out; omega))
    rw [HR.out]
    have h2' : (l.length : Int) - 1 < 1 := by omega
    go_enter Tryz.func74, Tryz.ntmps74
    go_wp2_with fail
    go_ret2
    exact ⟨rfl, rfl⟩
  by_cases h11 : 11 < l.length
  · have HR := Lib.hid (rdD_long (neg := true) (l := r) (by have := HL.out; omega))
    rw [HR.out]
    have h2' : 1 ≤ (l.length : Int) - 1 := by omega
    have h3' : 10 < (l.length : Int) - 1 := by omega
    go_enter Tryz.func74, Tryz.ntmps74
    go_wp2_with fail
    go_ret2
    exact ⟨rfl, rfl⟩
  have h2' : 1 ≤ (l.length : Int) - 1 := by omega
  have h3' : (l.length : Int) - 1 ≤ 10 := by omega
  go_enter Tryz.func74, Tryz.ntmps74
  go_wp2_with fail
  go_loop [6, 7] (fun n i => ∃ k : Nat, 1 ≤ k ∧ k ≤ l.length ∧ i = .int .i64 k ∧ n = .int .i64 (valN (r.take (k - 1)) : Int) ∧ (r.take (k - 1)).all digB = true) (fun _ i => l.length - (intOf i).toNat)
  case atStart => exact ⟨1, by omega, by omega, rfl, rfl, rfl⟩
  case round =>
    obtain ⟨k, hk1, hk, rfl, rfl, hall⟩ := hrel
    have HA := Lib.hid hall
    obtain ⟨v0, v1⟩ := val_bound hall (by have := HL.out; omega)
    clear hall
    by_cases hlt : k < l.length
    · have hb := List.getElem?_eq_getElem (show k - 1 < r.length by have := HL.out; omega)
      generalize r[k - 1]'(_) = b at hb
      have hix := idx_str (P := Tryz.prog) 9 l k b Tryz.underlying9 (by have := HAT.out _ b hb; rwa [show k - 1 + 1 = k by omega] at this)
      unfold byte at hix
      cases hp : digB b
      · have HN := Lib.hid (rdD_dig (neg := true) hb hp)
        rw [HN.out]
        rcases digB_no hp with h | h
        all_goals
          clear hp hb
          generalize (b.toNat : Int) = z at hix h
          go_wp2_with fail
          go_ret2
          exact ⟨rfl, rfl⟩
      · have HS := Lib.hid (dig_step HA.out hb hp)
        have HV := Lib.hid (valZ_take hb hp)
        rw [show k - 1 + 1 = k + 1 - 1 by omega] at HS HV
        obtain ⟨h0, h1⟩ := digB_yes hp
        clear hp hb
        generalize (b.toNat : Int) = z at hix h0 h1 HV
        generalize ((valN (r.take (k - 1)) : Nat) : Int) = n at v0 v1 HV ⊢
        go_wp2_with fail
        go_round
        case rel => exact ⟨k + 1, by omega, by omega, by go_num, by rw [HV.out], HS.out⟩
        case measure => simp [intOf]; omega
    · have hjl : r.take (k - 1) = r := List.take_of_length_le (by have := HL.out; omega)
      rw [hjl] at HA v0 v1 ⊢
      clear hjl
      have hb := List.getElem?_eq_getElem (show 0 < r.length by have := HL.out; omega)
      generalize r[0]'(_) = c at hb
      have hix := idx_str (P := Tryz.prog) 9 l 1 c Tryz.underlying9 (HAT.out 0 c hb)
      rw [show (((1 : Nat) : Int)) = 1 from rfl] at hix
      have hh : r.head? = some c := by rw [List.head?_eq_getElem?]; exact hb
      by_cases hc : c = 48
      · subst hc
        have HN := Lib.hid (rdD_nought (neg := true) hh (.inl rfl))
        clear hh hb
        unfold byte at hix
        rw [show (((48 : UInt8).toNat : Int)) = 48 from rfl] at hix
        go_wp2_with fail
        go_ret2
        exact ⟨rd_none HN.out, rfl⟩
      · have HE := Lib.hid (rdD_end (neg := true) (l := r) (by have := HL.out; omega) (by have := HL.out; omega) HA.out (fun q => hc (by have := q.1; rw [hh] at this; simpa using this)))
        have e1 : ((c.toNat : Int) == 48) = false := u8_ne hc rfl
        clear hh hb hc
        unfold byte at hix
        generalize (c.toNat : Int) = z at hix e1
        have HG : Hid (sgn true (valN r) = -((valN r : Nat) : Int)) := Lib.hid rfl
        generalize sgn true (valN r) = g at HG HE
        generalize ((valN r : Nat) : Int) = n at v0 v1 HG ⊢
        cases hw : wordB g
        · rw [hw] at HE
          have HN : Hid (rdD true r = none) := Lib.hid (by rw [HE.out]; rfl)
          have HW : Hid (wordB (-n) = false) := Lib.hid (by rw [← HG.out]; exact hw)
          clear hw HE
          go_wp2_with fail
          refine (l5Word_any _ _).mono ?_
          rintro e w' ⟨rfl, rfl⟩
          rw [HW.out]
          go_wp2_with fail
          go_ret2
          exact ⟨rd_none HN.out, rfl⟩
        · rw [hw] at HE
          have HN : Hid (rdD true r = some (-n)) := Lib.hid (by rw [HE.out, ← HG.out]; rfl)
          have HW : Hid (wordB (-n) = true) := Lib.hid (by rw [← HG.out]; exact hw)
          clear hw HE
          go_wp2_with fail
          refine (l5Word_any _ _).mono ?_
          rintro e w' ⟨rfl, rfl⟩
          rw [HW.out]
          go_wp2_with fail
          go_ret2
          exact ⟨rd_some HN.out, rfl⟩

set_option maxHeartbeats 2000000 in
theorem sRead_pos (l : List UInt8) (a : UInt8) (hl : l.length ≤ 1048576) (hb0 : l[0]? = some a) (ha : ¬ a = 45) (w : World) : Calls Tryz.prog 74 #[str l] w (RdOut (rdD false l) w) := by
  have hix0 := idx_str (P := Tryz.prog) 9 l 0 a Tryz.underlying9 hb0
  have h1l : 1 ≤ l.length := (List.getElem?_eq_some_iff.1 hb0).1
  have hne : (!l.isEmpty) = true := by
    cases l with
    | nil => simp at hb0
    | cons _ _ => rfl
  have HH : Hid (l.head? = some a) := Lib.hid (by rw [List.head?_eq_getElem?]; exact hb0)
  clear hb0
  rw [show (((0 : Nat) : Int)) = 0 from rfl] at hix0
  have e45 : ((a.toNat : Int) == 45) = false := u8_ne ha rfl
  clear ha
  have HC : Hid (a = 48 ∨ ((a.toNat : Int) == 48) = false) := Lib.hid (by
    by_cases h : a = 48
    · exact .inl h
    · exact .inr (u8_ne h rfl))
  have HZ : Hid (a = 48 → (a.toNat : Int) = 48) := Lib.hid (fun h => by rw [h]; rfl)
  unfold byte at hix0
  generalize (a.toNat : Int) = y at hix0 e45 HC HZ
  have g1 : 1 ≤ (l.length : Int) := by omega
  by_cases h10 : 10 < l.length
  · have HR := Lib.hid (rdD_long (neg := false) (l := l) (by omega))
    rw [HR.out]
    go_enter Tryz.func74, Tryz.ntmps74
    go_wp2_with fail
    go_ret2
    exact ⟨rfl, rfl⟩
  have g10 : (l.length : Int) ≤ 10 := by omega
  go_enter Tryz.func74, Tryz.ntmps74
  go_wp2_with fail
  go_loop [6, 7] (fun n i => ∃ k : Nat, k ≤ l.length ∧ i = .int .i64 k ∧ n = .int .i64 (valN (l.take k) : Int) ∧ (l.take k).all digB = true) (fun _ i => l.length - (intOf i).toNat)
  case atStart => exact ⟨0, by omega, rfl, rfl, rfl⟩
  case round =>
    obtain ⟨k, hk, rfl, rfl, hall⟩ := hrel
    have HA := Lib.hid hall
    obtain ⟨v0, v1⟩ := val_bound hall (by omega)
    clear hall
    by_cases hlt : k < l.length
    · have hb := List.getElem?_eq_getElem hlt
      generalize l[k] = b at hb
      have hix := idx_str (P := Tryz.prog) 9 l k b Tryz.underlying9 hb
      unfold byte at hix
      cases hp : digB b
      · have HN := Lib.hid (rdD_dig (neg := false) hb hp)
        rw [HN.out]
        rcases digB_no hp with h | h
        all_goals
          clear hp hb
          generalize (b.toNat : Int) = z at hix h
          go_wp2_with fail
          go_ret2
          exact ⟨rfl, rfl⟩
      · have HS := Lib.hid (dig_step HA.out hb hp)
        have HV := Lib.hid (valZ_take hb hp)
        obtain ⟨h0, h1⟩ := digB_yes hp
        clear hp hb
        generalize (b.toNat : Int) = z at hix h0 h1 HV
        generalize ((valN (l.take k) : Nat) : Int) = n at v0 v1 HV ⊢
        go_wp2_with fail
        go_round
        case rel => exact ⟨k + 1, by omega, by go_num, by rw [HV.out], HS.out⟩
        case measure => simp [intOf]; omega
    · have hjl : l.take k = l := List.take_of_length_le (by omega)
      rw [hjl] at HA v0 v1 ⊢
      clear hjl
      by_cases hc : a = 48 ∧ 1 < l.length
      · have HN := Lib.hid (rdD_nought (neg := false) (l := l) (by rw [HH.out, hc.1]) (.inr hc.2))
        rw [HZ.out hc.1] at hix0
        have hgt : 1 < l.length := hc.2
        have hgt' : 1 < (l.length : Int) := by omega
        clear hc e45
        go_wp2_with fail
        go_ret2
        exact ⟨rd_none HN.out, rfl⟩
      · have HE := Lib.hid (rdD_end (neg := false) (l := l) (by omega) (by omega) HA.out (fun q => hc ⟨by have := q.1; rw [HH.out] at this; simpa using this, by rcases q.2 with h | h; cases h; exact h⟩))
        have HG : Hid (sgn false (valN l) = ((valN l : Nat) : Int)) := Lib.hid rfl
        generalize sgn false (valN l) = g at HG HE
        generalize ((valN l : Nat) : Int) = n at v0 v1 HG ⊢
        have HD : Hid ((y = 48 ∧ ¬ 1 < l.length) ∨ (y == 48) = false) := Lib.hid (by
          rcases HC.out with h | h
          · exact .inl ⟨HZ.out h, fun q => hc ⟨h, q⟩⟩
          · exact .inr h)
        clear hc HC HZ HH
        rcases HD.out with ⟨rfl, hq⟩ | hy
        · have hq' : (l.length : Int) ≤ 1 := by omega
          clear HD e45
          cases hw : wordB g
          · rw [hw] at HE
            have HN : Hid (rdD false l = none) := Lib.hid (by rw [HE.out]; rfl)
            have HW : Hid (wordB n = false) := Lib.hid (by rw [← HG.out]; exact hw)
            clear hw HE
            go_wp2_with fail
            refine (l5Word_any _ _).mono ?_
            rintro e w' ⟨rfl, rfl⟩
            rw [HW.out]
            go_wp2_with fail
            go_ret2
            exact ⟨rd_none HN.out, rfl⟩
          · rw [hw] at HE
            have HN : Hid (rdD false l = some n) := Lib.hid (by rw [HE.out, ← HG.out]; rfl)
            have HW : Hid (wordB n = true) := Lib.hid (by rw [← HG.out]; exact hw)
            clear hw HE
            go_wp2_with fail
            refine (l5Word_any _ _).mono ?_
            rintro e w' ⟨rfl, rfl⟩
            rw [HW.out]
            go_wp2_with fail
            go_ret2
            exact ⟨rd_some HN.out, rfl⟩
        · clear HD e45
          cases hw : wordB g
          · rw [hw] at HE
            have HN : Hid (rdD false l = none) := Lib.hid (by rw [HE.out]; rfl)
            have HW : Hid (wordB n = false) := Lib.hid (by rw [← HG.out]; exact hw)
            clear hw HE
            go_wp2_with fail
            refine (l5Word_any _ _).mono ?_
            rintro e w' ⟨rfl, rfl⟩
            rw [HW.out]
            go_wp2_with fail
            go_ret2
            exact ⟨rd_none HN.out, rfl⟩
          · rw [hw] at HE
            have HN : Hid (rdD false l = some n) := Lib.hid (by rw [HE.out, ← HG.out]; rfl)
            have HW : Hid (wordB n = true) := Lib.hid (by rw [← HG.out]; exact hw)
            clear hw HE
            go_wp2_with fail
            refine (l5Word_any _ _).mono ?_
            rintro e w' ⟨rfl, rfl⟩
            rw [HW.out]
            go_wp2_with fail
            go_ret2
            exact ⟨rd_some HN.out, rfl⟩

theorem sReadWord_any (l : List UInt8) (hl : l.length ≤ 1048576) (w : World) : Calls Tryz.prog 74 #[str l] w (RdOut (rdS l) w) := by
  cases l with
  | nil => exact sRead_nil w
  | cons c r =>
    by_cases h : c = 45
    · subst h
      rw [rdS_neg]
      exact sRead_neg _ r hl rfl w
    · rw [rdS_pos h]
      exact sRead_pos (c :: r) c hl rfl h w

end Go.Proofs.YtblnonlcjfcblaaGreatDoor
