/- Layer 7 (plays): PlayOk, AllNames and GatesIn, of the model and of the program. Condition for the program's: the listed variables hold what the program's text lays (Vars). -/
import Derived.Test.YtblnonlcjfcblaaGreatDoorRdrF
namespace Go.Proofs.YtblnonlcjfcblaaGreatDoor
open Go.RowKit
set_option linter.unusedVariables false

def StrsOut (w : World) (xs : List Txt) (e : Ending) (w' : World) : Prop := ∃ v, e = .returned v ∧ OwnV w' w.heap.size 9 v (xs.map str) ∧ Below w.heap.size w w'
def NumsOut (w : World) (zs : List Int) (e : Ending) (w' : World) : Prop := ∃ v, e = .returned v ∧ OwnI w' w.heap.size 2 v zs ∧ Below w.heap.size w w'
/-- At the head of the model's loop. -/
def OkAt (ss : List Txt) (w : World) (i : Value) (wr : World) : Prop :=
  Below w.heap.size w wr ∧ ((∃ p D : Nat, i = .int .i64 (p : Int) ∧ p ≤ ss.length ∧ Deeds ss 0 p D ∧ D ≤ 5) ∨ (i = .int .i64 (-1) ∧ ∀ D, Deeds ss 0 ss.length D → 5 < D))
def mOk (n : Nat) (z : Int) : Nat := if z < 0 then 0 else n + 1 - z.toNat
theorem mOk_neg (n : Nat) : mOk n (-1) = 0 := rfl
theorem mOk_nat (n p : Nat) : mOk n (p : Int) = n + 1 - p := by unfold mOk; rw [if_neg (by omega), Int.toNat_natCast]

set_option maxRecDepth 100000 in
set_option maxHeartbeats 2000000 in
theorem sPlayOk_any (B : Nat) (v : Value) (ss : List Txt) (w : World) (h : SeeV w B v (ss.map str)) (hB : B ≤ w.heap.size) (hS : shortS ss) (hn : ss.length ≤ 1048576) :
    Calls Tryz.prog 12 #[v] w (BoolLt w (playB ss)) := by
  obtain ⟨A, c, e⟩ := strs_shape h
  subst e
  by_cases hl : 100 < ss.length
  · have HP := Lib.hid (play_long hl)
    rw [HP.out]
    have hne : ((0 : Int) == (ss.length : Int)) = false := by simp; omega
    have h1 : decide ((0 : Int) < (ss.length : Int)) = true := by simp; omega
    have h2 : decide ((ss.length : Int) ≤ 100) = false := by simp; omega
    go_enter Tryz.func12, Tryz.ntmps12
    go_wp2_with fail
    go_loopw [3] (fun i wr => i = .int .i64 0 ∧ wr = w) (fun _ _ => 0)
    case atStart => exact ⟨rfl, rfl⟩
    case round =>
      obtain ⟨rfl, rfl⟩ := hrel
      go_wp2_with fail
      go_ret
      exact ⟨rfl, Below.refl _ _⟩
  · obtain ⟨R, HR⟩ : ∃ R, Hid (playB ss = R) := ⟨_, Lib.hid rfl⟩
    rw [HR.out]
    go_enter Tryz.func12, Tryz.ntmps12
    go_wp2_with fail
    go_loopw [3] (OkAt ss w) (fun i _ => mOk ss.length (intOf i))
    case atStart => exact ⟨Below.refl _ _, .inl ⟨0, 0, rfl, Nat.zero_le _, .nil 0, by omega⟩⟩
    case round =>
      obtain ⟨hb, ⟨p, D, rfl, hp, hd, hD⟩ | ⟨rfl, hd⟩⟩ := hrel
      · by_cases hlt : p < ss.length
        · have HC := Lib.hid (deed_all 5 (by omega) B (.slice A ss.length c) ss p wr (h.below (hb.mono hB)) (Nat.le_trans hB hb.size) hS hn (by omega))
          have HD := Lib.hid hd
          clear hd h
          go_wp2_with fail
          refine HC.out.mono ?_
          rintro e w1 ⟨r, rfl, hr, b1⟩
          cases r with
          | none =>
            have HN : Hid (∀ D, Deeds ss 0 ss.length D → 5 < D) := Lib.hid (fun D2 h2 => HD.out.stuck h2 (end_head ss) (by omega) hr)
            have hE : endI none = -1 := rfl
            rw [hE]
            go_wp2_with fail
            go_roundw
            case rel => exact ⟨below_then hb b1 (Nat.le_refl _), .inr ⟨rfl, HN.out⟩⟩
            case measure => show mOk ss.length (-1) < mOk ss.length (p : Int); rw [mOk_neg, mOk_nat]; omega
          | some k =>
            obtain ⟨D1, hO, h5⟩ := hr
            have hol := hO.lt
            have HN := Lib.hid (HD.out.snoc hO)
            have hE : endI (some k) = (k : Int) := rfl
            rw [hE]
            clear hO
            go_wp2_with fail
            go_roundw
            case rel => exact ⟨below_then hb b1 (Nat.le_refl _), .inl ⟨k, _, rfl, hol.2, HN.out, by omega⟩⟩
            case measure => show mOk ss.length (k : Int) < mOk ss.length (p : Int); rw [mOk_nat, mOk_nat]; omega
        · obtain rfl : p = ss.length := by omega
          obtain ⟨a, g, hL⟩ := hd.lin
          have HPY := Lib.hid ((play_yes (by omega) hd (by omega) hL).symm.trans HR.out)
          have HC := Lib.hid (l7All_any B (.slice A ss.length c) ss a g wr (h.below (hb.mono hB)) (Nat.le_trans hB hb.size) hS hn hL)
          have hal := lin_alen hL
          have hpl := putAll_len' a
          clear hd h hL
          go_wp2_with fail
          refine HC.out.mono ?_
          rintro e w1 ⟨v1, u1, rfl, o1, o2, b1⟩
          obtain ⟨A1, c1, e1⟩ := strs_shape o1.see
          subst e1
          obtain ⟨m, HM⟩ : ∃ m, Hid ((putAll a).length = m) := ⟨_, Lib.hid rfl⟩
          rw [HM.out]
          go_wp2_with fail
          go_ret
          exact ⟨ret_bool (by rw [← HPY.out, HM.out]; exact decide_eq_decide.2 (by omega)), below_then hb b1 (Nat.le_refl _)⟩
      · have HRF := Lib.hid ((play_no hd).symm.trans HR.out)
        have hne : ((-1 : Int) == (ss.length : Int)) = false := by first | (simp; done) | (simp; omega)
        clear hd h
        go_wp2_with fail
        go_ret
        exact ⟨ret_bool HRF.out, hb⟩

set_option maxHeartbeats 1000000 in
theorem iPlayOk_any (B : Nat) (v : Value) (ss : List Txt) (w : World) (V : Vars w) (h : SeeV w B v (ss.map str)) (hB : B ≤ w.heap.size) (hS : shortS ss) (hn : ss.length ≤ 1048576) :
    Calls Tryz.prog 14 #[v] w (BoolLt w (playB ss)) := by
  have HC := Lib.hid (playRead_any B v ss w V h hB hS hn)
  obtain ⟨A, c, e⟩ := strs_shape h
  subst e
  clear h V
  unfold PlayOut at HC
  generalize playB ss = R at HC ⊢
  go_enter Tryz.func14, Tryz.ntmps14
  go_wp2_with fail
  refine HC.out.mono ?_
  rintro e w1 ⟨b1, As, ns, cs, a, vn, vg, Ao, no, co, d, rfl, o1, o2⟩
  obtain ⟨A1, c1, e1⟩ := strs_shape o1.see
  obtain ⟨A2, c2, e2⟩ := row_shape o2
  subst e1 e2
  go_wp2_with fail
  go_ret
  exact ⟨rfl, b1.alloc b1.size _⟩

set_option maxHeartbeats 1000000 in
theorem iAllNames_any (B : Nat) (v : Value) (ss : List Txt) (w : World) (V : Vars w) (h : SeeV w B v (ss.map str)) (hB : B ≤ w.heap.size) (hS : shortS ss) (hn : ss.length ≤ 1048576) :
    Calls Tryz.prog 23 #[v] w (StrsOut w (namesP ss)) := by
  have HC := Lib.hid (playRead_any B v ss w V h hB hS hn)
  obtain ⟨A, c, e⟩ := strs_shape h
  subst e
  clear h V
  unfold PlayOut at HC
  go_enter Tryz.func23, Tryz.ntmps23
  go_wp2_with fail
  refine HC.out.mono ?_
  rintro e w1 ⟨b1, As, ns, cs, a, vn, vg, Ao, no, co, d, rfl, o1, o2⟩
  have O1 := Lib.hid o1
  obtain ⟨A1, c1, e1⟩ := strs_shape o1.see
  obtain ⟨A2, c2, e2⟩ := row_shape o2
  subst e1 e2
  clear o1 o2
  go_wp2_with fail
  go_ret
  exact ⟨_, rfl, O1.out.alloc _, b1.alloc b1.size _⟩

set_option maxHeartbeats 1000000 in
theorem iGatesIn_any (B : Nat) (v : Value) (ss : List Txt) (w : World) (V : Vars w) (h : SeeV w B v (ss.map str)) (hB : B ≤ w.heap.size) (hS : shortS ss) (hn : ss.length ≤ 1048576) :
    Calls Tryz.prog 25 #[v] w (NumsOut w (gatesP ss)) := by
  have HC := Lib.hid (playRead_any B v ss w V h hB hS hn)
  obtain ⟨A, c, e⟩ := strs_shape h
  subst e
  clear h V
  unfold PlayOut at HC
  go_enter Tryz.func25, Tryz.ntmps25
  go_wp2_with fail
  refine HC.out.mono ?_
  rintro e w1 ⟨b1, As, ns, cs, a, vn, vg, Ao, no, co, d, rfl, o1, o2⟩
  have O2 := Lib.hid o2
  obtain ⟨A1, c1, e1⟩ := strs_shape o1.see
  obtain ⟨A2, c2, e2⟩ := row_shape o2
  subst e1 e2
  clear o1 o2
  go_wp2_with fail
  go_ret
  exact ⟨_, rfl, O2.out.alloc _, b1.alloc b1.size _⟩

set_option maxHeartbeats 1000000 in
theorem sAllNames_any (B : Nat) (v : Value) (ss : List Txt) (w : World) (h : SeeV w B v (ss.map str)) (hB : B ≤ w.heap.size) (hS : shortS ss) (hn : ss.length ≤ 1048576) :
    Calls Tryz.prog 22 #[v] w (StrsOut w (namesP ss)) := by
  have HC := Lib.hid (sPlayOk_any B v ss w h hB hS hn)
  cases hp : playB ss with
  | false =>
    rw [names_no7 hp]
    rw [hp] at HC
    obtain ⟨A, c, e⟩ := strs_shape h
    subst e
    clear h hp
    go_enter Tryz.func22, Tryz.ntmps22
    go_wp2_with fail
    refine HC.out.mono ?_
    rintro e w1 ⟨rfl, b1⟩
    have oE := OwnV.empty w1 w.heap.size 9 b1.size
    go_wp2_with fail
    go_ret
    exact ⟨_, rfl, oE, b1.alloc b1.size _⟩
  | true =>
    obtain ⟨_, D, a, g, hd, _, hL, _⟩ := play_open hp
    rw [names_yes7 hp hL]
    rw [hp] at HC
    have HA := Lib.hid (fun w1 (b1 : Below w.heap.size w w1) => l7All_any B v ss a g w1 (h.below (b1.mono hB)) (Nat.le_trans hB b1.size) hS hn hL)
    obtain ⟨A, c, e⟩ := strs_shape h
    subst e
    clear h hp hd hL
    go_enter Tryz.func22, Tryz.ntmps22
    go_wp2_with fail
    refine HC.out.mono ?_
    rintro e w1 ⟨rfl, b1⟩
    go_wp2_with fail
    refine (HA.out w1 b1).mono ?_
    rintro e w2 ⟨v1, u1, rfl, o1, o2, b2⟩
    go_wp2_with fail
    go_ret
    exact ⟨_, rfl, less_own o1 b1.size, below_then b1 b2 (Nat.le_refl _)⟩

set_option maxHeartbeats 1000000 in
theorem sGatesIn_any (B : Nat) (v : Value) (ss : List Txt) (w : World) (h : SeeV w B v (ss.map str)) (hB : B ≤ w.heap.size) (hS : shortS ss) (hn : ss.length ≤ 1048576) :
    Calls Tryz.prog 24 #[v] w (NumsOut w (gatesP ss)) := by
  have HC := Lib.hid (sPlayOk_any B v ss w h hB hS hn)
  cases hp : playB ss with
  | false =>
    rw [gates_no7 hp]
    rw [hp] at HC
    obtain ⟨A, c, e⟩ := strs_shape h
    subst e
    clear h hp
    go_enter Tryz.func24, Tryz.ntmps24
    go_wp2_with fail
    refine HC.out.mono ?_
    rintro e w1 ⟨rfl, b1⟩
    have oE := OwnI.empty w1 w.heap.size 2 b1.size
    go_wp2_with fail
    go_ret
    exact ⟨_, rfl, oE, b1.alloc b1.size _⟩
  | true =>
    obtain ⟨_, D, a, g, hd, _, hL, _⟩ := play_open hp
    rw [gates_yes7 hp hL]
    rw [hp] at HC
    have HA := Lib.hid (fun w1 (b1 : Below w.heap.size w w1) => l7All_any B v ss a g w1 (h.below (b1.mono hB)) (Nat.le_trans hB b1.size) hS hn hL)
    obtain ⟨A, c, e⟩ := strs_shape h
    subst e
    clear h hp hd hL
    go_enter Tryz.func24, Tryz.ntmps24
    go_wp2_with fail
    refine HC.out.mono ?_
    rintro e w1 ⟨rfl, b1⟩
    go_wp2_with fail
    refine (HA.out w1 b1).mono ?_
    rintro e w2 ⟨v1, u1, rfl, o1, o2, b2⟩
    go_wp2_with fail
    go_ret
    exact ⟨_, rfl, less_own o2 b1.size, below_then b1 b2 (Nat.le_refl _)⟩

end Go.Proofs.YtblnonlcjfcblaaGreatDoor
