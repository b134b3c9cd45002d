/- The draws of words, names and sums, told exactly: how many signs are drawn, and where the cursor stands then. No conditions but those typed. -/
import Derived.Test.YtjcmfdgphhonhaaGreatDoorDrwA
import Derived.Test.YtjcmfdgphhonhaaGreatDoorDrawS
import Derived.Test.YtjcmfdgphhonhaaGreatDoorDeedP
namespace Go.Proofs.YtjcmfdgphhonhaaGreatDoor
open Go.RowKit
set_option linter.unusedVariables false

/-- No [ and no ]. -/
def noBr (t : Txt) : Prop := ¬ t = wOpen ∧ ¬ t = wShut
def noBrs (xs : List Txt) : Prop := ∀ t ∈ xs, noBr t
theorem noBrs_app {xs ys : List Txt} (h : noBrs xs) (k : noBrs ys) : noBrs (xs ++ ys) := fun s hs => by
  rcases List.mem_append.1 hs with q | q
  · exact h s q
  · exact k s q
theorem noBrs_one {t : Txt} (h : noBr t) : noBrs [t] := fun s hs => by
  have : s = t := by simpa using hs
  rw [this]
  exact h
def txtOk2 : Value → Bool
  | .string s => decide (s.size ≤ 10) && !(s.data.toList == [91]) && !(s.data.toList == [93])
  | _ => false
theorem txt_at2 {w' : World} {g : Nat} {xs : List Value} {e : TypeId} (h : w'.heap[g]? = some (.cells xs.toArray e (0, 0))) (hall : xs.all txtOk2 = true) {k : Nat} (hk : k < xs.length) : ∃ t : List UInt8, t.length ≤ 10 ∧ noBr t ∧ w'.cell? ⟨g, k, none⟩ = some (str t) := by
  rw [cell_of_row _ _ k _ _ (0, 0) h]
  have hx := List.all_eq_true.1 hall xs[k] (List.getElem_mem _)
  cases hv : xs[k] with
  | string s =>
    rw [hv] at hx
    obtain ⟨⟨l⟩⟩ := s
    simp [txtOk2, ByteArray.size] at hx
    refine ⟨l, hx.1.1, ⟨hx.1.2, hx.2⟩, ?_⟩
    rw [List.getElem?_toArray, List.getElem?_eq_getElem hk, hv]
  | _ => rw [hv] at hx; cases hx
def TxtX (bs : List Int) (w : World) (g : Nat) (s : Nat × Int) (e : Ending) (w' : World) : Prop := ∃ t : Txt, e = .returned (str t) ∧ t.length ≤ 10 ∧ noBr t ∧ CurS bs w' g s ∧ w.grownBy w' (some g)
def NumX (bs : List Int) (w : World) (g : Nat) (s : Nat × Int) (e : Ending) (w' : World) : Prop := ∃ x : Int, e = .returned (.int .i64 x) ∧ -2147483648 ≤ x ∧ x ≤ 2147483647 ∧ CurS bs w' g s ∧ w.grownBy w' (some g)
theorem mod_in (x : Int) {m : Int} (h : 0 < m) : 0 ≤ x % m ∧ x % m ≤ m - 1 := ⟨Int.emod_nonneg _ (by omega), by have := Int.emod_lt_of_pos x h; omega⟩

set_option maxHeartbeats 2000000 in
theorem l5DrawName_x (bs : List Int) (g : Nat) (s : Nat × Int) (w : World) (hc : CurS bs w g s) : Calls Tryz.prog 151 #[.pointer (some ⟨g, 0, none⟩)] w (TxtX bs w g (nextB bs s).2) := by
  have hlt := hc.lt
  have HB := Lib.hid (fun o => l1Below_x bs g s 6 (by decide) (by decide) (w.alloc o) (hc.alloc o))
  obtain ⟨hy0, hy1⟩ := mod_in (nextB bs s).1 (show (0 : Int) < 6 by decide)
  generalize (nextB bs s).1 % 6 = y at HB hy0 hy1
  generalize (nextB bs s).2 = s1 at HB ⊢
  go_enter Tryz.func151, Tryz.ntmps151
  go_wp2_with fail
  refine (HB.out _).mono ?_
  rintro e w2 ⟨rfl, c2, g2⟩
  obtain ⟨z, hz1, hz2, hz⟩ := txt_at2 (k := y.toNat) ((g2.block w.heap.size (by simp) (by simp; omega)).trans (heap_alloc_new w _)) (by decide +kernel) (by simp; omega)
  have G := grown_of_alloc _ g2
  clear g2
  go_wp2_with fail
  go_ret
  exact ⟨_, rfl, hz1, hz2, c2, G⟩

set_option maxHeartbeats 2000000 in
theorem l1Below_bigx (bs : List Int) (g : Nat) (s : Nat × Int) (m : Int) (h0 : 256 < m) (h1 : m ≤ 4294967296) (w : World) (hc : CurS bs w g s) : Calls Tryz.prog 81 #[.pointer (some ⟨g, 0, none⟩), .int .i64 m] w fun e w' => ∃ x : Int, e = .returned (.int .i64 x) ∧ 0 ≤ x ∧ x ≤ m - 1 ∧ CurS bs w' g (nextB bs (nextB bs (nextB bs (nextB bs s).2).2).2).2 ∧ w.grownBy w' (some g) := by
  have H1 := Lib.hid (l1Byte_x bs g s w hc)
  obtain ⟨hx0, hx1⟩ := next_range bs s
  generalize (nextB bs s).1 = x at H1 hx0 hx1
  generalize (nextB bs s).2 = s1 at H1 ⊢
  have H2 := Lib.hid (fun w h => l1Byte_x bs g s1 w h)
  obtain ⟨hy0, hy1⟩ := next_range bs s1
  generalize (nextB bs s1).1 = y at H2 hy0 hy1
  generalize (nextB bs s1).2 = s2 at H2 ⊢
  have H3 := Lib.hid (fun w h => l1Byte_x bs g s2 w h)
  obtain ⟨hz0, hz1⟩ := next_range bs s2
  generalize (nextB bs s2).1 = z at H3 hz0 hz1
  generalize (nextB bs s2).2 = s3 at H3 ⊢
  have H4 := Lib.hid (fun w h => l1Byte_x bs g s3 w h)
  obtain ⟨hv0, hv1⟩ := next_range bs s3
  generalize (nextB bs s3).1 = v at H4 hv0 hv1
  generalize (nextB bs s3).2 = s4 at H4 ⊢
  go_enter Tryz.func81, Tryz.ntmps81
  go_wp2_with fail
  refine H1.out.mono ?_
  rintro e w1 ⟨rfl, c1, g1⟩
  go_wp2_with fail
  refine (H2.out _ c1).mono ?_
  rintro e w2 ⟨rfl, c2, g2⟩
  replace g2 := grown_trans g1 g2
  clear c1 g1
  go_wp2_with fail
  refine (H3.out _ c2).mono ?_
  rintro e w3 ⟨rfl, c3, g3⟩
  replace g3 := grown_trans g2 g3
  clear c2 g2
  go_wp2_with fail
  refine (H4.out _ c3).mono ?_
  rintro e w4 ⟨rfl, c4, g4⟩
  replace g4 := grown_trans g3 g4
  clear c3 g3
  go_wp2_with fail
  go_ret
  exact ⟨_, rfl, Int.emod_nonneg _ (by omega), by have := Int.emod_lt_of_pos (x * 16777216 + y * 65536 + z * 256 + v) (show 0 < m by omega); omega, c4, g4⟩

set_option maxHeartbeats 2000000 in
theorem l5Draw_x (bs : List Int) (g : Nat) (s : Nat × Int) (w : World) (hc : CurS bs w g s) : Calls Tryz.prog 152 #[.pointer (some ⟨g, 0, none⟩)] w (NumX bs w g (drawG (nextB bs) s)) := by
  have H1 := Lib.hid (l1Below_x bs g s 6 (by decide) (by decide) w hc)
  obtain ⟨hx0, hx1⟩ := mod_in (nextB bs s).1 (show (0 : Int) < 6 by decide)
  unfold drawG
  generalize (nextB bs s).1 % 6 = x at H1 hx0 hx1 ⊢
  generalize (nextB bs s).2 = s1 at H1 ⊢
  by_cases h1 : x = 1
  · subst h1
    rw [if_pos rfl]
    have H2 := Lib.hid (fun w h => l1Below_bigx bs g s1 4294967296 (by decide) (by decide) w h)
    generalize (nextB bs (nextB bs (nextB bs (nextB bs s1).2).2).2).2 = s2 at H2 ⊢
    go_enter Tryz.func152, Tryz.ntmps152
    go_wp2_with fail
    refine H1.out.mono ?_
    rintro e w1 ⟨rfl, c1, g1⟩
    go_wp2_with fail
    refine (H2.out _ c1).mono ?_
    rintro e w2 ⟨y, rfl, hy0, hy1, c2, g2⟩
    go_wp2_with fail
    go_ret
    exact ⟨_, rfl, by omega, by omega, c2, grown_trans g1 g2⟩
  · rw [if_neg h1]
    by_cases h0 : x = 0
    · subst h0
      have H2 := Lib.hid (fun w h => l1Below_x bs g s1 6 (by decide) (by decide) w h)
      obtain ⟨hy0, hy1⟩ := mod_in (nextB bs s1).1 (show (0 : Int) < 6 by decide)
      generalize (nextB bs s1).1 % 6 = y at H2 hy0 hy1
      generalize (nextB bs s1).2 = s2 at H2 ⊢
      go_enter Tryz.func152, Tryz.ntmps152
      go_wp2_with fail
      refine H1.out.mono ?_
      rintro e w1 ⟨rfl, c1, g1⟩
      have hlt := c1.lt
      go_wp2_with fail
      refine (H2.out _ (c1.alloc _)).mono ?_
      rintro e w2 ⟨rfl, c2, g2⟩
      obtain ⟨z, hz, hz0, hz1⟩ := num_at (lo := -2147483648) (hi := 2147483647) (k := y.toNat) ((g2.block w1.heap.size (by simp) (by simp; omega)).trans (heap_alloc_new w1 _)) (by decide +kernel) (by simp; omega)
      have G := grown_trans g1 (grown_of_alloc _ g2)
      clear g1 g2 c1
      go_wp2_with fail
      go_ret
      exact ⟨_, rfl, hz0, hz1, c2, G⟩
    · have e0 : (x == 0) = false := by simpa using h0
      have e1 : (x == 1) = false := by simpa using h1
      have H2 := Lib.hid (fun w h => l1Below_x bs g s1 9 (by decide) (by decide) w h)
      obtain ⟨hy0, hy1⟩ := mod_in (nextB bs s1).1 (show (0 : Int) < 9 by decide)
      generalize (nextB bs s1).1 % 9 = y at H2 hy0 hy1
      generalize (nextB bs s1).2 = s2 at H2 ⊢
      go_enter Tryz.func152, Tryz.ntmps152
      go_wp2_with fail
      refine H1.out.mono ?_
      rintro e w1 ⟨rfl, c1, g1⟩
      go_wp2_with fail
      refine (H2.out _ c1).mono ?_
      rintro e w2 ⟨rfl, c2, g2⟩
      go_wp2_with fail
      go_ret
      exact ⟨_, rfl, by omega, by omega, c2, grown_trans g1 g2⟩

end Go.Proofs.YtjcmfdgphhonhaaGreatDoor
