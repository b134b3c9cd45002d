/- Layer 7 (plays): ReadPlay, of the model and of the program; the walk of FnExactReadPlay. Conditions: the listed variables hold what the program's text lays (Vars); internal/bytealg.MaxLen is a number. -/
import Derived.Test.YtblnonlcjfcblaaGreatDoorDeedD
import Derived.Test.YtblnonlcjfcblaaGreatDoorMarkT
import Derived.Test.YtblnonlcjfcblaaGreatDoorCutA
namespace Go.Proofs.YtblnonlcjfcblaaGreatDoor
open Go.RowKit
set_option linter.unusedVariables false

noncomputable def readP (l : Txt) : Option (List Txt) := if l = [] then some [] else if playB (cutT 32 l) = true then some (cutT 32 l) else none
def RdPOut (w : World) (r : Option (List Txt)) (e : Ending) (w' : World) : Prop := ∃ v, e = .returned (.tuple #[v, .bool r.isSome]) ∧ OwnV w' w.heap.size 9 v ((r.getD []).map str) ∧ Below w.heap.size w w'
theorem cut_short (b : UInt8) : ∀ (l : Txt), ∀ x ∈ cutT b l, x.length ≤ l.length
  | [], x, hx => by
    have : x = [] := by simpa [cutT] using hx
    rw [this]
    exact Nat.le_refl _
  | c :: l, x, hx => by
    obtain ⟨y, r, e⟩ := cutT_ne b l
    have ih := cut_short b l
    by_cases h : c = b
    · subst h
      rw [cutT_hit] at hx
      rcases List.mem_cons.1 hx with rfl | hx
      · simp
      · have := ih x hx
        rw [List.length_cons]; omega
    · rw [cutT_miss h e] at hx
      rw [e] at ih
      rcases List.mem_cons.1 hx with rfl | hx
      · have := ih y (by simp)
        rw [List.length_cons, List.length_cons]; omega
      · have := ih x (List.mem_cons_of_mem _ hx)
        rw [List.length_cons]; omega
theorem cut_fits {l : Txt} (hl : l.length ≤ 1048576) : shortS (cutT 32 l) := fun x hx => Nat.le_trans (cut_short 32 l x hx) hl

set_option maxRecDepth 100000 in
set_option maxHeartbeats 2000000 in
theorem sPlayOk_long (B : Nat) (v : Value) (ss : List Txt) (w : World) (h : SeeV w B v (ss.map str)) (hl : 100 < ss.length) (hn : ss.length ≤ 2097152) :
    Calls Tryz.prog 12 #[v] w (BoolLt w false) := by
  obtain ⟨A, c, e⟩ := strs_shape h
  subst e
  clear h
  have hne : ((0 : Int) == (ss.length : Int)) = false := by simp; omega
  have h1 : decide ((0 : Int) < (ss.length : Int)) = true := by simp; omega
  have h2 : decide ((ss.length : Int) ≤ 100) = false := by simp; omega
  go_enter Tryz.func12, Tryz.ntmps12
  go_wp2_with fail
  go_loopw [3] (fun i wr => i = .int .i64 0 ∧ wr = w) (fun _ _ => 0)
  case atStart => exact ⟨rfl, rfl⟩
  case round =>
    obtain ⟨rfl, rfl⟩ := hrel
    go_wp2_with fail
    go_ret
    exact ⟨rfl, Below.refl _ _⟩
theorem sPlay_cut (B : Nat) (v : Value) (l : Txt) (hl : l.length ≤ 1048576) (w : World) (h : SeeV w B v ((cutT 32 l).map str)) (hB : B ≤ w.heap.size) : Calls Tryz.prog 12 #[v] w (BoolLt w (playB (cutT 32 l))) := by
  by_cases hc : 100 < (cutT 32 l).length
  · have := cutT_le 32 l
    rw [play_long hc]
    exact sPlayOk_long B v _ w h hc (by omega)
  · exact sPlayOk_any B v _ w h hB (cut_fits hl) (by omega)

set_option maxHeartbeats 1000000 in
theorem sReadPlay_any (l : Txt) (hl : l.length ≤ 1048576) (w : World) : Calls Tryz.prog 18 #[str l] w (RdPOut w (readP l)) := by
  unfold readP
  by_cases h0 : l = []
  · subst h0
    rw [if_pos rfl]
    have oE := OwnV.empty w w.heap.size 9 (Nat.le_refl _)
    go_enter Tryz.func18, Tryz.ntmps18
    go_wp2_with fail
    go_ret2
    exact ⟨_, rfl, oE, (Below.refl _ _).alloc (Nat.le_refl _) _⟩
  · rw [if_neg h0]
    have e1 : (l == []) = false := by simpa using h0
    have e2 : l.isEmpty = false := by simpa using h0
    have HC := Lib.hid (l1Split_any l hl 32 w)
    have HP := Lib.hid (fun v W B h1 h2 => sPlay_cut B v l hl W h1 h2)
    unfold RowOut at HC
    generalize cutT 32 l = ss at HC HP ⊢
    cases hp : playB ss with
    | false =>
      rw [hp] at HP
      rw [if_neg (by simp)]
      clear hp h0
      go_enter Tryz.func18, Tryz.ntmps18
      go_wp2_with fail
      refine HC.out.mono ?_
      rintro e w1 ⟨v1, rfl, o1, b1⟩
      go_wp2_with fail
      refine (HP.out v1 w1 _ o1.see (Nat.le_refl _)).mono ?_
      rintro e w2 ⟨rfl, b2⟩
      have oE := OwnV.empty w2 w.heap.size 9 (Nat.le_trans b1.size b2.size)
      go_wp2_with fail
      go_ret2
      exact ⟨_, rfl, oE, (below_then b1 b2 (Nat.le_refl _)).alloc (Nat.le_trans b1.size b2.size) _⟩
    | true =>
      rw [hp] at HP
      rw [if_pos rfl]
      clear hp h0
      go_enter Tryz.func18, Tryz.ntmps18
      go_wp2_with fail
      refine HC.out.mono ?_
      rintro e w1 ⟨v1, rfl, o1, b1⟩
      go_wp2_with fail
      refine (HP.out v1 w1 _ o1.see (Nat.le_refl _)).mono ?_
      rintro e w2 ⟨rfl, b2⟩
      have o2 := o1.later b2
      go_wp2_with fail
      go_ret2
      exact ⟨_, rfl, o2, below_then b1 b2 (Nat.le_refl _)⟩

set_option maxRecDepth 100000 in
set_option maxHeartbeats 1000000 in
theorem iPlayOk_long (B : Nat) (v : Value) (ss : List Txt) (w : World) (h : SeeV w B v (ss.map str)) (hl : 100 < ss.length) (hn : ss.length ≤ 2097152) :
    Calls Tryz.prog 14 #[v] w (BoolLt w false) := by
  obtain ⟨A, c, e⟩ := strs_shape h
  subst e
  clear h
  have HC : Hid (Calls Tryz.prog 53 #[.slice A ss.length c] w fun e w' => e = .returned (.tuple #[.agg rd0, .bool false]) ∧ Below w.heap.size w w') := Lib.hid (by
    go_enter Tryz.func53, Tryz.ntmps53
    go_wp2_with fail
    exact bodyPost_ret (v := .tuple #[.agg rd0, .bool false]) (by simp [results, Tryz.results53, go_sem]) rfl ⟨rfl, ((Below.refl _ w).alloc (Nat.le_refl _) _).alloc (by simp) _⟩)
  go_enter Tryz.func14, Tryz.ntmps14
  go_wp2_with fail
  refine HC.out.mono ?_
  rintro e w1 ⟨rfl, b1⟩
  go_wp2_with fail
  go_ret
  exact ⟨rfl, b1.alloc b1.size _⟩

/-- What SplitN hands back: the pieces, or one more than a play may have. -/
theorem split_any (l : Txt) (hl : l.length ≤ 1048576) (m : Int) (w : World) (hm : w.cell? ⟨0, 0, none⟩ = some (.int .i64 m)) :
    ∃ q : List Txt, (100 < (cutT 32 l).length ∧ 100 < q.length ∧ q.length ≤ 101 ∨ q = cutT 32 l ∧ (cutT 32 l).length ≤ 100) ∧
      Calls Tryz.prog 57 #[str l, str [32], .int .i64 101] w fun e w' => ∃ c, e = .returned (.slice (some ⟨w.heap.size, 0, none⟩) q.length c) ∧ OwnV w' w.heap.size 9 (.slice (some ⟨w.heap.size, 0, none⟩) q.length c) (q.map str) ∧ Below w.heap.size w w' := by
  have hsp := Tryz.strings_SplitN ⟨l.toArray⟩ ⟨#[32]⟩ 101 m w (by show l.toArray.size < _; simp; omega) hm (by decide) (by decide) (by decide)
  rw [show (⟨l.toArray⟩ : ByteArray).size = l.length from by simp [ByteArray.size]] at hsp
  have hD : (Lib.splitB ⟨#[32]⟩ 0 (min 101 (l.length + 1) - 1) ⟨l.toArray⟩).map (·.data.toList) = Lib.splitK [32] 0 (min 101 (l.length + 1) - 1) l := by rw [Lib.splitB_data]
  generalize Lib.splitB ⟨#[32]⟩ 0 (min 101 (l.length + 1) - 1) ⟨l.toArray⟩ = bs at hsp hD
  have hcl := cutT_le 32 l
  have hq : 100 < (cutT 32 l).length ∧ 100 < (Lib.splitK [32] 0 (min 101 (l.length + 1) - 1) l).length ∧ (Lib.splitK [32] 0 (min 101 (l.length + 1) - 1) l).length ≤ 101 ∨ Lib.splitK [32] 0 (min 101 (l.length + 1) - 1) l = cutT 32 l ∧ (cutT 32 l).length ≤ 100 := by
    rcases Nat.lt_or_ge (min 101 (l.length + 1) - 1 + 1) (cutT 32 l).length with h2 | h2
    · rw [splitK_long 32 l _ h2]; omega
    · rw [splitK_all 32 l _ h2]
      by_cases h : (cutT 32 l).length ≤ 100
      · exact .inr ⟨rfl, h⟩
      · exact .inl ⟨by omega, by omega, by omega⟩
  have hcap : (Lib.splitK [32] 0 (min 101 (l.length + 1) - 1) l).length ≤ min 101 (l.length + 1) := by
    rcases Nat.lt_or_ge (min 101 (l.length + 1) - 1 + 1) (cutT 32 l).length with h2 | h2
    · rw [splitK_long 32 l _ h2]; omega
    · rw [splitK_all 32 l _ h2]; omega
  rw [← hD] at hq hcap
  refine ⟨bs.map (·.data.toList), hq, ?_⟩
  rw [List.length_map] at hcap ⊢
  refine Calls.mono (show Calls Tryz.prog 57 #[str l, str [32], .int .i64 101] w _ from hsp) ?_
  rintro e w' ⟨rfl, rfl⟩
  refine ⟨_, rfl, ?_, (Below.refl _ _).alloc (Nat.le_refl _) _⟩
  have hcm : min 101 (l.length + 1) ≤ 101 := by omega
  generalize min 101 (l.length + 1) = cap at hcap hsp hD hq hcm ⊢
  refine ⟨by simp, .inr ⟨w.heap.size, cap, Lib.cellsOf bs cap, by simp, Nat.le_refl _, heap_alloc_new _ _, by simpa using hcap, ?_, ?_, ?_⟩⟩
  · unfold maxLen; omega
  · unfold Lib.cellsOf; simp; omega
  · unfold Lib.cellsOf
    rw [Nat.mul_one, List.length_map, List.length_map]
    simp

set_option maxHeartbeats 1000000 in
theorem iReadPlay_any (l : Txt) (hl : l.length ≤ 1048576) (m : Int) (w : World) (V : Vars w) (hm : w.cell? ⟨0, 0, none⟩ = some (.int .i64 m)) : Calls Tryz.prog 19 #[str l] w (RdPOut w (readP l)) := by
  unfold readP
  by_cases h0 : l = []
  · subst h0
    rw [if_pos rfl]
    have oE := OwnV.empty w w.heap.size 9 (Nat.le_refl _)
    clear V hm
    go_enter Tryz.func19, Tryz.ntmps19
    go_wp2_with fail
    go_ret2
    exact ⟨_, rfl, oE, (Below.refl _ _).alloc (Nat.le_refl _) _⟩
  · rw [if_neg h0]
    have e1 : (l == []) = false := by simpa using h0
    have e2 : l.isEmpty = false := by simpa using h0
    obtain ⟨q, hq, hC⟩ := split_any l hl m w hm
    have HC := Lib.hid hC
    have HP : Hid (∀ v W B, Below w.heap.size w W → SeeV W B v (q.map str) → B ≤ W.heap.size → Calls Tryz.prog 14 #[v] W (BoolLt W (playB (cutT 32 l)))) := Lib.hid (fun v W B b h1 h2 => by
      rcases hq with ⟨h3, h4, h5⟩ | ⟨rfl, h3⟩
      · rw [play_long h3]
        exact iPlayOk_long B v q W h1 h4 (by omega)
      · exact iPlayOk_any B v _ W (V.below b) h1 h2 (cut_fits hl) (by omega))
    have HQ : Hid (playB (cutT 32 l) = true → q = cutT 32 l) := Lib.hid (fun h => by
      rcases hq with ⟨h3, h4, h5⟩ | ⟨h, _⟩
      · rw [play_long h3] at h; cases h
      · exact h)
    have hql : q.length ≤ 101 := by
      rcases hq with ⟨h3, h4, h5⟩ | ⟨rfl, h3⟩ <;> omega
    clear hC hq V hm
    generalize cutT 32 l = ss at HP HQ ⊢
    cases hp : playB ss with
    | false =>
      rw [hp] at HP
      rw [if_neg (by simp)]
      clear hp h0 HQ
      go_enter Tryz.func19, Tryz.ntmps19
      go_wp2_with fail
      refine HC.out.mono ?_
      rintro e w1 ⟨c1, rfl, o1, b1⟩
      go_wp2_with fail
      refine (HP.out _ w1 _ b1 o1.see (Nat.le_refl _)).mono ?_
      rintro e w2 ⟨rfl, b2⟩
      have oE := OwnV.empty w2 w.heap.size 9 (Nat.le_trans b1.size b2.size)
      go_wp2_with fail
      go_ret2
      exact ⟨_, rfl, oE, (below_then b1 b2 (Nat.le_refl _)).alloc (Nat.le_trans b1.size b2.size) _⟩
    | true =>
      obtain rfl := HQ.out hp
      rw [hp] at HP
      rw [if_pos rfl]
      clear hp h0 HQ
      go_enter Tryz.func19, Tryz.ntmps19
      go_wp2_with fail
      refine HC.out.mono ?_
      rintro e w1 ⟨c1, rfl, o1, b1⟩
      go_wp2_with fail
      refine (HP.out _ w1 _ b1 o1.see (Nat.le_refl _)).mono ?_
      rintro e w2 ⟨rfl, b2⟩
      have o2 := o1.later b2
      go_wp2_with fail
      go_ret2
      exact ⟨_, rfl, o2, below_then b1 b2 (Nat.le_refl _)⟩
theorem read_fits {l : Txt} (hl : l.length ≤ 1048576) : ((readP l).getD []).length ≤ 1048576 := by
  unfold readP
  by_cases h0 : l = []
  · rw [if_pos h0]; simp
  · rw [if_neg h0]
    cases hp : playB (cutT 32 l) with
    | false => simp
    | true =>
      have := (play_open hp).1
      rw [if_pos rfl]
      simp
      omega

set_option maxHeartbeats 4000000 in
set_option maxRecDepth 100000 in
theorem readPlay_law (l : Txt) (m : Int) (hsz : l.length ≤ 9223372036854775807) (w : World) (V : Vars w) (hm : w.cell? ⟨0, 0, none⟩ = some (.int .i64 m)) : Calls Tryz.prog 5 #[str l] w fun e w' => e = .returned (.bool true) ∧ Below w.heap.size w w' := by
  by_cases hl : l.length ≤ 1048576
  · have h20 : ¬ (1048576 : Int) < l.length := by omega
    have hg0 : 0 < w.heap.size := World.block_lt_of_cell? w ⟨0, 0, none⟩ hm
    have HV : Hid (∀ W, Below w.heap.size w W → Vars W ∧ W.cell? ⟨0, 0, none⟩ = some (.int .i64 m)) := Lib.hid (fun W b => ⟨V.below b, (b.cell hg0).trans hm⟩)
    have hnl := read_fits hl
    have HSN := Lib.hid (sReadPlay_any l hl)
    have HIN := Lib.hid (fun W (b : Below w.heap.size w W) => iReadPlay_any l hl m W (HV.out W b).1 (HV.out W b).2)
    unfold RdPOut at HSN HIN
    generalize readP l = r at hnl HSN HIN
    generalize r.getD [] = ns at hnl HSN HIN
    generalize r.isSome = b at HSN HIN
    have hbb : (b != b) = false := by simp
    clear V hm
    go_enter Tryz.func5, Tryz.ntmps5
    go_wp2_with fail
    refine (HSN.out _).mono ?_
    rintro e w1 ⟨v1, rfl, o1, b1⟩
    obtain ⟨A1, c1, e1⟩ := strs_shape o1.see
    subst e1
    have r1 := o1.see
    clear o1
    go_wp2_with fail
    refine (HIN.out _ b1).mono ?_
    rintro e w2 ⟨v2, rfl, o2, b2⟩
    obtain ⟨A2, c2, e2⟩ := strs_shape o2.see
    subst e2
    have r2 := r1.below b2
    have hz2 := b2.size
    have B2 := below_then b1 b2 (Nat.le_refl _)
    clear r1 b2
    go_wp2_with fail
    refine (eqStrs_any _ _ _ ns ns _ o2.see (r2.more hz2)).mono ?_
    rintro e w3 ⟨rfl, n3, rfl⟩
    rw [eqT_same]
    have b3 : Below w2.heap.size w2 (w2.drewN n3) := below_drewN (Below.refl _ _) _
    have o3 := o2.later b3
    have r3 := r2.below (b3.mono hz2)
    have hz3 := Nat.le_trans hz2 b3.size
    have B3 := below_then B2 b3 (Nat.le_refl _)
    clear o2 r2 B2 b3
    generalize w2.drewN n3 = w3 at *
    go_wp2_with fail
    refine (markStrs_any _ _ ns 1 _ o3 (Nat.le_refl _) (by omega)).mono ?_
    rintro e w4 ⟨rfl, o4, g4⟩
    have b4 : Below w1.heap.size w3 w4 := (Below.refl _ _).grown g4 (by omega) (fun j hj => (o3.lt j hj).1)
    have r4 := r3.below b4
    have B4 := B3.trans (b4.mono b1.size)
    have hz4 := Nat.le_trans hz3 b4.size
    clear o3 r3 B3 b4 g4
    have HH := Lib.hid (fun v W B h hB => heldStrs_any B v ns.length 1 W h hB (Nat.le_refl _) (by omega))
    generalize hmm : ((1 + ns.length : Nat) : Int) = z at HH ⊢
    have hm0 : 0 ≤ z := by omega
    clear hmm
    have hne : (z != z) = false := by simp
    go_wp2_with fail
    refine (HH.out _ _ _ o4.see (Nat.le_refl _)).mono ?_
    rintro e w5 ⟨rfl, b5⟩
    have o5 := o4.later b5
    have r5 := r4.below (b5.mono hz4)
    have B5 := below_then B4 b5 (Nat.le_refl _)
    have hz5 := Nat.le_trans hz4 b5.size
    clear o4 r4 B4 b5
    go_wp2_with fail
    refine (HIN.out _ B5).mono ?_
    rintro e w6 ⟨v6, rfl, o6, b6⟩
    obtain ⟨A6, c6, e6⟩ := strs_shape o6.see
    subst e6
    have o7 := o5.later b6
    have r6 := r5.below (b6.mono hz5)
    have B6 := below_then B5 b6 (Nat.le_refl _)
    have hz6 := Nat.le_trans hz5 b6.size
    clear o5 r5 B5 b6
    go_wp2_with fail
    refine (eqStrs_any _ _ _ ns ns _ o6.see (r6.more hz6)).mono ?_
    rintro e w7 ⟨rfl, n7, rfl⟩
    rw [eqT_same]
    have b7 : Below w6.heap.size w6 (w6.drewN n7) := below_drewN (Below.refl _ _) _
    have o8 := o7.later b7
    have B7 := below_then B6 b7 (Nat.le_refl _)
    clear o6 o7 r6 B6 b7
    generalize w6.drewN n7 = w7 at *
    go_wp2_with fail
    refine (HH.out _ _ _ o8.see (Nat.le_refl _)).mono ?_
    rintro e w8 ⟨rfl, b8⟩
    go_wp2_with fail
    go_ret
    exact ⟨rfl, below_then B7 b8 (Nat.le_refl _)⟩
  · have h20 : (1048576 : Int) < l.length := by omega
    clear V hm
    go_enter Tryz.func5, Tryz.ntmps5
    go_wp2_with fail
    go_ret
    exact ⟨rfl, Below.refl _ _⟩

end Go.Proofs.YtblnonlcjfcblaaGreatDoor
