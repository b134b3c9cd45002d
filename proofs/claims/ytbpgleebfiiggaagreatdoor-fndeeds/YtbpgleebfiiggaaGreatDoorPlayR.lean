/- Layer 7 (plays): ReadPlay, of the model and of the program; the walk of FnExactReadPlay. Conditions: the listed variables hold what the program's text lays (Vars); internal/bytealg.MaxLen is a number. -/
import Derived.Test.YtbpgleebfiiggaaGreatDoorRdrQ
import Derived.Test.YtbpgleebfiiggaaGreatDoorLowT
import Derived.Test.YtbpgleebfiiggaaGreatDoorCutA
namespace Go.Proofs.YtbpgleebfiiggaaGreatDoor
open Go.RowKit
set_option linter.unusedVariables false

noncomputable def readP (l : Txt) : Option (List Txt) := if l = [] then some [] else if playB (cutT 32 l) = true then some (cutT 32 l) else none
def RdPOut (w : World) (r : Option (List Txt)) (e : Ending) (w' : World) : Prop := ∃ v, e = .returned (.tuple #[v, .bool r.isSome]) ∧ OwnV w' w.heap.size 9 v ((r.getD []).map str) ∧ Below w.heap.size w w'
theorem cut_short (b : UInt8) : ∀ (l : Txt), ∀ x ∈ cutT b l, x.length ≤ l.length
  | [], x, hx => by
    have : x = [] := by simpa [cutT] using hx
    rw [this]
    exact Nat.le_refl _
  | c :: l, x, hx => by
    obtain ⟨y, r, e⟩ := cutT_ne b l
    have ih := cut_short b l
    by_cases h : c = b
    · subst h
      rw [cutT_hit] at hx
      rcases List.mem_cons.1 hx with rfl | hx
      · simp
      · have := ih x hx
        rw [List.length_cons]; omega
    · rw [cutT_miss h e] at hx
      rw [e] at ih
      rcases List.mem_cons.1 hx with rfl | hx
      · have := ih y (by simp)
        rw [List.length_cons, List.length_cons]; omega
      · have := ih x (List.mem_cons_of_mem _ hx)
        rw [List.length_cons]; omega
theorem cut_fits {l : Txt} (hl : l.length ≤ 1048576) : shortS (cutT 32 l) := fun x hx => Nat.le_trans (cut_short 32 l x hx) hl

set_option maxRecDepth 100000 in
set_option maxHeartbeats 2000000 in
theorem sPlayOk_long (B : Nat) (v : Value) (ss : List Txt) (w : World) (h : SeeV w B v (ss.map str)) (hl : 100 < ss.length) (hn : ss.length ≤ 2097152) :
    Calls Tryz.prog 16 #[v] w (BoolLt w false) := by
  obtain ⟨A, c, e⟩ := strs_shape h
  subst e
  clear h
  have hne : ((0 : Int) == (ss.length : Int)) = false := by simp; omega
  have h1 : decide ((0 : Int) < (ss.length : Int)) = true := by simp; omega
  have h2 : decide ((ss.length : Int) ≤ 100) = false := by simp; omega
  go_enter Tryz.func16, Tryz.ntmps16
  go_wp2_with fail
  go_loopw [3] (fun i wr => i = .int .i64 0 ∧ wr = w) (fun _ _ => 0)
  case atStart => exact ⟨rfl, rfl⟩
  case round =>
    obtain ⟨rfl, rfl⟩ := hrel
    go_wp2_with fail
    go_ret
    exact ⟨rfl, Below.refl _ _⟩
theorem sPlay_cut (B : Nat) (v : Value) (l : Txt) (hl : l.length ≤ 1048576) (w : World) (h : SeeV w B v ((cutT 32 l).map str)) (hB : B ≤ w.heap.size) : Calls Tryz.prog 16 #[v] w (BoolLt w (playB (cutT 32 l))) := by
  by_cases hc : 100 < (cutT 32 l).length
  · have := cutT_le 32 l
    rw [play_long hc]
    exact sPlayOk_long B v _ w h hc (by omega)
  · exact sPlayOk_any B v _ w h hB (cut_fits hl) (by omega)

set_option maxHeartbeats 1000000 in
theorem sReadPlay_any (l : Txt) (hl : l.length ≤ 1048576) (w : World) : Calls Tryz.prog 12 #[str l] w (RdPOut w (readP l)) := by
  unfold readP
  by_cases h0 : l = []
  · subst h0
    rw [if_pos rfl]
    have oE := OwnV.empty w w.heap.size 9 (Nat.le_refl _)
    go_enter Tryz.func12, Tryz.ntmps12
    go_wp2_with fail
    go_ret2
    exact ⟨_, rfl, oE, (Below.refl _ _).alloc (Nat.le_refl _) _⟩
  · rw [if_neg h0]
    have e1 : (l == []) = false := by simpa using h0
    have e2 : l.isEmpty = false := by simpa using h0
    have HC := Lib.hid (l1Split_any l hl 32 w)
    have HP := Lib.hid (fun v W B h1 h2 => sPlay_cut B v l hl W h1 h2)
    unfold RowOut at HC
    generalize cutT 32 l = ss at HC HP ⊢
    cases hp : playB ss with
    | false =>
      rw [hp] at HP
      rw [if_neg (by simp)]
      clear hp h0
      go_enter Tryz.func12, Tryz.ntmps12
      go_wp2_with fail
      refine HC.out.mono ?_
      rintro e w1 ⟨v1, rfl, o1, b1⟩
      go_wp2_with fail
      refine (HP.out v1 w1 _ o1.see (Nat.le_refl _)).mono ?_
      rintro e w2 ⟨rfl, b2⟩
      have oE := OwnV.empty w2 w.heap.size 9 (Nat.le_trans b1.size b2.size)
      go_wp2_with fail
      go_ret2
      exact ⟨_, rfl, oE, (below_then b1 b2 (Nat.le_refl _)).alloc (Nat.le_trans b1.size b2.size) _⟩
    | true =>
      rw [hp] at HP
      rw [if_pos rfl]
      clear hp h0
      go_enter Tryz.func12, Tryz.ntmps12
      go_wp2_with fail
      refine HC.out.mono ?_
      rintro e w1 ⟨v1, rfl, o1, b1⟩
      go_wp2_with fail
      refine (HP.out v1 w1 _ o1.see (Nat.le_refl _)).mono ?_
      rintro e w2 ⟨rfl, b2⟩
      have o2 := o1.later b2
      go_wp2_with fail
      go_ret2
      exact ⟨_, rfl, o2, below_then b1 b2 (Nat.le_refl _)⟩

set_option maxRecDepth 100000 in
set_option maxHeartbeats 1000000 in
theorem iPlayOk_long (B : Nat) (v : Value) (ss : List Txt) (w : World) (h : SeeV w B v (ss.map str)) (hl : 100 < ss.length) (hn : ss.length ≤ 2097152) :
    Calls Tryz.prog 15 #[v] w (BoolLt w false) := by
  obtain ⟨A, c, e⟩ := strs_shape h
  subst e
  clear h
  have HC : Hid (Calls Tryz.prog 54 #[.slice A ss.length c] w fun e w' => e = .returned (.tuple #[.agg rd0, .bool false]) ∧ Below w.heap.size w w') := Lib.hid (by
    go_enter Tryz.func54, Tryz.ntmps54
    go_wp2_with fail
    exact bodyPost_ret (v := .tuple #[.agg rd0, .bool false]) (by simp [results, Tryz.results54, go_sem]) rfl ⟨rfl, ((Below.refl _ w).alloc (Nat.le_refl _) _).alloc (by simp) _⟩)
  go_enter Tryz.func15, Tryz.ntmps15
  go_wp2_with fail
  refine HC.out.mono ?_
  rintro e w1 ⟨rfl, b1⟩
  go_wp2_with fail
  go_ret
  exact ⟨rfl, b1.alloc b1.size _⟩

/-- What SplitN hands back: the pieces, or one more than a play may have. -/
theorem split_any (l : Txt) (hl : l.length ≤ 1048576) (m : Int) (w : World) (hm : w.cell? ⟨1, 0, none⟩ = some (.int .i64 m)) :
    ∃ q : List Txt, (100 < (cutT 32 l).length ∧ 100 < q.length ∧ q.length ≤ 101 ∨ q = cutT 32 l ∧ (cutT 32 l).length ≤ 100) ∧
      Calls Tryz.prog 52 #[str l, str [32], .int .i64 101] w fun e w' => ∃ c, e = .returned (.slice (some ⟨w.heap.size, 0, none⟩) q.length c) ∧ OwnV w' w.heap.size 9 (.slice (some ⟨w.heap.size, 0, none⟩) q.length c) (q.map str) ∧ Below w.heap.size w w' := by
  have hsp := Tryz.strings_SplitN ⟨l.toArray⟩ ⟨#[32]⟩ 101 m w (by show l.toArray.size < _; simp; omega) hm (by decide) (by decide) (by decide)
  rw [show (⟨l.toArray⟩ : ByteArray).size = l.length from by simp [ByteArray.size]] at hsp
  have hD : (Lib.splitB ⟨#[32]⟩ 0 (min 101 (l.length + 1) - 1) ⟨l.toArray⟩).map (·.data.toList) = Lib.splitK [32] 0 (min 101 (l.length + 1) - 1) l := by rw [Lib.splitB_data]
  generalize Lib.splitB ⟨#[32]⟩ 0 (min 101 (l.length + 1) - 1) ⟨l.toArray⟩ = bs at hsp hD
  have hcl := cutT_le 32 l
  have hq : 100 < (cutT 32 l).length ∧ 100 < (Lib.splitK [32] 0 (min 101 (l.length + 1) - 1) l).length ∧ (Lib.splitK [32] 0 (min 101 (l.length + 1) - 1) l).length ≤ 101 ∨ Lib.splitK [32] 0 (min 101 (l.length + 1) - 1) l = cutT 32 l ∧ (cutT 32 l).length ≤ 100 := by
    rcases Nat.lt_or_ge (min 101 (l.length + 1) - 1 + 1) (cutT 32 l).length with h2 | h2
    · rw [splitK_long 32 l _ h2]; omega
    · rw [splitK_all 32 l _ h2]
      by_cases h : (cutT 32 l).length ≤ 100
      · exact .inr ⟨rfl, h⟩
      · exact .inl ⟨by omega, by omega, by omega⟩
  have hcap : (Lib.splitK [32] 0 (min 101 (l.length + 1) - 1) l).length ≤ min 101 (l.length + 1) := by
    rcases Nat.lt_or_ge (min 101 (l.length + 1) - 1 + 1) (cutT 32 l).length with h2 | h2
    · rw [splitK_long 32 l _ h2]; omega
    · rw [splitK_all 32 l _ h2]; omega
  rw [← hD] at hq hcap
  refine ⟨bs.map (·.data.toList), hq, ?_⟩
  rw [List.length_map] at hcap ⊢
  refine Calls.mono (show Calls Tryz.prog 52 #[str l, str [32], .int .i64 101] w _ from hsp) ?_
  rintro e w' ⟨rfl, rfl⟩
  refine ⟨_, rfl, ?_, (Below.refl _ _).alloc (Nat.le_refl _) _⟩
  have hcm : min 101 (l.length + 1) ≤ 101 := by omega
  generalize min 101 (l.length + 1) = cap at hcap hsp hD hq hcm ⊢
  refine ⟨by simp, .inr ⟨w.heap.size, cap, Lib.cellsOf bs cap, by simp, Nat.le_refl _, heap_alloc_new _ _, by simpa using hcap, ?_, ?_, ?_⟩⟩
  · unfold maxLen; omega
  · unfold Lib.cellsOf; simp; omega
  · unfold Lib.cellsOf
    rw [Nat.mul_one, List.length_map, List.length_map]
    simp

set_option maxHeartbeats 1000000 in
theorem iReadPlay_any (l : Txt) (hl : l.length ≤ 1048576) (m : Int) (w : World) (V : Vars w) (hm : w.cell? ⟨1, 0, none⟩ = some (.int .i64 m)) : Calls Tryz.prog 11 #[str l] w (RdPOut w (readP l)) := by
  unfold readP
  by_cases h0 : l = []
  · subst h0
    rw [if_pos rfl]
    have oE := OwnV.empty w w.heap.size 9 (Nat.le_refl _)
    clear V hm
    go_enter Tryz.func11, Tryz.ntmps11
    go_wp2_with fail
    go_ret2
    exact ⟨_, rfl, oE, (Below.refl _ _).alloc (Nat.le_refl _) _⟩
  · rw [if_neg h0]
    have e1 : (l == []) = false := by simpa using h0
    have e2 : l.isEmpty = false := by simpa using h0
    obtain ⟨q, hq, hC⟩ := split_any l hl m w hm
    have HC := Lib.hid hC
    have HP : Hid (∀ v W B, Below w.heap.size w W → SeeV W B v (q.map str) → B ≤ W.heap.size → Calls Tryz.prog 15 #[v] W (BoolLt W (playB (cutT 32 l)))) := Lib.hid (fun v W B b h1 h2 => by
      rcases hq with ⟨h3, h4, h5⟩ | ⟨rfl, h3⟩
      · rw [play_long h3]
        exact iPlayOk_long B v q W h1 h4 (by omega)
      · exact iPlayOk_any B v _ W (V.below b) h1 h2 (cut_fits hl) (by omega))
    have HQ : Hid (playB (cutT 32 l) = true → q = cutT 32 l) := Lib.hid (fun h => by
      rcases hq with ⟨h3, h4, h5⟩ | ⟨h, _⟩
      · rw [play_long h3] at h; cases h
      · exact h)
    have hql : q.length ≤ 101 := by
      rcases hq with ⟨h3, h4, h5⟩ | ⟨rfl, h3⟩ <;> omega
    clear hC hq V hm
    generalize cutT 32 l = ss at HP HQ ⊢
    cases hp : playB ss with
    | false =>
      rw [hp] at HP
      rw [if_neg (by simp)]
      clear hp h0 HQ
      go_enter Tryz.func11, Tryz.ntmps11
      go_wp2_with fail
      refine HC.out.mono ?_
      rintro e w1 ⟨c1, rfl, o1, b1⟩
      go_wp2_with fail
      refine (HP.out _ w1 _ b1 o1.see (Nat.le_refl _)).mono ?_
      rintro e w2 ⟨rfl, b2⟩
      have oE := OwnV.empty w2 w.heap.size 9 (Nat.le_trans b1.size b2.size)
      go_wp2_with fail
      go_ret2
      exact ⟨_, rfl, oE, (below_then b1 b2 (Nat.le_refl _)).alloc (Nat.le_trans b1.size b2.size) _⟩
    | true =>
      obtain rfl := HQ.out hp
      rw [hp] at HP
      rw [if_pos rfl]
      clear hp h0 HQ
      go_enter Tryz.func11, Tryz.ntmps11
      go_wp2_with fail
      refine HC.out.mono ?_
      rintro e w1 ⟨c1, rfl, o1, b1⟩
      go_wp2_with fail
      refine (HP.out _ w1 _ b1 o1.see (Nat.le_refl _)).mono ?_
      rintro e w2 ⟨rfl, b2⟩
      have o2 := o1.later b2
      go_wp2_with fail
      go_ret2
      exact ⟨_, rfl, o2, below_then b1 b2 (Nat.le_refl _)⟩
theorem read_fits {l : Txt} (hl : l.length ≤ 1048576) : ((readP l).getD []).length ≤ 1048576 := by
  unfold readP
  by_cases h0 : l = []
  · rw [if_pos h0]; simp
  · rw [if_neg h0]
    cases hp : playB (cutT 32 l) with
    | false => simp
    | true =>
      have := (play_open hp).1
      rw [if_pos rfl]
      simp
      omega

end Go.Proofs.YtbpgleebfiiggaaGreatDoor
