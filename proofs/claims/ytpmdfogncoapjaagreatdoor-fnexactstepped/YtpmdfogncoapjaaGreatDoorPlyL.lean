/- Layer 9 (the player): the program's Stepped, whole; how long what it answers is; what the law's walk carries along. Condition of Stepped: the listed variable impl.opForms holds what the program's text lays (Forms). -/
import Derived.Test.YtpmdfogncoapjaaGreatDoorPlyK
import Derived.Test.YtpmdfogncoapjaaGreatDoorStepH
import Derived.Test.YtpmdfogncoapjaaGreatDoorSlotA
import Derived.Test.YtpmdfogncoapjaaGreatDoorOpT
namespace Go.Proofs.YtpmdfogncoapjaaGreatDoor
open Go.RowKit
set_option linter.unusedVariables false

theorem do_end {c : Cr} {o : Opv} {ss : List (List Int)} (h0 : c.cd = 0) (h : ¬ (doS c o ss).c.cd = 0) : doS c o ss = endS c (doS c o ss).c.cd := by
  unfold doS at h ⊢
  repeat' split at h
  all_goals first
    | (exfalso; exact h (by first | exact h0 | simp [onS, h0]))
    | (simp_all [endS]; done)
    | skip
  all_goals (repeat' split <;> simp_all [endS])
theorem ran_end {c : Cr} {o : Opv} {ss : List (List Int)} {st : St} (h0 : c.cd = 0) (hst : (if badS c o ss = true then endS c 4 else doS c o ss) = st) (h : ¬ st.c.cd = 0) : st = endS c st.c.cd := by
  subst hst
  split
  · rfl
  · rename_i hb
    rw [if_neg hb] at h
    exact do_end h0 h

set_option maxHeartbeats 1000000 in
theorem iStepped_any (B : Nat) (x y : Int) (v1 v2 v3 vo vs : Value) (zs : List Int) (bs : List Bx) (rs : List Int) (os : List Opv) (ss : List (List Int)) (w : World) (s1 : SeeI w B v1 zs) (s2 : SeeBx w B v2 bs) (s3 : SeeI w B v3 rs) (so : SeeOp w B vo os) (sv : SeeSS w B vs ss) (hB : B ≤ w.heap.size)
    (n1 : nilOk v1) (n2 : nilOk v2) (n3 : nilOk v3) (hS : shortB bs) (hO : shortOp os) (FW : Forms w) :
    Calls Tryz.prog 8 #[.agg #[.int .i64 x, v1, v2, v3, .int .i64 y], vo, vs] w (SteppedOut (steppedS ⟨x, zs, bs, rs, y⟩ os ss) w) := by
  unfold steppedS crB
  cases hC : coreB x zs bs rs y
  · rw [if_pos rfl]
    exact iStepped_wrong B x y v1 v2 v3 vo vs zs bs rs os ss w s1 s2 s3 so sv hB n1 n2 n3 hS hO FW hC
  rw [if_neg (by simp)]
  by_cases hy : y = 0
  · subst hy
    cases hco : codeB os
    · rw [if_pos ⟨rfl, by simp⟩]
      exact iStepped_code B x v1 v2 v3 vo vs zs bs rs os ss w s1 s2 s3 so sv hB n1 n2 n3 hS hO FW hC hco
    cases hso : slotsB ss
    · rw [if_pos ⟨rfl, by simp⟩]
      exact iStepped_slots B x v1 v2 v3 vo vs zs bs rs os ss w s1 s2 s3 so sv hB n1 n2 n3 hS hO FW hC hco hso
    rw [if_neg (by simp)]
    unfold stepS
    rw [if_neg (by simp)]
    have hx := (coreB_right hC).x0
    obtain ⟨xn, rfl⟩ : ∃ xn : Nat, x = xn := ⟨x.toNat, by omega⟩
    cases ho : os[xn]? with
    | none =>
      have hl : os.length ≤ xn := by simpa using ho
      have e : os[(⟨(xn : Int), zs, bs, rs, 0⟩ : Cr).pl.toNat]? = none := ho
      simp only [e]
      exact iStepped_gone B xn v1 v2 v3 vo vs zs bs rs os ss w s1 s2 s3 so sv hB n1 n2 n3 hS hO FW hC hco hso (by omega)
    | some o =>
      have e : os[(⟨(xn : Int), zs, bs, rs, 0⟩ : Cr).pl.toNat]? = some o := ho
      simp only [e]
      generalize hst : (if badS ⟨xn, zs, bs, rs, 0⟩ o ss = true then endS ⟨xn, zs, bs, rs, 0⟩ 4 else doS ⟨xn, zs, bs, rs, 0⟩ o ss) = st
      by_cases hcd : st.c.cd = 0
      · exact iStepped_on B xn v1 v2 v3 vo vs zs bs rs os ss w s1 s2 s3 so sv hB n1 n2 n3 hS hO FW o st hC hco hso ho hst hcd
      · have := iStepped_end B xn v1 v2 v3 vo vs zs bs rs os ss w s1 s2 s3 so sv hB n1 n2 n3 hS hO FW o st hC hco hso ho hst hcd
        rwa [← ran_end rfl hst hcd] at this
  · rw [if_neg (fun q => hy q.1)]
    unfold stepS
    rw [if_pos hy]
    exact iStepped_off B x y v1 v2 v3 vo vs zs bs rs os ss w s1 s2 s3 so sv hB n1 n2 n3 hS hO FW hC hy

theorem set_len {bs : List Bx} {n : List UInt8} {x : Int} : (setS bs n x).1.length ≤ bs.length + 1 := by
  unfold setS
  split
  · split
    · simp
    · split
      · simp
      · simp; omega
  · split <;> simp
/-- What a step answers is hardly longer than what it was given. -/
theorem stepped_len (c : Cr) (os : List Opv) (ss : List (List Int)) : (steppedS c os ss).c.pile.length ≤ c.pile.length + 1 ∧ (steppedS c os ss).c.bxs.length ≤ c.bxs.length + 1 ∧ (steppedS c os ss).c.rds.length ≤ c.rds.length := by
  have hend : ∀ k, (endS c k).c.pile.length ≤ c.pile.length + 1 ∧ (endS c k).c.bxs.length ≤ c.bxs.length + 1 ∧ (endS c k).c.rds.length ≤ c.rds.length := fun k => ⟨Nat.le_succ _, Nat.le_succ _, Nat.le_refl _⟩
  have hdo : ∀ o, (doS c o ss).c.pile.length ≤ c.pile.length + 1 ∧ (doS c o ss).c.bxs.length ≤ c.bxs.length + 1 ∧ (doS c o ss).c.rds.length ≤ c.rds.length := fun o => by
    have hs := fun n x => set_len (bs := c.bxs) (n := n) (x := x)
    unfold doS
    repeat' split
    all_goals first
      | exact hend _
      | (refine ⟨?_, ?_, ?_⟩ <;> simp [onS, cutS] <;> first | exact hs _ _ | omega | skip)
  unfold steppedS
  split
  · exact ⟨by simp, by simp, by simp⟩
  · split
    · exact hend _
    · unfold stepS
      split
      · exact ⟨Nat.le_succ _, Nat.le_succ _, Nat.le_refl _⟩
      · split
        · exact hend _
        · split
          · exact hend _
          · exact hdo _

theorem szL_sum {ls : List Nat} {left : Int} (h0 : 0 ≤ left) : szL left ls = -1 ∨ (0 ≤ szL left ls ∧ szL left ls + ls.length ≤ left ∧ ∀ n ∈ ls, (n : Int) ≤ left) := by
  unfold szL
  by_cases q : left < ls.length
  · rw [if_pos q]; exact .inl rfl
  · rw [if_neg q]
    rcases szGo_fits (ls := ls) (left := left - ls.length) (by omega) with e | ⟨e1, e2, e3⟩
    · exact .inl e
    · exact .inr ⟨e1, by omega, fun n hn => by have := e3 n hn; omega⟩
theorem szC_sum {left : Int} {zs : List Int} {bs : List Bx} {rs : List Int} (h0 : 0 ≤ left) (h1 : left ≤ 1048576) : szC left zs bs rs = -1 ∨
    (0 ≤ szC left zs bs rs ∧ szC left zs bs rs + zs.length + bs.length + rs.length ≤ left ∧ shortB bs) := by
  rcases szC_fits (left := left) (zs := zs) (bs := bs) (rs := rs) h0 h1 with h | ⟨h, -, -, -, -, hs⟩
  · exact .inl h
  · refine .inr ⟨h, ?_, hs⟩
    unfold szC at h ⊢
    unfold szB at h ⊢
    have hl : (nmLens bs).length = bs.length := by simp [nmLens]
    by_cases q1 : left < (zs.length : Int)
    · simp [q1] at h
    · simp only [if_neg q1] at h ⊢
      have q2 : ¬ (left - (zs.length : Int) < 0) := by omega
      rw [if_neg q2] at h ⊢
      rcases szL_sum (ls := nmLens bs) (left := left - zs.length) (by omega) with e | ⟨e1, e2, -⟩
      · rw [e] at h; simp at h
      · rw [if_neg (by omega)] at h ⊢
        by_cases q3 : szL (left - (zs.length : Int)) (nmLens bs) < (rs.length : Int)
        · rw [if_pos q3] at h; omega
        · rw [if_neg q3]; omega
theorem nSS_bound {ss : List (List Int)} (h : ∀ s ∈ ss, s.length ≤ 1048576) : nSS ss ≤ ss.length * 1048576 := by
  unfold nSS
  have : ∀ (l : List (List Int)) (a : Nat), (∀ s ∈ l, s.length ≤ 1048576) → (l.map List.length).foldl (· + ·) a ≤ a + l.length * 1048576 := fun l => by
    induction l with
    | nil => intro a _; simp
    | cons x r ih =>
      intro a hl
      rw [List.map_cons, List.foldl_cons, List.length_cons]
      have h1 := ih (a + x.length) (fun s hs => hl s (List.mem_cons_of_mem _ hs))
      have h2 := hl x (List.mem_cons_self ..)
      omega
  have := this ss 0 h
  omega

end Go.Proofs.YtpmdfogncoapjaaGreatDoor
