/- Layer 9 (the player): fill: a box set, or put in where it belongs. No conditions but those typed. -/
import Derived.Test.YtpmdfogncoapjaaGreatDoorPlyC
namespace Go.Proofs.YtpmdfogncoapjaaGreatDoor
open Go.RowKit
set_option linter.unusedVariables false

theorem set_is {bs : List Bx} {n : List UInt8} {v : Int} (h : isS bs n = true) : ∃ k b, placeS bs n = k ∧ bs[k]? = some b ∧ b.1 = n ∧ k < bs.length ∧ setS bs n v = (bs.set k (n, v), true) := by
  unfold isS at h
  split at h
  · rename_i b hb
    have hn : b.1 = n := by simpa using h
    refine ⟨_, b, rfl, hb, hn, (List.getElem?_eq_some_iff.1 hb).1, ?_⟩
    unfold setS
    rw [hb]
    simp only [if_pos hn]
  · cases h
theorem set_no {bs : List Bx} {n : List UInt8} {v : Int} (h : isS bs n = false) : setS bs n v = if bs.length = 12 then (bs, false) else (insS bs (placeS bs n) (n, v), true) := by
  unfold isS at h
  unfold setS insS
  split at h
  · rename_i b hb
    have hn : ¬ b.1 = n := by simpa using h
    rw [hb]
    simp only [if_neg hn]
  · rename_i hb
    rw [hb]
    have hk : bs.length ≤ placeS bs n := by simpa using hb
    rw [List.take_of_length_le hk, List.drop_of_length_le hk, List.append_nil]

/-- The boxes behind a store into one of them. -/
theorem OwnC.setb {w : World} {B g n c k : Nat} {u1 u3 : Value} {zs : List Int} {bs : List Bx} {rs : List Int} (h : OwnC w B u1 (.slice (some ⟨g, 0, none⟩) n c) u3 zs bs rs) (hk : k < bs.length) (x : Int) :
    OwnC (w.setCell ⟨g, k * 2 + 1, none⟩ (.int .i64 x)) B u1 (.slice (some ⟨g, 0, none⟩) n c) u3 zs (bs.set k (bs[k].1, x)) rs := by
  have hon : Only (fun j => j = g) w (w.setCell ⟨g, k * 2 + 1, none⟩ (.int .i64 x)) := ⟨rfl, rfl, rfl, by simp [World.setCell], fun i _ hi => Below.heap_setCell _ _ _ _ hi⟩
  exact ⟨own_only h.o1 hon (fun j hj e => h.a12 j hj (by rw [e]; rfl)), h.o2.setV hk x, own_only h.o3 hon (fun j hj e => h.a23 j (by rw [e]; rfl) hj), h.a12, h.a13, h.a23⟩

def FlOut (B N : Nat) (vs : Value) (r : List Bx × Bool) (x y gt t : Int) (b : Bool) (zs rs : List Int) (w : World) (e : Ending) (w' : World) : Prop :=
  if r.2 = true then TkOut B N vs 0 ⟨⟨x, zs, r.1, rs, y⟩, b, gt, t⟩ w e w' else e = .returned (.int .i64 4) ∧ Below B w w'

set_option maxHeartbeats 4000000 in
set_option maxRecDepth 100000 in
theorem fill_any (B N : Nat) (x y gt t : Int) (b : Bool) (vs u1 u2 u3 : Value) (zs : List Int) (bs : List Bx) (rs : List Int) (n : List UInt8) (v : Int) (w : World) (h : Pl w B N ⟨⟨x, zs, bs, rs, y⟩, b, gt, t⟩ vs u1 u2 u3) (hr : Rise bs) (hl : bs.length ≤ 12) :
    Calls Tryz.prog 163 #[.pointer (some ⟨N, 0, none⟩), str n, .int .i64 v] w (FlOut B N vs (setS bs n v) x y gt t b zs rs w) := by
  have hN := h.lt
  have hO := h.own
  dsimp only at hO
  have hB := h.hB
  have HBw := Lib.hid (show B ≤ w.heap.size by omega)
  obtain ⟨p0, p1, p2, p3, p4, p5, p6, p7, p8⟩ := cells9 h.blk
  dsimp only at p0 p1 p2 p3 p4 p5 p6 p7 p8
  have HP := Lib.hid h
  clear h
  have HS := Lib.hid (search_any w.heap.size u2 bs n w hO.o2.see (Nat.le_refl _) hr hl)
  obtain ⟨A, c2, e2⟩ := hO.o2.see.shape
  subst e2
  clear hO hr
  cases his : isS bs n
  · have HX := Lib.hid (set_no (v := v) his)
    have hk := place_le bs n
    rw [his] at HS
    clear his
    generalize placeS bs n = k at *
    by_cases h12 : bs.length = 12
    · rw [HX.out, if_pos h12]
      have h12' : ((bs.length : Int) == 12) = true := by simp; omega
      have HH := Lib.hid h12
      clear h12
      go_enter Tryz.func163, Tryz.ntmps163
      go_wp2_with fail
      refine HS.out.mono ?_
      rintro e w2 ⟨rfl, b2⟩
      obtain ⟨r0, r1, r2, r3, r4, r5, r6, r7, r8⟩ := cells9 (HP.out.later b2).blk
      dsimp only at r0 r1 r2 r3 r4 r5 r6 r7 r8
      clear p0 p1 p2 p3 p4 p5 p6 p7 p8
      go_wp2_with fail
      go_ret
      exact ⟨rfl, b2.mono HBw.out⟩
    · rw [HX.out, if_neg h12]
      have h12' : ((bs.length : Int) == 12) = false := by simp; omega
      have hlt : bs.length < 12 := by omega
      clear h12
      go_enter Tryz.func163, Tryz.ntmps163
      go_wp2_with fail
      refine HS.out.mono ?_
      rintro e w2 ⟨rfl, b2⟩
      have HP2 := Lib.hid (HP.out.later b2)
      obtain ⟨r0, r1, r2, r3, r4, r5, r6, r7, r8⟩ := cells9 HP2.out.blk
      dsimp only at r0 r1 r2 r3 r4 r5 r6 r7 r8
      clear p0 p1 p2 p3 p4 p5 p6 p7 p8
      have bA := below_new w2 (.cells #[str n, .int .i64 v] 92)
      have HA := Lib.hid (HP2.out.later bA)
      have HI := Lib.hid (insert_any B w2.heap.size k (.slice A bs.length c2) bs n v (w2.alloc (.cells #[str n, .int .i64 v] 92)) HA.out.own.o2 (by have := b2.size; have := HBw.out; simp; omega) hlt hk (heap_alloc_new _ _) (fun q => by have := (OwnN.lt HP2.out.own.o2 _ q).2; omega))
      have HBA := Lib.hid (show Below B w (w2.alloc (.cells #[str n, .int .i64 v] 92)) from below_then (b2.mono HBw.out) bA HBw.out)
      clear bA
      go_wp2_with fail
      generalize w2.alloc _ = W at *
      refine HI.out.mono ?_
      rintro e w3 ⟨g', c', rfl, o3, gr, hat⟩
      have hN3 : ¬ some N = (Value.slice A bs.length c2).ownBlock := fun q => HP.out.no (.inr (.inl q.symm))
      have hrow := (gr.block N HA.out.lt hN3).trans HA.out.blk
      dsimp only at hrow
      have HRW := Lib.hid hrow
      obtain ⟨q0, q1, q2, q3, q4, q5, q6, q7, q8⟩ := cells9 hrow
      have hfz := frozen_row (k := 2) hrow
      clear r0 r1 r2 r3 r4 r5 r6 r7 r8 hrow hN3
      have HO := Lib.hid (HA.out.own.boxes9 o3 gr hat)
      have HB3 := Lib.hid (HBA.out.grown gr (by have := HA.out.lt; have := HA.out.hB; omega) (fun j e => (OwnN.lt HA.out.own.o2 j e).1))
      have HNO := Lib.hid (show ¬ rowsC u1 (.slice (some ⟨g', 0, none⟩) (insS bs k (n, v)).length c') u3 N from fun q => by
        rcases q with q | q | q
        · exact HA.out.no (.inl q)
        · simp [Value.ownBlock] at q
          subst q
          rcases hat with a | a
          · exact HA.out.no (.inr (.inl a))
          · have := HA.out.lt; omega
        · exact HA.out.no (.inr (.inr q)))
      clear o3 gr hat
      go_wp2_with fail
      go_ret
      exact ⟨rfl, HB3.out.setCell hB _, _, _, _, by rw [heap_set HRW.out]; simp, HO.out.set HNO.out _, hB, HNO.out⟩
  · obtain ⟨k, bx, hp, hb, hn, hk, hset⟩ := set_is (v := v) his
    rw [his, hp] at HS
    clear his hp
    rw [hset]
    clear hset
    obtain ⟨g, o, e, -, h0, h1⟩ := HP.out.own.o2.see.at_ hb
    subst e
    have hg0 : o = 0 := by
      rcases HP.out.own.o2.1.2 with ⟨q, _⟩ | ⟨g2, c3, cur, q, _⟩
      · cases q
      · injection q with q
        injection q with q
        injection q
    subst hg0
    rw [Nat.zero_add] at h0 h1
    go_enter Tryz.func163, Tryz.ntmps163
    go_wp2_with fail
    refine HS.out.mono ?_
    rintro e w2 ⟨rfl, b2⟩
    have HP2 := Lib.hid (HP.out.later b2)
    obtain ⟨r0, r1, r2, r3, r4, r5, r6, r7, r8⟩ := cells9 HP2.out.blk
    dsimp only at r0 r1 r2 r3 r4 r5 r6 r7 r8
    have hgl : g < w.heap.size := (OwnN.lt HP.out.own.o2 g rfl).2
    have h1' := (World.cell?_of_block (a := ⟨g, k * 2 + 1, none⟩) (b2.block g hgl)).trans h1
    have hfz : w2.frozen? ⟨g, k * 2 + 1, none⟩ = false := by
      rcases HP2.out.own.o2.1.2 with ⟨q, _⟩ | ⟨g2, c3, cur, q, _, hbl, _⟩
      · cases q
      · injection q with q
        injection q with q
        injection q with q
        subst q
        exact frozen_row hbl
    have HGN := Lib.hid (show ¬ N = g from fun e => HP.out.no (.inr (.inl (by rw [e]; rfl))))
    have HST := Lib.hid (HP2.out.own.setb (k := k) hk v)
    have HBN := Lib.hid (show bs.set k (n, v) = bs.set k (bs[k].1, v) by
      have := List.getElem?_eq_getElem hk
      rw [this] at hb; injection hb with hb; rw [hb, hn])
    have HGB := Lib.hid (show B ≤ g from (OwnN.lt HP.out.own.o2 g rfl).1)
    clear p0 p1 p2 p3 p4 p5 p6 p7 p8 h0 h1 hb hn
    go_wp2_with fail
    go_ret
    refine ⟨rfl, (b2.mono HBw.out).setCell HGB.out _, u1, _, u3, ?_, ?_, hB, HP2.out.no⟩
    · rw [Below.heap_setCell _ _ _ _ HGN.out]; exact HP2.out.blk
    · show OwnC _ B u1 _ u3 zs (bs.set k (n, v)) rs
      rw [HBN.out]
      exact HST.out

end Go.Proofs.YtpmdfogncoapjaaGreatDoor
