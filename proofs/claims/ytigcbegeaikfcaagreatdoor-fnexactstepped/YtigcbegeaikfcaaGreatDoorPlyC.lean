/- Layer 9 (the player): the program's player in its block; put, take, and what needs no more than these. No conditions but those typed. Layer 9 (the player): fill: a box set, or put in where it belongs. No conditions but those typed. Layer 9 (the player): the player's methods, one for each kind of op. No conditions but those typed. Layer 9 (the player): the player's methods of a box and of a gate: set, in, out. No conditions but those typed. -/
import Derived.Test.YtigcbegeaikfcaaGreatDoorCoreX
import Derived.Test.YtigcbegeaikfcaaGreatDoorPlyA
import Derived.Deep.RegionWith
import Derived.BigQuiet
namespace Go.Proofs.YtigcbegeaikfcaaGreatDoor
open Go.RowKit
set_option linter.unusedVariables false

theorem cells9 {w : World} {g : Nat} {a b c d e f h i j : Value} {T : TypeId} (r : w.heap[g]? = some (.cells #[a, b, c, d, e, f, h, i, j] T (0, 0))) :
    w.cell? ⟨g, 0, none⟩ = some a ∧ w.cell? ⟨g, 1, none⟩ = some b ∧ w.cell? ⟨g, 2, none⟩ = some c ∧ w.cell? ⟨g, 3, none⟩ = some d ∧ w.cell? ⟨g, 4, none⟩ = some e ∧ w.cell? ⟨g, 5, none⟩ = some f ∧ w.cell? ⟨g, 6, none⟩ = some h ∧ w.cell? ⟨g, 7, none⟩ = some i ∧ w.cell? ⟨g, 8, none⟩ = some j :=
  ⟨by rw [cell_of_row _ _ 0 _ _ (0, 0) r]; rfl, by rw [cell_of_row _ _ 1 _ _ (0, 0) r]; rfl, by rw [cell_of_row _ _ 2 _ _ (0, 0) r]; rfl, by rw [cell_of_row _ _ 3 _ _ (0, 0) r]; rfl, by rw [cell_of_row _ _ 4 _ _ (0, 0) r]; rfl,
   by rw [cell_of_row _ _ 5 _ _ (0, 0) r]; rfl, by rw [cell_of_row _ _ 6 _ _ (0, 0) r]; rfl, by rw [cell_of_row _ _ 7 _ _ (0, 0) r]; rfl, by rw [cell_of_row _ _ 8 _ _ (0, 0) r]; rfl⟩

/-- A player: a step and slots, in one block; its core's rows are nobody else's. -/
structure Pl (w : World) (B N : Nat) (st : St) (vs u1 u2 u3 : Value) : Prop where
  blk : w.heap[N]? = some (.cells #[.int .i64 st.c.pl, u1, u2, u3, .int .i64 st.c.cd, .bool st.says, .int .i64 st.gate, .int .i64 st.val, vs] 81 (0, 0))
  own : OwnC w B u1 u2 u3 st.c.pile st.c.bxs st.c.rds
  hB : B ≤ N
  no : ¬ rowsC u1 u2 u3 N
theorem Pl.lt {w : World} {B N : Nat} {st : St} {vs u1 u2 u3 : Value} (h : Pl w B N st vs u1 u2 u3) : N < w.heap.size := heap_lt h.blk
theorem Pl.later {w w' : World} {B N : Nat} {st : St} {vs u1 u2 u3 : Value} (h : Pl w B N st vs u1 u2 u3) (b : Below w.heap.size w w') : Pl w' B N st vs u1 u2 u3 := ⟨row_later h.blk b, h.own.later b, h.hB, h.no⟩
theorem Pl.drewN {w : World} {B N : Nat} {st : St} {vs u1 u2 u3 : Value} (h : Pl w B N st vs u1 u2 u3) (k : Nat) : Pl (w.drewN k) B N st vs u1 u2 u3 := ⟨h.blk, h.own.drewN k, h.hB, h.no⟩

/-- What a player's method hands back: a code; where that is none, the player goes on. -/
def PlOut (B N : Nat) (vs : Value) (st : St) (w : World) (e : Ending) (w' : World) : Prop := e = .returned (.int .i64 st.c.cd) ∧ Below B w w' ∧ (st.c.cd = 0 → ∃ u1 u2 u3, Pl w' B N st vs u1 u2 u3)
/-- A word, and the player as it is behind that. -/
def TkOut (B N : Nat) (vs : Value) (r : Int) (st : St) (w : World) (e : Ending) (w' : World) : Prop := e = .returned (.int .i64 r) ∧ Below B w w' ∧ ∃ u1 u2 u3, Pl w' B N st vs u1 u2 u3

theorem OwnC.push9 {W w1 : World} {B : Nat} {u1 v' u2 u3 : Value} {zs : List Int} {bs : List Bx} {rs : List Int} {m : Int} (h : OwnC W B u1 u2 u3 zs bs rs)
    (own : w1.ownsRow B 2 1 v' (zs.length + 1) (zs.map (Value.int .i64) ++ [.int .i64 m])) (gr : W.grownBy w1 u1.ownBlock) (hat : v'.ownBlock = u1.ownBlock ∨ v'.ownBlock = some W.heap.size) : OwnC w1 B v' u2 u3 (zs ++ [m]) bs rs := by
  have hon : Only (fun k => u1.ownBlock = some k) W w1 := Only.of_grown gr (fun k e => e)
  have hb2 := OwnN.lt h.o2
  have hb3 := h.o3.lt
  have o2 := OwnBx.of_row0 (own_only h.o2.row0 hon (fun k hk e => h.a12 k e hk))
  have o3 : OwnI w1 B 2 u3 rs := own_only h.o3 hon (fun k hk e => h.a13 k e hk)
  refine ⟨by unfold OwnI; rw [List.map_append, List.length_append]; exact own, o2, o3, fun k a b => ?_, fun k a b => ?_, h.a23⟩
  · rcases hat with q | q
    · exact h.a12 k (q ▸ a) b
    · rw [q] at a; injection a with a; have := (hb2 k b).2; omega
  · rcases hat with q | q
    · exact h.a13 k (q ▸ a) b
    · rw [q] at a; injection a with a; have := (hb3 k b).2; omega
theorem OwnC.boxes9 {W w1 : World} {B g' c' n' : Nat} {u1 u2 u3 : Value} {zs : List Int} {bs bs' : List Bx} {rs : List Int} (h : OwnC W B u1 u2 u3 zs bs rs)
    (own : OwnBx w1 B 92 (.slice (some ⟨g', 0, none⟩) n' c') bs') (gr : W.grownBy w1 u2.ownBlock) (hat : u2.ownBlock = some g' ∨ W.heap.size ≤ g') : OwnC w1 B u1 (.slice (some ⟨g', 0, none⟩) n' c') u3 zs bs' rs := by
  have hon : Only (fun k => u2.ownBlock = some k) W w1 := Only.of_grown gr (fun k e => e)
  have h1 := h.o1.lt
  have h3 := h.o3.lt
  refine ⟨own_only h.o1 hon (fun k hk e => h.a12 k hk e), own, own_only h.o3 hon (fun k hk e => h.a23 k e hk), fun k a b => ?_, h.a13, fun k a b => ?_⟩
  · simp [Value.ownBlock] at b
    subst b
    rcases hat with q | q
    · exact h.a12 _ a q
    · have := (h1 _ a).2; omega
  · simp [Value.ownBlock] at a
    subst a
    rcases hat with q | q
    · exact h.a23 _ q b
    · have := (h3 _ b).2; omega

set_option maxHeartbeats 2000000 in
set_option maxRecDepth 100000 in
theorem put_any (B N : Nat) (x y gt t : Int) (b : Bool) (vs u1 u2 u3 : Value) (zs : List Int) (bs : List Bx) (rs : List Int) (m : Int) (w : World) (h : Pl w B N ⟨⟨x, zs, bs, rs, y⟩, b, gt, t⟩ vs u1 u2 u3) (hl : zs.length < 60) :
    Calls Tryz.prog 160 #[.pointer (some ⟨N, 0, none⟩), .int .i64 m] w (TkOut B N vs 0 ⟨⟨x, zs ++ [m], bs, rs, y⟩, b, gt, t⟩ w) := by
  obtain ⟨i0, hi, hz0, hz1, hz2⟩ := info_parts Tryz.infoI64
  have hN := h.lt
  have bA := below_new w (.cells #[.int .i64 m] 2)
  have HA := Lib.hid (h.later bA)
  have hown := HA.out.own.o1
  have hrow := HA.out.blk
  obtain ⟨hB, hno⟩ := (⟨h.hB, h.no⟩ : B ≤ N ∧ ¬ rowsC u1 u2 u3 N)
  have HNO := Lib.hid hno
  have HLT := Lib.hid (fun k q => (h.own.lt k q))
  clear hno
  dsimp only at hown hrow
  obtain ⟨p0, p1, p2, p3, p4, p5, p6, p7, p8⟩ := cells9 h.blk
  dsimp only at p0 p1 p2 p3 p4 p5 p6 p7 p8
  obtain ⟨A, cp, e1⟩ := h.own.o1.see.shape
  dsimp only at e1
  subst e1
  have hl60 : ¬ ((zs.length : Int) = 60) := by omega
  clear h
  go_enter Tryz.func160, Tryz.ntmps160
  go_wp2_with (at_builtin; refine wpList_append_own_at _ rfl _ _ 24 rfl B 2 i0 (.int .i64 0) 1 8 Tryz.underlying24 hi hz0 hz1 hz2 rfl (by decide) _ _ _ rfl hown ⟨w.heap.size, 0, none⟩ 1 1 [.int .i64 m] rfl rfl (cell_one_new _ _ _) (by intro u hu; simp at hu; subst hu; rfl) (by unfold maxLen; omega) (by omega) (by simp; omega) ?_; intro v1 w1 hown1 hgr hnil hat; (obtain ⟨g1, k1, rfl⟩ := own_base hown1 (fun q => by have := (hnil.1 q).2; cases this)); have hrow1 := (hgr.block N (by simp; omega) (fun q => HNO.out (.inl q.symm))).trans hrow; have hfz := frozen_row (k := 1) hrow1; (obtain ⟨r0, r1, r2, r3, r4, r5, r6, r7, r8⟩ := cells9 hrow1))
  go_ret
  have hO := HA.out.own.push9 hown1 hgr hat
  have hno1 : ¬ rowsC (.slice (some ⟨g1, 0, none⟩) (zs.length + 1) k1) u2 u3 N := fun q => by
    rcases q with q | q
    · rcases hat with a | a
      · exact HNO.out (.inl (a ▸ q))
      · rw [a] at q; injection q with q; simp at q; omega
    · exact HNO.out (.inr q)
  exact ⟨rfl, (((bA.mono (by omega)).grown hgr (by simp; omega) (fun k e => (HLT.out k (.inl e)).1))).setCell hB _, _, u2, u3, by rw [heap_set hrow1]; simp, hO.set hno1 _, hB, hno1⟩
set_option maxHeartbeats 2000000 in
set_option maxRecDepth 100000 in
theorem put_full (B N : Nat) (x y gt t : Int) (b : Bool) (vs u1 u2 u3 : Value) (zs : List Int) (bs : List Bx) (rs : List Int) (m : Int) (w : World) (h : Pl w B N ⟨⟨x, zs, bs, rs, y⟩, b, gt, t⟩ vs u1 u2 u3) (hl : zs.length = 60) :
    Calls Tryz.prog 160 #[.pointer (some ⟨N, 0, none⟩), .int .i64 m] w fun e w' => e = .returned (.int .i64 4) ∧ w = w' := by
  obtain ⟨p0, p1, p2, p3, p4, p5, p6, p7, p8⟩ := cells9 h.blk
  dsimp only at p0 p1 p2 p3 p4 p5 p6 p7 p8
  obtain ⟨A, cp, e1⟩ := h.own.o1.see.shape
  dsimp only at e1
  rw [hl] at e1
  subst e1
  clear h
  go_enter Tryz.func160, Tryz.ntmps160
  go_wp2_with fail
  go_ret
  exact ⟨rfl, rfl⟩

set_option maxHeartbeats 2000000 in
set_option maxRecDepth 100000 in
theorem take_any (B N n : Nat) (x y gt t : Int) (b : Bool) (vs u1 u2 u3 : Value) (zs : List Int) (bs : List Bx) (rs : List Int) (w : World) (h : Pl w B N ⟨⟨x, zs, bs, rs, y⟩, b, gt, t⟩ vs u1 u2 u3) (hn : zs.length = n + 1) (hl : n < 60) :
    Calls Tryz.prog 161 #[.pointer (some ⟨N, 0, none⟩)] w (fun e w' => TkOut B N vs (topS zs 1) ⟨⟨x, cutS zs 1, bs, rs, y⟩, b, gt, t⟩ w e w' ∧ Only (fun g => g = N) w w') := by
  have hN := h.lt
  have hO := h.own
  dsimp only at hO
  obtain ⟨hB, hno⟩ := (⟨h.hB, h.no⟩ : B ≤ N ∧ ¬ rowsC u1 u2 u3 N)
  have hrow := h.blk
  dsimp only at hrow
  clear h
  obtain ⟨g, c1, e1⟩ : ∃ g c, u1 = .slice (some ⟨g, 0, none⟩) (n + 1) c := by
    rcases hO.o1.2 with ⟨q, q2⟩ | ⟨g, c, cur, q, _⟩
    · omega
    · rw [hn] at q; exact ⟨g, c, q⟩
  subst e1
  obtain ⟨g', o', u, e, -, hu, hc⟩ := hO.o1.see.at_ (k := n) (by omega)
  injection e with e
  injection e with e1 e2
  subst e1 e2
  rw [Nat.zero_add] at hc
  have HT : Hid (topS zs 1 = u) := Lib.hid (by unfold topS; rw [hn, Nat.add_sub_cancel, List.getD_eq_getElem?_getD, hu]; rfl)
  have HL : Hid (cutS zs 1 = zs.take n) := Lib.hid (by unfold cutS; rw [hn, Nat.add_sub_cancel])
  have hcap : (n : Int) ≤ (c1 : Int) := by have := hO.o1.cap.1; omega
  have hcap2 : (c1 : Int) ≤ 9223372036854775807 := by have := hO.o1.cap.2; unfold maxLen at this; omega
  have hfz := frozen_row (k := 1) hrow
  obtain ⟨p0, p1, p2, p3, p4, p5, p6, p7, p8⟩ := cells9 hrow
  have HO := Lib.hid (hO.cut (k := n) (by omega))
  have HNO := Lib.hid (show ¬ rowsC (.slice (some ⟨g, 0, none⟩) n c1) u2 u3 N from hno)
  have HR := Lib.hid hrow
  have HBN := Lib.hid hB
  have hw1 : IntKind.i64.wrap ((n : Int) + 1 - 1) = (n : Int) := by rw [IntKind.wrap_i64]; omega
  clear hO hno hrow hu hn hB
  rw [HT.out, HL.out]
  clear HT HL
  go_enter Tryz.func161, Tryz.ntmps161
  go_wp2_with fail
  go_ret
  exact ⟨⟨rfl, (Below.refl _ _).setCell HBN.out _, _, u2, u3, by rw [heap_set HR.out]; simp, HO.out.set HNO.out _, HBN.out, HNO.out⟩, ⟨rfl, rfl, rfl, by simp [World.setCell], fun i _ hi => Below.heap_setCell _ _ _ _ hi⟩⟩

end Go.Proofs.YtigcbegeaikfcaaGreatDoor

namespace Go.Proofs.YtigcbegeaikfcaaGreatDoor
open Go.RowKit
set_option linter.unusedVariables false

theorem set_is {bs : List Bx} {n : List UInt8} {v : Int} (h : isS bs n = true) : ∃ k b, placeS bs n = k ∧ bs[k]? = some b ∧ b.1 = n ∧ k < bs.length ∧ setS bs n v = (bs.set k (n, v), true) := by
  unfold isS at h
  split at h
  · rename_i b hb
    have hn : b.1 = n := by simpa using h
    refine ⟨_, b, rfl, hb, hn, (List.getElem?_eq_some_iff.1 hb).1, ?_⟩
    unfold setS
    rw [hb]
    simp only [if_pos hn]
  · cases h
theorem set_no {bs : List Bx} {n : List UInt8} {v : Int} (h : isS bs n = false) : setS bs n v = if bs.length = 12 then (bs, false) else (insS bs (placeS bs n) (n, v), true) := by
  unfold isS at h
  unfold setS insS
  split at h
  · rename_i b hb
    have hn : ¬ b.1 = n := by simpa using h
    rw [hb]
    simp only [if_neg hn]
  · rename_i hb
    rw [hb]
    have hk : bs.length ≤ placeS bs n := by simpa using hb
    rw [List.take_of_length_le hk, List.drop_of_length_le hk, List.append_nil]

/-- The boxes behind a store into one of them. -/
theorem OwnC.setb {w : World} {B g n c k : Nat} {u1 u3 : Value} {zs : List Int} {bs : List Bx} {rs : List Int} (h : OwnC w B u1 (.slice (some ⟨g, 0, none⟩) n c) u3 zs bs rs) (hk : k < bs.length) (x : Int) :
    OwnC (w.setCell ⟨g, k * 2 + 1, none⟩ (.int .i64 x)) B u1 (.slice (some ⟨g, 0, none⟩) n c) u3 zs (bs.set k (bs[k].1, x)) rs := by
  have hon : Only (fun j => j = g) w (w.setCell ⟨g, k * 2 + 1, none⟩ (.int .i64 x)) := ⟨rfl, rfl, rfl, by simp [World.setCell], fun i _ hi => Below.heap_setCell _ _ _ _ hi⟩
  exact ⟨own_only h.o1 hon (fun j hj e => h.a12 j hj (by rw [e]; rfl)), h.o2.setV hk x, own_only h.o3 hon (fun j hj e => h.a23 j (by rw [e]; rfl) hj), h.a12, h.a13, h.a23⟩

def FlOut (B N : Nat) (vs : Value) (r : List Bx × Bool) (x y gt t : Int) (b : Bool) (zs rs : List Int) (w : World) (e : Ending) (w' : World) : Prop :=
  if r.2 = true then TkOut B N vs 0 ⟨⟨x, zs, r.1, rs, y⟩, b, gt, t⟩ w e w' else e = .returned (.int .i64 4) ∧ Below B w w'

set_option maxHeartbeats 4000000 in
set_option maxRecDepth 100000 in
theorem fill_any (B N : Nat) (x y gt t : Int) (b : Bool) (vs u1 u2 u3 : Value) (zs : List Int) (bs : List Bx) (rs : List Int) (n : List UInt8) (v : Int) (w : World) (h : Pl w B N ⟨⟨x, zs, bs, rs, y⟩, b, gt, t⟩ vs u1 u2 u3) (hr : Rise bs) (hl : bs.length ≤ 12) :
    Calls Tryz.prog 163 #[.pointer (some ⟨N, 0, none⟩), str n, .int .i64 v] w (FlOut B N vs (setS bs n v) x y gt t b zs rs w) := by
  have hN := h.lt
  have hO := h.own
  dsimp only at hO
  have hB := h.hB
  have HBw := Lib.hid (show B ≤ w.heap.size by omega)
  obtain ⟨p0, p1, p2, p3, p4, p5, p6, p7, p8⟩ := cells9 h.blk
  dsimp only at p0 p1 p2 p3 p4 p5 p6 p7 p8
  have HP := Lib.hid h
  clear h
  have HS := Lib.hid (search_any w.heap.size u2 bs n w hO.o2.see (Nat.le_refl _) hr hl)
  obtain ⟨A, c2, e2⟩ := hO.o2.see.shape
  subst e2
  clear hO hr
  cases his : isS bs n
  · have HX := Lib.hid (set_no (v := v) his)
    have hk := place_le bs n
    rw [his] at HS
    clear his
    generalize placeS bs n = k at *
    by_cases h12 : bs.length = 12
    · rw [HX.out, if_pos h12]
      have h12' : ((bs.length : Int) == 12) = true := by simp; omega
      have HH := Lib.hid h12
      clear h12
      go_enter Tryz.func163, Tryz.ntmps163
      go_wp2_with fail
      refine HS.out.mono ?_
      rintro e w2 ⟨rfl, b2⟩
      obtain ⟨r0, r1, r2, r3, r4, r5, r6, r7, r8⟩ := cells9 (HP.out.later b2).blk
      dsimp only at r0 r1 r2 r3 r4 r5 r6 r7 r8
      clear p0 p1 p2 p3 p4 p5 p6 p7 p8
      go_wp2_with fail
      go_ret
      exact ⟨rfl, b2.mono HBw.out⟩
    · rw [HX.out, if_neg h12]
      have h12' : ((bs.length : Int) == 12) = false := by simp; omega
      have hlt : bs.length < 12 := by omega
      clear h12
      go_enter Tryz.func163, Tryz.ntmps163
      go_wp2_with fail
      refine HS.out.mono ?_
      rintro e w2 ⟨rfl, b2⟩
      have HP2 := Lib.hid (HP.out.later b2)
      obtain ⟨r0, r1, r2, r3, r4, r5, r6, r7, r8⟩ := cells9 HP2.out.blk
      dsimp only at r0 r1 r2 r3 r4 r5 r6 r7 r8
      clear p0 p1 p2 p3 p4 p5 p6 p7 p8
      have bA := below_new w2 (.cells #[str n, .int .i64 v] 92)
      have HA := Lib.hid (HP2.out.later bA)
      have HI := Lib.hid (insert_any B w2.heap.size k (.slice A bs.length c2) bs n v (w2.alloc (.cells #[str n, .int .i64 v] 92)) HA.out.own.o2 (by have := b2.size; have := HBw.out; simp; omega) hlt hk (heap_alloc_new _ _) (fun q => by have := (OwnN.lt HP2.out.own.o2 _ q).2; omega))
      have HBA := Lib.hid (show Below B w (w2.alloc (.cells #[str n, .int .i64 v] 92)) from below_then (b2.mono HBw.out) bA HBw.out)
      clear bA
      go_wp2_with fail
      generalize w2.alloc _ = W at *
      refine HI.out.mono ?_
      rintro e w3 ⟨g', c', rfl, o3, gr, hat⟩
      have hN3 : ¬ some N = (Value.slice A bs.length c2).ownBlock := fun q => HP.out.no (.inr (.inl q.symm))
      have hrow := (gr.block N HA.out.lt hN3).trans HA.out.blk
      dsimp only at hrow
      have HRW := Lib.hid hrow
      obtain ⟨q0, q1, q2, q3, q4, q5, q6, q7, q8⟩ := cells9 hrow
      have hfz := frozen_row (k := 2) hrow
      clear r0 r1 r2 r3 r4 r5 r6 r7 r8 hrow hN3
      have HO := Lib.hid (HA.out.own.boxes9 o3 gr hat)
      have HB3 := Lib.hid (HBA.out.grown gr (by have := HA.out.lt; have := HA.out.hB; omega) (fun j e => (OwnN.lt HA.out.own.o2 j e).1))
      have HNO := Lib.hid (show ¬ rowsC u1 (.slice (some ⟨g', 0, none⟩) (insS bs k (n, v)).length c') u3 N from fun q => by
        rcases q with q | q | q
        · exact HA.out.no (.inl q)
        · simp [Value.ownBlock] at q
          subst q
          rcases hat with a | a
          · exact HA.out.no (.inr (.inl a))
          · have := HA.out.lt; omega
        · exact HA.out.no (.inr (.inr q)))
      clear o3 gr hat
      go_wp2_with fail
      go_ret
      exact ⟨rfl, HB3.out.setCell hB _, _, _, _, by rw [heap_set HRW.out]; simp, HO.out.set HNO.out _, hB, HNO.out⟩
  · obtain ⟨k, bx, hp, hb, hn, hk, hset⟩ := set_is (v := v) his
    rw [his, hp] at HS
    clear his hp
    rw [hset]
    clear hset
    obtain ⟨g, o, e, -, h0, h1⟩ := HP.out.own.o2.see.at_ hb
    subst e
    have hg0 : o = 0 := by
      rcases HP.out.own.o2.1.2 with ⟨q, _⟩ | ⟨g2, c3, cur, q, _⟩
      · cases q
      · injection q with q
        injection q with q
        injection q
    subst hg0
    rw [Nat.zero_add] at h0 h1
    go_enter Tryz.func163, Tryz.ntmps163
    go_wp2_with fail
    refine HS.out.mono ?_
    rintro e w2 ⟨rfl, b2⟩
    have HP2 := Lib.hid (HP.out.later b2)
    obtain ⟨r0, r1, r2, r3, r4, r5, r6, r7, r8⟩ := cells9 HP2.out.blk
    dsimp only at r0 r1 r2 r3 r4 r5 r6 r7 r8
    have hgl : g < w.heap.size := (OwnN.lt HP.out.own.o2 g rfl).2
    have h1' := (World.cell?_of_block (a := ⟨g, k * 2 + 1, none⟩) (b2.block g hgl)).trans h1
    have hfz : w2.frozen? ⟨g, k * 2 + 1, none⟩ = false := by
      rcases HP2.out.own.o2.1.2 with ⟨q, _⟩ | ⟨g2, c3, cur, q, _, hbl, _⟩
      · cases q
      · injection q with q
        injection q with q
        injection q with q
        subst q
        exact frozen_row hbl
    have HGN := Lib.hid (show ¬ N = g from fun e => HP.out.no (.inr (.inl (by rw [e]; rfl))))
    have HST := Lib.hid (HP2.out.own.setb (k := k) hk v)
    have HBN := Lib.hid (show bs.set k (n, v) = bs.set k (bs[k].1, v) by
      have := List.getElem?_eq_getElem hk
      rw [this] at hb; injection hb with hb; rw [hb, hn])
    have HGB := Lib.hid (show B ≤ g from (OwnN.lt HP.out.own.o2 g rfl).1)
    clear p0 p1 p2 p3 p4 p5 p6 p7 p8 h0 h1 hb hn
    go_wp2_with fail
    go_ret
    refine ⟨rfl, (b2.mono HBw.out).setCell HGB.out _, u1, _, u3, ?_, ?_, hB, HP2.out.no⟩
    · rw [Below.heap_setCell _ _ _ _ HGN.out]; exact HP2.out.blk
    · show OwnC _ B u1 _ u3 zs (bs.set k (n, v)) rs
      rw [HBN.out]
      exact HST.out

end Go.Proofs.YtigcbegeaikfcaaGreatDoor

namespace Go.Proofs.YtigcbegeaikfcaaGreatDoor
open Go.RowKit
set_option linter.unusedVariables false

/-- What a method hands back: the code of what is done; where that is none, the player is as it is to be. -/
def DoOut (B N : Nat) (vs : Value) (st : St) (w : World) (e : Ending) (w' : World) : Prop :=
  e = .returned (.int .i64 st.c.cd) ∧ Below B w w' ∧ (st.c.cd = 0 → ∃ u1 u2 u3, Pl w' B N st vs u1 u2 u3)
theorem DoOut.ends {B N : Nat} {vs : Value} {c : Cr} {k : Int} {w w' : World} (hk : ¬ k = 0) (b : Below B w w') : DoOut B N vs (endS c k) w (.returned (.int .i64 k)) w' := ⟨rfl, b, fun q => absurd q hk⟩
theorem DoOut.on {B N : Nat} {vs u1 u2 u3 : Value} {st : St} {w w' : World} (h0 : st.c.cd = 0) (b : Below B w w') (p : Pl w' B N st vs u1 u2 u3) : DoOut B N vs st w (.returned (.int .i64 0)) w' := ⟨by rw [h0], b, fun _ => ⟨_, _, _, p⟩⟩

set_option maxHeartbeats 2000000 in
theorem push_on
(B N : Nat) (x m : Int) (s : List UInt8) (vs u1 u2 u3 : Value) (zs : List Int) (bs : List Bx) (rs : List Int) (w : World) (h : Pl w B N (onS ⟨x, zs, bs, rs, 0⟩) vs u1 u2 u3)
    (hl : zs.length < 60) :
    Calls Tryz.prog 135 #[.pointer (some ⟨N, 0, none⟩), .agg #[.int .i64 1, .int .i64 m, str s]] w
      (DoOut B N vs (onS ⟨x, zs ++ [m], bs, rs, 0⟩) w) := by
  have hN := h.lt
  have hB := h.hB
  have hBw : B ≤ w.heap.size := by omega
  have bA := below_new w (.cells #[.int .i64 1, .int .i64 m, str s] 41)
  have HA := Lib.hid (h.later bA)
  have HO := Lib.hid (heap_alloc_new w (.cells #[.int .i64 1, .int .i64 m, str s] 41))
  have HBA := Lib.hid (bA.mono hBw)
  have HBW := Lib.hid hBw
  clear bA hBw
  clear h
  go_enter Tryz.func135, Tryz.ntmps135
  go_wp2_with fail
  generalize w.alloc _ = W at *
  refine (put_any B N x 0 0 0 false vs u1 u2 u3 zs bs rs m W HA.out hl).mono ?_
  rintro e w2 ⟨rfl, b2, v1, v2, v3, p⟩
  go_wp2_with fail
  go_ret
  exact DoOut.on rfl (HBA.out.trans b2) p

set_option maxHeartbeats 2000000 in
theorem push_full
(B N : Nat) (x m : Int) (s : List UInt8) (vs u1 u2 u3 : Value) (zs : List Int) (bs : List Bx) (rs : List Int) (w : World) (h : Pl w B N (onS ⟨x, zs, bs, rs, 0⟩) vs u1 u2 u3)
    (hl : zs.length = 60) :
    Calls Tryz.prog 135 #[.pointer (some ⟨N, 0, none⟩), .agg #[.int .i64 1, .int .i64 m, str s]] w
      (DoOut B N vs (endS ⟨x, zs, bs, rs, 0⟩ 4) w) := by
  have hN := h.lt
  have hB := h.hB
  have hBw : B ≤ w.heap.size := by omega
  have bA := below_new w (.cells #[.int .i64 1, .int .i64 m, str s] 41)
  have HA := Lib.hid (h.later bA)
  have HO := Lib.hid (heap_alloc_new w (.cells #[.int .i64 1, .int .i64 m, str s] 41))
  have HBA := Lib.hid (bA.mono hBw)
  have HBW := Lib.hid hBw
  clear bA hBw
  clear h
  go_enter Tryz.func135, Tryz.ntmps135
  go_wp2_with fail
  generalize w.alloc _ = W at *
  refine (put_full B N x 0 0 0 false vs u1 u2 u3 zs bs rs m W HA.out hl).mono ?_
  rintro e w2 ⟨rfl, rfl⟩
  go_wp2_with fail
  go_ret
  exact DoOut.ends (by decide) HBA.out

set_option maxHeartbeats 2000000 in
theorem stop_on
(B N : Nat) (x m : Int) (s : List UInt8) (vs u1 u2 u3 : Value) (zs : List Int) (bs : List Bx) (rs : List Int) (w : World) (h : Pl w B N (onS ⟨x, zs, bs, rs, 0⟩) vs u1 u2 u3)
    :
    Calls Tryz.prog 143 #[.pointer (some ⟨N, 0, none⟩), .agg #[.int .i64 9, .int .i64 m, str s]] w
      (DoOut B N vs (endS ⟨x, zs, bs, rs, 0⟩ 2) w) := by
  have hN := h.lt
  have hB := h.hB
  have hBw : B ≤ w.heap.size := by omega
  have bA := below_new w (.cells #[.int .i64 9, .int .i64 m, str s] 41)
  have HA := Lib.hid (h.later bA)
  have HO := Lib.hid (heap_alloc_new w (.cells #[.int .i64 9, .int .i64 m, str s] 41))
  have HBA := Lib.hid (bA.mono hBw)
  have HBW := Lib.hid hBw
  clear bA hBw
  clear h
  go_enter Tryz.func143, Tryz.ntmps143
  go_wp2_with fail
  go_ret
  exact DoOut.ends (by decide) HBA.out

set_option maxHeartbeats 2000000 in
theorem end_on
(B N : Nat) (x m : Int) (s : List UInt8) (vs u1 u2 u3 : Value) (zs : List Int) (bs : List Bx) (rs : List Int) (w : World) (h : Pl w B N (onS ⟨x, zs, bs, rs, 0⟩) vs u1 u2 u3)
    :
    Calls Tryz.prog 144 #[.pointer (some ⟨N, 0, none⟩), .agg #[.int .i64 10, .int .i64 m, str s]] w
      (DoOut B N vs (endS ⟨x, zs, bs, rs, 0⟩ 1) w) := by
  have hN := h.lt
  have hB := h.hB
  have hBw : B ≤ w.heap.size := by omega
  have bA := below_new w (.cells #[.int .i64 10, .int .i64 m, str s] 41)
  have HA := Lib.hid (h.later bA)
  have HO := Lib.hid (heap_alloc_new w (.cells #[.int .i64 10, .int .i64 m, str s] 41))
  have HBA := Lib.hid (bA.mono hBw)
  have HBW := Lib.hid hBw
  clear bA hBw
  clear h
  go_enter Tryz.func144, Tryz.ntmps144
  go_wp2_with fail
  go_ret
  exact DoOut.ends (by decide) HBA.out

theorem Pl.at {w : World} {B N : Nat} {x y g t : Int} {b : Bool} {zs : List Int} {bs : List Bx} {rs : List Int} {vs u1 u2 u3 : Value} (h : Pl w B N ⟨⟨x, zs, bs, rs, y⟩, b, g, t⟩ vs u1 u2 u3) (m : Int) : Pl (w.setCell ⟨N, 0, none⟩ (.int .i64 m)) B N ⟨⟨m, zs, bs, rs, y⟩, b, g, t⟩ vs u1 u2 u3 :=
  ⟨by rw [heap_set h.blk]; simp, h.own.set h.no _, h.hB, h.no⟩

set_option maxHeartbeats 2000000 in
theorem leave_any (a x y gt t : Int) (b : Bool) (B N : Nat) (m : Int) (s : List UInt8) (vs u1 u2 u3 : Value) (zs : List Int) (bs : List Bx) (rs : List Int) (w : World) (h : Pl w B N ⟨⟨x, zs, bs, rs, y⟩, b, gt, t⟩ vs u1 u2 u3) :
    Calls Tryz.prog 141 #[.pointer (some ⟨N, 0, none⟩), .agg #[.int .i64 a, .int .i64 m, str s]] w
      (TkOut B N vs 0 ⟨⟨m, zs, bs, rs, y⟩, b, gt, t⟩ w) := by
  have hN := h.lt
  have hB := h.hB
  have hBw : B ≤ w.heap.size := by omega
  have bA := below_new w (.cells #[.int .i64 a, .int .i64 m, str s] 41)
  have HA := Lib.hid (h.later bA)
  have HO := Lib.hid (heap_alloc_new w (.cells #[.int .i64 a, .int .i64 m, str s] 41))
  have HBA := Lib.hid (bA.mono hBw)
  have HBW := Lib.hid hBw
  clear bA hBw
  clear h
  go_enter Tryz.func141, Tryz.ntmps141
  go_upto_region 1 with fail
  generalize w.alloc _ = W at *
  obtain ⟨p0, p1, p2, p3, p4, p5, p6, p7, p8⟩ := cells9 HA.out.blk
  dsimp only [onS] at p0 p1 p2 p3 p4 p5 p6 p7 p8
  have hfz := frozen_row (k := 0) HA.out.blk
  obtain ⟨o0, o1, o2⟩ := cells3 HO.out
  go_wp2_with fail
  go_ret
  exact ⟨rfl, HBA.out.setCell hB _, _, _, _, HA.out.at m⟩

theorem leave_on
(B N : Nat) (x m : Int) (s : List UInt8) (vs u1 u2 u3 : Value) (zs : List Int) (bs : List Bx) (rs : List Int) (w : World) (h : Pl w B N (onS ⟨x, zs, bs, rs, 0⟩) vs u1 u2 u3)
    :
    Calls Tryz.prog 141 #[.pointer (some ⟨N, 0, none⟩), .agg #[.int .i64 7, .int .i64 m, str s]] w
      (DoOut B N vs (onS ⟨m, zs, bs, rs, 0⟩) w) := by
  refine (leave_any 7 x 0 0 0 false B N m s vs u1 u2 u3 zs bs rs w h).mono ?_
  rintro e w2 ⟨rfl, b2, v1, v2, v3, p⟩
  exact DoOut.on rfl b2 p

set_option maxHeartbeats 2000000 in
theorem unless_on
(B N : Nat) (x m : Int) (s : List UInt8) (vs u1 u2 u3 : Value) (zs : List Int) (bs : List Bx) (rs : List Int) (w : World) (h : Pl w B N (onS ⟨x, zs, bs, rs, 0⟩) vs u1 u2 u3)
    (n : Nat) (hn : zs.length = n + 1) (hl : n < 60) :
    Calls Tryz.prog 142 #[.pointer (some ⟨N, 0, none⟩), .agg #[.int .i64 8, .int .i64 m, str s]] w
      (DoOut B N vs (onS ⟨if topS zs 1 = 0 then m else x, cutS zs 1, bs, rs, 0⟩) w) := by
  have hN := h.lt
  have hB := h.hB
  have hBw : B ≤ w.heap.size := by omega
  have bA := below_new w (.cells #[.int .i64 8, .int .i64 m, str s] 41)
  have HA := Lib.hid (h.later bA)
  have HO := Lib.hid (heap_alloc_new w (.cells #[.int .i64 8, .int .i64 m, str s] 41))
  have HBA := Lib.hid (bA.mono hBw)
  have HBW := Lib.hid hBw
  clear bA hBw
  clear h
  have HT := Lib.hid (fun W p => take_any B N n x 0 0 0 false vs u1 u2 u3 zs bs rs W p hn hl)
  clear hn
  by_cases hz : topS zs 1 = 0
  · rw [if_pos hz]
    rw [hz] at HT
    clear hz
    go_enter Tryz.func142, Tryz.ntmps142
    go_wp2_with fail
    generalize w.alloc _ = W at *
    refine (HT.out W HA.out).mono ?_
    rintro e w2 ⟨⟨rfl, b2, v1, v2, v3, p⟩, on⟩
    obtain ⟨o0, o1, o2⟩ := cells3 ((on.block _ (heap_lt HO.out) (by omega)).trans HO.out)
    go_wp2_with fail
    refine (leave_any 8 x 0 0 0 false B N m s vs v1 v2 v3 (cutS zs 1) bs rs w2 p).mono ?_
    rintro e w3 ⟨rfl, b3, q1, q2, q3, p3⟩
    go_wp2_with fail
    go_ret
    exact DoOut.on rfl ((HBA.out.trans b2).trans b3) p3
  · rw [if_neg hz]
    generalize topS zs 1 = z at *
    have hz2 : (z == 0) = false := by simpa using hz
    go_enter Tryz.func142, Tryz.ntmps142
    go_wp2_with fail
    generalize w.alloc _ = W at *
    refine (HT.out W HA.out).mono ?_
    rintro e w2 ⟨⟨rfl, b2, v1, v2, v3, p⟩, on⟩
    go_wp2_with fail
    go_ret
    exact DoOut.on rfl (HBA.out.trans b2) p
set_option maxHeartbeats 4000000 in
theorem reckon_on
(B N : Nat) (x m : Int) (s : List UInt8) (vs u1 u2 u3 : Value) (zs : List Int) (bs : List Bx) (rs : List Int) (w : World) (h : Pl w B N (onS ⟨x, zs, bs, rs, 0⟩) vs u1 u2 u3)
    (n : Nat) (hn : zs.length = n + 2) (hl : n + 1 < 60) :
    Calls Tryz.prog 137 #[.pointer (some ⟨N, 0, none⟩), .agg #[.int .i64 3, .int .i64 m, str s]] w
      (DoOut B N vs (if (didS m (topS zs 2) (topS zs 1)).2 = true then onS ⟨x, cutS zs 2 ++ [(didS m (topS zs 2) (topS zs 1)).1], bs, rs, 0⟩ else endS ⟨x, zs, bs, rs, 0⟩ 3) w) := by
  have hN := h.lt
  have hB := h.hB
  have hBw : B ≤ w.heap.size := by omega
  have bA := below_new w (.cells #[.int .i64 3, .int .i64 m, str s] 41)
  have HA := Lib.hid (h.later bA)
  have HO := Lib.hid (heap_alloc_new w (.cells #[.int .i64 3, .int .i64 m, str s] 41))
  have HBA := Lib.hid (bA.mono hBw)
  have HBW := Lib.hid hBw
  clear bA hBw
  clear h
  have hl1 : (cutS zs 1).length = n + 1 := by unfold cutS; rw [List.length_take]; omega
  have ht2 : topS (cutS zs 1) 1 = topS zs 2 := by
    unfold topS
    rw [hl1, hn]
    unfold cutS
    rw [hn, List.getD_eq_getElem?_getD, List.getD_eq_getElem?_getD, List.getElem?_take]
    rw [if_pos (by omega), show n + 1 - 1 = n + 2 - 2 by omega]
  have hc2 : cutS (cutS zs 1) 1 = cutS zs 2 := by
    unfold cutS
    rw [List.length_take, List.take_take]
    congr 1
    try omega
  have hl2 : (cutS zs 2).length < 60 := by unfold cutS; rw [List.length_take]; omega
  have HT1 := Lib.hid (fun W p => take_any B N (n + 1) x 0 0 0 false vs u1 u2 u3 zs bs rs W p hn hl)
  have HT2 := Lib.hid (fun v1 v2 v3 W p => take_any B N n x 0 0 0 false vs v1 v2 v3 (cutS zs 1) bs rs W p hl1 (by omega))
  rw [ht2, hc2] at HT2
  clear ht2 hc2 hl1 hn hl
  have HD := Lib.hid (fun W => iDid_any m (topS zs 2) (topS zs 1) W)
  generalize didS m (topS zs 2) (topS zs 1) = r at *
  obtain ⟨rv, rb⟩ := r
  cases rb
  · skip
    go_enter Tryz.func137, Tryz.ntmps137
    go_wp2_with fail
    generalize w.alloc _ = W at *
    refine (HT1.out W HA.out).mono ?_
    rintro e w2 ⟨⟨rfl, b2, v1, v2, v3, p2⟩, on2⟩
    go_wp2_with fail
    refine (HT2.out v1 v2 v3 w2 p2).mono ?_
    rintro e w3 ⟨⟨rfl, b3, q1, q2, q3, p3⟩, on3⟩
    obtain ⟨o0, o1, o2⟩ := cells3 ((on3.block _ (Nat.lt_of_lt_of_le (heap_lt HO.out) on2.size) (by omega)).trans ((on2.block _ (heap_lt HO.out) (by omega)).trans HO.out))
    go_wp2_with fail
    refine (HD.out w3).mono ?_
    rintro e w4 ⟨rfl, rfl⟩
    go_wp2_with fail
    go_ret
    exact DoOut.ends (by decide) ((HBA.out.trans b2).trans b3)
  · skip
    go_enter Tryz.func137, Tryz.ntmps137
    go_wp2_with fail
    generalize w.alloc _ = W at *
    refine (HT1.out W HA.out).mono ?_
    rintro e w2 ⟨⟨rfl, b2, v1, v2, v3, p2⟩, on2⟩
    go_wp2_with fail
    refine (HT2.out v1 v2 v3 w2 p2).mono ?_
    rintro e w3 ⟨⟨rfl, b3, q1, q2, q3, p3⟩, on3⟩
    obtain ⟨o0, o1, o2⟩ := cells3 ((on3.block _ (Nat.lt_of_lt_of_le (heap_lt HO.out) on2.size) (by omega)).trans ((on2.block _ (heap_lt HO.out) (by omega)).trans HO.out))
    go_wp2_with fail
    refine (HD.out w3).mono ?_
    rintro e w4 ⟨rfl, rfl⟩
    go_wp2_with fail
    refine (put_any B N x 0 0 0 false vs q1 q2 q3 (cutS zs 2) bs rs rv w3 p3 hl2).mono ?_
    rintro e w4 ⟨rfl, b4, r1, r2, r3, p4⟩
    go_wp2_with fail
    go_ret
    exact DoOut.on rfl (((HBA.out.trans b2).trans b3).trans b4) p4

set_option maxHeartbeats 4000000 in
theorem load_on
(B N : Nat) (x m : Int) (s : List UInt8) (vs u1 u2 u3 : Value) (zs : List Int) (bs : List Bx) (rs : List Int) (w : World) (h : Pl w B N (onS ⟨x, zs, bs, rs, 0⟩) vs u1 u2 u3)
    (hl : zs.length < 60) :
    Calls Tryz.prog 136 #[.pointer (some ⟨N, 0, none⟩), .agg #[.int .i64 2, .int .i64 m, str s]] w
      (DoOut B N vs (onS ⟨x, zs ++ [valueS bs s], bs, rs, 0⟩) w) := by
  have hN := h.lt
  have hB := h.hB
  have hBw : B ≤ w.heap.size := by omega
  have bA := below_new w (.cells #[.int .i64 2, .int .i64 m, str s] 41)
  have HA := Lib.hid (h.later bA)
  have HO := Lib.hid (heap_alloc_new w (.cells #[.int .i64 2, .int .i64 m, str s] 41))
  have HBA := Lib.hid (bA.mono hBw)
  have HBW := Lib.hid hBw
  clear bA hBw
  clear h
  have HV := Lib.hid (fun v W q => iValueIn_any W.heap.size v bs s W q (Nat.le_refl _))
  have HPU := Lib.hid (fun v1 v2 v3 z W p => put_any B N x 0 0 0 false vs v1 v2 v3 zs bs rs z W p hl)
  generalize valueS bs s = z at *
  go_enter Tryz.func136, Tryz.ntmps136
  go_upto_region 1 with fail
  generalize w.alloc _ = W at *
  obtain ⟨p0, p1, p2, p3, p4, p5, p6, p7, p8⟩ := cells9 HA.out.blk
  dsimp only [onS] at p0 p1 p2 p3 p4 p5 p6 p7 p8
  obtain ⟨o0, o1, o2⟩ := cells3 HO.out
  have HAD := Lib.hid (show Pl W.drew B N (onS ⟨x, zs, bs, rs, 0⟩) vs u1 u2 u3 from HA.out.drewN 1)
  have HBD := Lib.hid (show Below B w W.drew from below_drewN HBA.out 1)
  have hS := HA.out.own.o2.see.shape
  obtain ⟨A2, c2, e2⟩ := hS
  dsimp only [onS] at e2
  subst e2
  go_region_with first
    | (go_at_call 19; refine (HV.out _ W.drew HAD.out.own.o2.see).mono ?_; rintro e w1 ⟨rfl, b1⟩)
    | (go_at_call 160; refine (HPU.out _ _ _ _ w1 (HAD.out.later b1)).mono ?_; rintro e w2 ⟨rfl, b2, v1, v2, v3, p⟩)
  all_goals (
    go_wp2_with fail
    go_ret
    exact DoOut.on rfl ((HBD.out.trans (b1.mono (by have := HAD.out.lt; have := HAD.out.hB; omega))).trans b2) p)

end Go.Proofs.YtigcbegeaikfcaaGreatDoor

namespace Go.Proofs.YtigcbegeaikfcaaGreatDoor
open Go.RowKit
set_option linter.unusedVariables false

theorem FlOut.ret {B N : Nat} {vs : Value} {r : List Bx × Bool} {x y gt t : Int} {b : Bool} {zs rs : List Int} {w w' : World} {e : Ending} (h : FlOut B N vs r x y gt t b zs rs w e w') : ∃ k, e = .returned (.int .i64 k) := by
  unfold FlOut at h
  split at h
  · exact ⟨_, h.1⟩
  · exact ⟨_, h.1⟩
/-- What fill hands back, as a step. -/
theorem DoOut.fill {B N : Nat} {vs : Value} {r : List Bx × Bool} {x : Int} {zs rs : List Int} {c : Cr} {W w w' : World} {e : Ending} (hf : FlOut B N vs r x 0 0 0 false zs rs W e w') (b : Below B w W) :
    DoOut B N vs (if r.2 = true then onS ⟨x, zs, r.1, rs, 0⟩ else endS c 4) w e w' := by
  unfold FlOut at hf
  split at hf
  · rename_i hr
    rw [if_pos hr]
    obtain ⟨rfl, b2, v1, v2, v3, p⟩ := hf
    exact DoOut.on rfl (b.trans b2) p
  · rename_i hr
    rw [if_neg hr]
    obtain ⟨rfl, b2⟩ := hf
    exact DoOut.ends (by decide) (b.trans b2)

set_option maxHeartbeats 4000000 in
theorem set_on
(B N : Nat) (x m : Int) (s : List UInt8) (vs u1 u2 u3 : Value) (zs : List Int) (bs : List Bx) (rs : List Int) (w : World) (h : Pl w B N (onS ⟨x, zs, bs, rs, 0⟩) vs u1 u2 u3)
    (n : Nat) (hn : zs.length = n + 1) (hl : n < 60) (hr : Rise bs) (h12 : bs.length ≤ 12) :
    Calls Tryz.prog 138 #[.pointer (some ⟨N, 0, none⟩), .agg #[.int .i64 4, .int .i64 m, str s]] w
      (DoOut B N vs (if (setS bs s (topS zs 1)).2 = true then onS ⟨x, cutS zs 1, (setS bs s (topS zs 1)).1, rs, 0⟩ else endS ⟨x, zs, bs, rs, 0⟩ 4) w) := by
  have hN := h.lt
  have hB := h.hB
  have hBw : B ≤ w.heap.size := by omega
  have bA := below_new w (.cells #[.int .i64 4, .int .i64 m, str s] 41)
  have HA := Lib.hid (h.later bA)
  have HO := Lib.hid (heap_alloc_new w (.cells #[.int .i64 4, .int .i64 m, str s] 41))
  have HBA := Lib.hid (bA.mono hBw)
  have HBW := Lib.hid hBw
  clear bA hBw
  clear h
  have HT := Lib.hid (fun W p => take_any B N n x 0 0 0 false vs u1 u2 u3 zs bs rs W p hn hl)
  have HF := Lib.hid (fun v1 v2 v3 z W p => fill_any B N x 0 0 0 false vs v1 v2 v3 (cutS zs 1) bs rs s z W p hr h12)
  clear hr hn
  generalize topS zs 1 = z at *
  generalize hst : (if (setS bs s z).2 = true then onS ⟨x, cutS zs 1, (setS bs s z).1, rs, 0⟩ else endS ⟨x, zs, bs, rs, 0⟩ 4) = st
  have HST := Lib.hid hst
  clear hst
  go_enter Tryz.func138, Tryz.ntmps138
  go_upto_region 1 with fail
  generalize w.alloc _ = W at *
  obtain ⟨o0, o1, o2⟩ := cells3 HO.out
  have HAD := Lib.hid (show Pl W.drew B N (onS ⟨x, zs, bs, rs, 0⟩) vs u1 u2 u3 from HA.out.drewN 1)
  have HBD := Lib.hid (show Below B w W.drew from below_drewN HBA.out 1)
  go_region_with first
    | (go_at_call 161; refine (HT.out W.drew HAD.out).mono ?_; rintro e w1 ⟨⟨rfl, b1, v1, v2, v3, p1⟩, on1⟩; obtain ⟨q0, q1, q2⟩ := cells3 ((on1.block _ (heap_lt HO.out) (by omega)).trans HO.out); have H1 := Lib.hid (And.intro b1 p1); clear o0 o1 o2 b1 p1 on1)
    | (go_at_call 163; refine (HF.out _ _ _ _ w1 H1.out.2).mono ?_; intro e w2 hf; (obtain ⟨fk, rfl⟩ := hf.ret))
  all_goals (
    go_wp2_with fail
    go_ret
    rw [← HST.out]
    exact DoOut.fill hf (HBD.out.trans H1.out.1))
theorem Pl.say {w : World} {B N : Nat} {x y g t : Int} {b : Bool} {zs : List Int} {bs : List Bx} {rs : List Int} {vs u1 u2 u3 : Value} (h : Pl w B N ⟨⟨x, zs, bs, rs, y⟩, b, g, t⟩ vs u1 u2 u3) (g2 t2 : Int) :
    Pl (((w.setCell ⟨N, 5, none⟩ (.bool true)).setCell ⟨N, 6, none⟩ (.int .i64 g2)).setCell ⟨N, 7, none⟩ (.int .i64 t2)) B N ⟨⟨x, zs, bs, rs, y⟩, true, g2, t2⟩ vs u1 u2 u3 :=
  ⟨by rw [heap_set (heap_set (heap_set h.blk _) _) _]; simp, ((h.own.set h.no _).set h.no _).set h.no _, h.hB, h.no⟩

set_option maxHeartbeats 4000000 in
theorem out_on
(B N : Nat) (x m : Int) (s : List UInt8) (vs u1 u2 u3 : Value) (zs : List Int) (bs : List Bx) (rs : List Int) (w : World) (h : Pl w B N (onS ⟨x, zs, bs, rs, 0⟩) vs u1 u2 u3)
    (n : Nat) (hn : zs.length = n + 1) (hl : n < 60) :
    Calls Tryz.prog 140 #[.pointer (some ⟨N, 0, none⟩), .agg #[.int .i64 6, .int .i64 m, str s]] w
      (DoOut B N vs ⟨⟨x, cutS zs 1, bs, rs, 0⟩, true, m, topS zs 1⟩ w) := by
  have hN := h.lt
  have hB := h.hB
  have hBw : B ≤ w.heap.size := by omega
  have bA := below_new w (.cells #[.int .i64 6, .int .i64 m, str s] 41)
  have HA := Lib.hid (h.later bA)
  have HO := Lib.hid (heap_alloc_new w (.cells #[.int .i64 6, .int .i64 m, str s] 41))
  have HBA := Lib.hid (bA.mono hBw)
  have HBW := Lib.hid hBw
  clear bA hBw
  clear h
  have HT := Lib.hid (fun W p => take_any B N n x 0 0 0 false vs u1 u2 u3 zs bs rs W p hn hl)
  clear hn
  generalize topS zs 1 = z at *
  go_enter Tryz.func140, Tryz.ntmps140
  go_upto_region 1 with fail
  generalize w.alloc _ = W at *
  obtain ⟨o0, o1, o2⟩ := cells3 HO.out
  have HAD := Lib.hid (show Pl W.drew B N (onS ⟨x, zs, bs, rs, 0⟩) vs u1 u2 u3 from HA.out.drewN 1)
  have HBD := Lib.hid (show Below B w W.drew from below_drewN HBA.out 1)
  go_region_with first
    | (go_at_call 161; refine (HT.out W.drew HAD.out).mono ?_; rintro e w1 ⟨⟨rfl, b1, v1, v2, v3, p1⟩, on1⟩; obtain ⟨q0, q1, q2⟩ := cells3 ((on1.block _ (heap_lt HO.out) (by omega)).trans HO.out); have H1 := Lib.hid (And.intro b1 p1); have f5 := frozen_row (k := 5) p1.blk; have f6 := frozen_row (k := 6) p1.blk; have f7 := frozen_row (k := 7) p1.blk; obtain ⟨t0, t1, t2, t3, t4, t5, t6, t7, t8⟩ := cells9 p1.blk; clear o0 o1 o2 b1 p1 on1)
  all_goals (
    go_wp2_with fail
    go_ret
    exact DoOut.on rfl ((((HBD.out.trans H1.out.1).setCell hB _).setCell hB _).setCell hB _) (H1.out.2.say m z))

set_option maxHeartbeats 1000000 in
theorem itemOf_any (B : Nat) (v : Value) (s : List Int) (k : Nat) (w : World) (h : SeeI w B v s) (hk : k ≤ 100000) : Calls Tryz.prog 164 #[v, .int .i64 k] w fun e w' => e = .returned (.int .i64 (s.getD k 0)) ∧ w' = w := by
  have hm := h.1
  unfold maxLen at hm
  obtain ⟨A, c, rfl⟩ := h.shape
  have hk0 : ¬ (k : Int) < 0 := by omega
  obtain ⟨z, hz⟩ : ∃ z, z = s.getD k 0 := ⟨_, rfl⟩
  rw [← hz]
  have HZ := Lib.hid hz
  clear hz
  by_cases hlt : k < s.length
  · have hkl : ¬ ((s.length : Int) ≤ (k : Int)) := by omega
    obtain ⟨g, o, x, rfl, -, hx, hcx⟩ := h.at_ hlt
    have HX : Hid (z = x) := Lib.hid (by rw [HZ.out, List.getD_eq_getElem?_getD, hx]; rfl)
    clear hx h
    go_enter Tryz.func164, Tryz.ntmps164
    go_wp2_with fail
    go_ret
    exact ⟨ret_int HX.out.symm, rfl⟩
  · have hkl : ((s.length : Int) ≤ (k : Int)) := by omega
    have HX : Hid (z = 0) := Lib.hid (by rw [HZ.out, List.getD_eq_getElem?_getD, List.getElem?_eq_none (by omega)]; rfl)
    clear h
    go_enter Tryz.func164, Tryz.ntmps164
    go_wp2_with fail
    go_ret
    exact ⟨ret_int HX.out.symm, rfl⟩

theorem Pl.reads {w : World} {B N g3 n3 c3 k : Nat} {st : St} {vs u1 u2 : Value} (h : Pl w B N st vs u1 u2 (.slice (some ⟨g3, 0, none⟩) n3 c3)) (hk : k < st.c.rds.length) (z : Int) :
    Pl (w.setCell ⟨g3, k, none⟩ (.int .i64 z)) B N ⟨⟨st.c.pl, st.c.pile, st.c.bxs, st.c.rds.set k z, st.c.cd⟩, st.says, st.gate, st.val⟩ vs u1 u2 (.slice (some ⟨g3, 0, none⟩) n3 c3) := by
  have hne : N ≠ g3 := fun e => h.no (.inr (.inr (by rw [e]; rfl)))
  exact ⟨by rw [Below.heap_setCell _ _ _ _ hne]; exact h.blk, h.own.setr hk z, h.hB, h.no⟩

set_option maxHeartbeats 8000000 in
set_option maxRecDepth 100000 in
theorem in_on (B N : Nat) (x : Int) (k : Nat) (s : List UInt8) (vs u1 u2 u3 : Value) (zs : List Int) (bs : List Bx) (rs : List Int) (w : World) (h : Pl w B N (onS ⟨x, zs, bs, rs, 0⟩) vs u1 u2 u3)
    (ss : List (List Int)) (sv : SeeSS w B vs ss) (hk : k < ss.length) (hkr : k < rs.length) (hrd : ∀ r ∈ rs, 0 ≤ r ∧ r ≤ 100000) (hr : Rise bs) (h12 : bs.length ≤ 12) :
    Calls Tryz.prog 139 #[.pointer (some ⟨N, 0, none⟩), .agg #[.int .i64 5, .int .i64 k, str s]] w
      (DoOut B N vs (if rs.getD k 0 = 100000 then endS ⟨x, zs, bs, rs, 0⟩ 4
        else if (setS bs s (itemS ss k (rs.getD k 0))).2 = true then onS ⟨x, zs, (setS bs s (itemS ss k (rs.getD k 0))).1, rs.set k (rs.getD k 0 + 1), 0⟩ else endS ⟨x, zs, bs, rs, 0⟩ 4) w) := by
  obtain ⟨As, cs, rfl⟩ := sv.shape
  obtain ⟨m, hm⟩ : ∃ m : Int, m = (k : Int) := ⟨_, rfl⟩
  rw [← hm]
  have hN := h.lt
  have hB := h.hB
  have hBw : B ≤ w.heap.size := by omega
  have bA := below_new w (.cells #[.int .i64 5, .int .i64 m, str s] 41)
  have HA := Lib.hid (h.later bA)
  have HO := Lib.hid (heap_alloc_new w (.cells #[.int .i64 5, .int .i64 m, str s] 41))
  have HBA := Lib.hid (bA.mono hBw)
  have HBW := Lib.hid hBw
  clear bA hBw
  subst hm
  obtain ⟨g3, c3, e3⟩ : ∃ g c, u3 = .slice (some ⟨g, 0, none⟩) rs.length c := by
    have hO3 := h.own.o3
    dsimp only [onS] at hO3
    rcases hO3.2 with ⟨q, q2⟩ | ⟨g, c, cur, q, _⟩
    · omega
    · exact ⟨g, c, q⟩
  subst e3
  have hg3 : B ≤ g3 ∧ g3 < w.heap.size := h.own.o3.lt g3 rfl
  obtain ⟨g', o', r, e, -, hrk, hcr⟩ := HA.out.own.o3.see.at_ (k := k) hkr
  injection e with e
  injection e with e1 e2
  subst e1 e2
  rw [Nat.zero_add] at hcr
  have hfr : (w.alloc (.cells #[.int .i64 5, .int .i64 k, str s] 41)).frozen? ⟨g3, k, none⟩ = false := by
    rcases HA.out.own.o3.2 with ⟨q, _⟩ | ⟨g2, c2, cur, q, _, hb, _⟩
    · cases q
    · injection q with q
      injection q with q
      injection q with q
      subst q
      exact frozen_row hb
  dsimp only [onS] at hrk
  have hrr := hrd r (List.mem_of_getElem? hrk)
  have HR : Hid (rs.getD k 0 = r) := Lib.hid (by rw [List.getD_eq_getElem?_getD, hrk]; rfl)
  have HSV := Lib.hid ((sv.below (HBA.out)))
  clear h hrd hrk sv
  rw [HR.out]
  clear HR
  by_cases hr5 : r = 100000
  · rw [if_pos hr5]
    subst hr5
    go_enter Tryz.func139, Tryz.ntmps139
    go_upto_region 1 with fail
    generalize w.alloc _ = W at *
    obtain ⟨p0, p1, p2, p3, p4, p5, p6, p7, p8⟩ := cells9 HA.out.blk
    dsimp only [onS] at p0 p1 p2 p3 p4 p5 p6 p7 p8
    obtain ⟨o0, o1, o2⟩ := cells3 HO.out
    go_wp2_with fail
    go_ret
    exact DoOut.ends (by decide) HBA.out
  · rw [if_neg hr5]
    have hs := List.getElem?_eq_getElem hk
    generalize ss[k] = sl at hs
    have HSL := Lib.hid (show (∃ b o D q, As = some ⟨b, o, none⟩ ∧ (w.alloc (.cells #[.int .i64 5, .int .i64 k, str s] 41)).cell? ⟨b, o + k, none⟩ = some (.slice D sl.length q) ∧ SeeI (w.alloc (.cells #[.int .i64 5, .int .i64 k, str s] 41)) B (.slice D sl.length q) sl) from HSV.out.at_ hs)
    have HIT : Hid (itemS ss k r = sl.getD r.toNat 0) := Lib.hid (by
      obtain ⟨q, rfl⟩ : ∃ q : Nat, r = q := ⟨r.toNat, by omega⟩
      rw [itemS_at hs]; rfl)
    rw [HIT.out]
    obtain ⟨rn, hrn⟩ : ∃ rn : Nat, r = rn := ⟨r.toNat, by omega⟩
    have hrt : r.toNat = rn := by omega
    rw [hrt]
    subst hrn
    clear hs HSV HIT hrt
    have HIO := Lib.hid (fun v W q => itemOf_any B v sl rn W q (by omega))
    generalize sl.getD rn 0 = it at *
    have HF := Lib.hid (fun v1 v2 v3 W p => fill_any B N x 0 0 0 false (.slice As ss.length cs) v1 v2 v3 zs bs (rs.set k ((rn : Int) + 1)) s it W p hr h12)
    generalize hst : (if (setS bs s it).2 = true then onS ⟨x, zs, (setS bs s it).1, rs.set k ((rn : Int) + 1), 0⟩ else endS ⟨x, zs, bs, rs, 0⟩ 4) = st
    have HST := Lib.hid hst
    clear hst
    go_enter Tryz.func139, Tryz.ntmps139
    go_upto_region 1 with fail
    generalize w.alloc _ = W at *
    obtain ⟨p0, p1, p2, p3, p4, p5, p6, p7, p8⟩ := cells9 HA.out.blk
    dsimp only [onS] at p0 p1 p2 p3 p4 p5 p6 p7 p8
    obtain ⟨o0, o1, o2⟩ := cells3 HO.out
    obtain ⟨b, o, D, q, rfl, hcs, hsl⟩ := HSL.out
    have hr5' : ¬ ((rn : Int) = 100000) := hr5
    go_upto_region 4 with fail
    have hkr2 : (k : Int) < (rs.length : Int) := by omega
    have hk2 : (k : Int) < (ss.length : Int) := by omega
    go_quiet (first | (go_at_call 164; exact Calls.quiet_of_same (HIO.out _ _ (by first | exact hsl | exact hsl.drewN _))))
    clear p0 p1 p2 p3 p4 p5 p6 p7 p8 o0 o1 o2 hcs hsl
    generalize hQ : World.drewN _ _ = V
    obtain ⟨nq, hnq⟩ : ∃ k, V = W.drewN k := ⟨_, hQ.symm⟩
    clear hQ
    have HAV := Lib.hid (show Pl V B N (onS ⟨x, zs, bs, rs, 0⟩) (.slice (some ⟨b, o, none⟩) ss.length cs) u1 u2 (.slice (some ⟨g3, 0, none⟩) rs.length c3) from by rw [hnq]; exact HA.out.drewN nq)
    have HBV := Lib.hid (show Below B w V from by rw [hnq]; exact below_drewN HBA.out nq)
    have HOV := Lib.hid (show V.heap[w.heap.size]? = some (.cells #[.int .i64 5, .int .i64 k, str s] 41 (0, 0)) from by rw [hnq]; exact HO.out)
    have hcv : V.cell? ⟨g3, k, none⟩ = some (.int .i64 rn) := by rw [hnq]; exact hcr
    have hfv : V.frozen? ⟨g3, k, none⟩ = false := by rw [hnq]; exact hfr
    clear hnq hcr hfr HA HBA HO HSL HIO
    obtain ⟨o0, o1, o2⟩ := cells3 HOV.out
    have hwr : IntKind.i64.wrap ((rn : Int) + 1) = (rn : Int) + 1 := by rw [IntKind.wrap_i64]; omega
    go_upto_region 6 with fail
    have HP3 := Lib.hid (HAV.out.reads (k := k) hkr ((rn : Int) + 1))
    have HB3 := Lib.hid (HBV.out.setCell (p := ⟨g3, k, none⟩) hg3.1 (.int .i64 ((rn : Int) + 1)))
    have HO3 := Lib.hid (show (V.setCell ⟨g3, k, none⟩ (.int .i64 ((rn : Int) + 1))).heap[w.heap.size]? = some (.cells #[.int .i64 5, .int .i64 k, str s] 41 (0, 0)) from by
      rw [Below.heap_setCell _ _ _ _ (by show w.heap.size ≠ g3; omega)]; exact HOV.out)
    clear o0 o1 o2 hcv hfv
    generalize World.setCell _ _ _ = V3 at *
    obtain ⟨o0, o1, o2⟩ := cells3 HO3.out
    go_wp2_with fail
    refine (HF.out _ _ _ V3 HP3.out).mono ?_
    intro e w4 hf
    obtain ⟨fk, rfl⟩ := hf.ret
    go_wp2_with fail
    go_ret
    rw [← HST.out]
    exact DoOut.fill hf HB3.out

end Go.Proofs.YtigcbegeaikfcaaGreatDoor
