/- Layer 9 (the player): the program's player in its block; put, take, and what needs no more than these. No conditions but those typed. -/
import Derived.Test.YtpmdfogncoapjaaGreatDoorCoreX
import Derived.Test.YtpmdfogncoapjaaGreatDoorPlyA
import Derived.Test.YtpmdfogncoapjaaGreatDoorPlyB
namespace Go.Proofs.YtpmdfogncoapjaaGreatDoor
open Go.RowKit
set_option linter.unusedVariables false

theorem cells9 {w : World} {g : Nat} {a b c d e f h i j : Value} {T : TypeId} (r : w.heap[g]? = some (.cells #[a, b, c, d, e, f, h, i, j] T (0, 0))) :
    w.cell? ⟨g, 0, none⟩ = some a ∧ w.cell? ⟨g, 1, none⟩ = some b ∧ w.cell? ⟨g, 2, none⟩ = some c ∧ w.cell? ⟨g, 3, none⟩ = some d ∧ w.cell? ⟨g, 4, none⟩ = some e ∧ w.cell? ⟨g, 5, none⟩ = some f ∧ w.cell? ⟨g, 6, none⟩ = some h ∧ w.cell? ⟨g, 7, none⟩ = some i ∧ w.cell? ⟨g, 8, none⟩ = some j :=
  ⟨by rw [cell_of_row _ _ 0 _ _ (0, 0) r]; rfl, by rw [cell_of_row _ _ 1 _ _ (0, 0) r]; rfl, by rw [cell_of_row _ _ 2 _ _ (0, 0) r]; rfl, by rw [cell_of_row _ _ 3 _ _ (0, 0) r]; rfl, by rw [cell_of_row _ _ 4 _ _ (0, 0) r]; rfl,
   by rw [cell_of_row _ _ 5 _ _ (0, 0) r]; rfl, by rw [cell_of_row _ _ 6 _ _ (0, 0) r]; rfl, by rw [cell_of_row _ _ 7 _ _ (0, 0) r]; rfl, by rw [cell_of_row _ _ 8 _ _ (0, 0) r]; rfl⟩

/-- A player: a step and slots, in one block; its core's rows are nobody else's. -/
structure Pl (w : World) (B N : Nat) (st : St) (vs u1 u2 u3 : Value) : Prop where
  blk : w.heap[N]? = some (.cells #[.int .i64 st.c.pl, u1, u2, u3, .int .i64 st.c.cd, .bool st.says, .int .i64 st.gate, .int .i64 st.val, vs] 81 (0, 0))
  own : OwnC w B u1 u2 u3 st.c.pile st.c.bxs st.c.rds
  hB : B ≤ N
  no : ¬ rowsC u1 u2 u3 N
theorem Pl.lt {w : World} {B N : Nat} {st : St} {vs u1 u2 u3 : Value} (h : Pl w B N st vs u1 u2 u3) : N < w.heap.size := heap_lt h.blk
theorem Pl.later {w w' : World} {B N : Nat} {st : St} {vs u1 u2 u3 : Value} (h : Pl w B N st vs u1 u2 u3) (b : Below w.heap.size w w') : Pl w' B N st vs u1 u2 u3 := ⟨row_later h.blk b, h.own.later b, h.hB, h.no⟩
theorem Pl.drewN {w : World} {B N : Nat} {st : St} {vs u1 u2 u3 : Value} (h : Pl w B N st vs u1 u2 u3) (k : Nat) : Pl (w.drewN k) B N st vs u1 u2 u3 := ⟨h.blk, h.own.drewN k, h.hB, h.no⟩

/-- What a player's method hands back: a code; where that is none, the player goes on. -/
def PlOut (B N : Nat) (vs : Value) (st : St) (w : World) (e : Ending) (w' : World) : Prop := e = .returned (.int .i64 st.c.cd) ∧ Below B w w' ∧ (st.c.cd = 0 → ∃ u1 u2 u3, Pl w' B N st vs u1 u2 u3)
/-- A word, and the player as it is behind that. -/
def TkOut (B N : Nat) (vs : Value) (r : Int) (st : St) (w : World) (e : Ending) (w' : World) : Prop := e = .returned (.int .i64 r) ∧ Below B w w' ∧ ∃ u1 u2 u3, Pl w' B N st vs u1 u2 u3

theorem OwnC.push9 {W w1 : World} {B : Nat} {u1 v' u2 u3 : Value} {zs : List Int} {bs : List Bx} {rs : List Int} {m : Int} (h : OwnC W B u1 u2 u3 zs bs rs)
    (own : w1.ownsRow B 2 1 v' (zs.length + 1) (zs.map (Value.int .i64) ++ [.int .i64 m])) (gr : W.grownBy w1 u1.ownBlock) (hat : v'.ownBlock = u1.ownBlock ∨ v'.ownBlock = some W.heap.size) : OwnC w1 B v' u2 u3 (zs ++ [m]) bs rs := by
  have hon : Only (fun k => u1.ownBlock = some k) W w1 := Only.of_grown gr (fun k e => e)
  have hb2 := OwnN.lt h.o2
  have hb3 := h.o3.lt
  have o2 := OwnBx.of_row0 (own_only h.o2.row0 hon (fun k hk e => h.a12 k e hk))
  have o3 : OwnI w1 B 2 u3 rs := own_only h.o3 hon (fun k hk e => h.a13 k e hk)
  refine ⟨by unfold OwnI; rw [List.map_append, List.length_append]; exact own, o2, o3, fun k a b => ?_, fun k a b => ?_, h.a23⟩
  · rcases hat with q | q
    · exact h.a12 k (q ▸ a) b
    · rw [q] at a; injection a with a; have := (hb2 k b).2; omega
  · rcases hat with q | q
    · exact h.a13 k (q ▸ a) b
    · rw [q] at a; injection a with a; have := (hb3 k b).2; omega
theorem OwnC.boxes9 {W w1 : World} {B g' c' n' : Nat} {u1 u2 u3 : Value} {zs : List Int} {bs bs' : List Bx} {rs : List Int} (h : OwnC W B u1 u2 u3 zs bs rs)
    (own : OwnBx w1 B 92 (.slice (some ⟨g', 0, none⟩) n' c') bs') (gr : W.grownBy w1 u2.ownBlock) (hat : u2.ownBlock = some g' ∨ W.heap.size ≤ g') : OwnC w1 B u1 (.slice (some ⟨g', 0, none⟩) n' c') u3 zs bs' rs := by
  have hon : Only (fun k => u2.ownBlock = some k) W w1 := Only.of_grown gr (fun k e => e)
  have h1 := h.o1.lt
  have h3 := h.o3.lt
  refine ⟨own_only h.o1 hon (fun k hk e => h.a12 k hk e), own, own_only h.o3 hon (fun k hk e => h.a23 k e hk), fun k a b => ?_, h.a13, fun k a b => ?_⟩
  · simp [Value.ownBlock] at b
    subst b
    rcases hat with q | q
    · exact h.a12 _ a q
    · have := (h1 _ a).2; omega
  · simp [Value.ownBlock] at a
    subst a
    rcases hat with q | q
    · exact h.a23 _ q b
    · have := (h3 _ b).2; omega

set_option maxHeartbeats 2000000 in
set_option maxRecDepth 100000 in
theorem put_any (B N : Nat) (x y gt t : Int) (b : Bool) (vs u1 u2 u3 : Value) (zs : List Int) (bs : List Bx) (rs : List Int) (m : Int) (w : World) (h : Pl w B N ⟨⟨x, zs, bs, rs, y⟩, b, gt, t⟩ vs u1 u2 u3) (hl : zs.length < 60) :
    Calls Tryz.prog 160 #[.pointer (some ⟨N, 0, none⟩), .int .i64 m] w (TkOut B N vs 0 ⟨⟨x, zs ++ [m], bs, rs, y⟩, b, gt, t⟩ w) := by
  obtain ⟨i0, hi, hz0, hz1, hz2⟩ := info_parts Tryz.infoI64
  have hN := h.lt
  have bA := below_new w (.cells #[.int .i64 m] 2)
  have HA := Lib.hid (h.later bA)
  have hown := HA.out.own.o1
  have hrow := HA.out.blk
  obtain ⟨hB, hno⟩ := (⟨h.hB, h.no⟩ : B ≤ N ∧ ¬ rowsC u1 u2 u3 N)
  have HNO := Lib.hid hno
  have HLT := Lib.hid (fun k q => (h.own.lt k q))
  clear hno
  dsimp only at hown hrow
  obtain ⟨p0, p1, p2, p3, p4, p5, p6, p7, p8⟩ := cells9 h.blk
  dsimp only at p0 p1 p2 p3 p4 p5 p6 p7 p8
  obtain ⟨A, cp, e1⟩ := h.own.o1.see.shape
  dsimp only at e1
  subst e1
  have hl60 : ¬ ((zs.length : Int) = 60) := by omega
  clear h
  go_enter Tryz.func160, Tryz.ntmps160
  go_wp2_with (at_builtin; refine wpList_append_own_at _ rfl _ _ 24 rfl B 2 i0 (.int .i64 0) 1 8 Tryz.underlying24 hi hz0 hz1 hz2 rfl (by decide) _ _ _ rfl hown ⟨w.heap.size, 0, none⟩ 1 1 [.int .i64 m] rfl rfl (cell_one_new _ _ _) (by intro u hu; simp at hu; subst hu; rfl) (by unfold maxLen; omega) (by omega) (by simp; omega) ?_; intro v1 w1 hown1 hgr hnil hat; (obtain ⟨g1, k1, rfl⟩ := own_base hown1 (fun q => by have := (hnil.1 q).2; cases this)); have hrow1 := (hgr.block N (by simp; omega) (fun q => HNO.out (.inl q.symm))).trans hrow; have hfz := frozen_row (k := 1) hrow1; (obtain ⟨r0, r1, r2, r3, r4, r5, r6, r7, r8⟩ := cells9 hrow1))
  go_ret
  have hO := HA.out.own.push9 hown1 hgr hat
  have hno1 : ¬ rowsC (.slice (some ⟨g1, 0, none⟩) (zs.length + 1) k1) u2 u3 N := fun q => by
    rcases q with q | q
    · rcases hat with a | a
      · exact HNO.out (.inl (a ▸ q))
      · rw [a] at q; injection q with q; simp at q; omega
    · exact HNO.out (.inr q)
  exact ⟨rfl, (((bA.mono (by omega)).grown hgr (by simp; omega) (fun k e => (HLT.out k (.inl e)).1))).setCell hB _, _, u2, u3, by rw [heap_set hrow1]; simp, hO.set hno1 _, hB, hno1⟩
set_option maxHeartbeats 2000000 in
set_option maxRecDepth 100000 in
theorem put_full (B N : Nat) (x y gt t : Int) (b : Bool) (vs u1 u2 u3 : Value) (zs : List Int) (bs : List Bx) (rs : List Int) (m : Int) (w : World) (h : Pl w B N ⟨⟨x, zs, bs, rs, y⟩, b, gt, t⟩ vs u1 u2 u3) (hl : zs.length = 60) :
    Calls Tryz.prog 160 #[.pointer (some ⟨N, 0, none⟩), .int .i64 m] w fun e w' => e = .returned (.int .i64 4) ∧ w = w' := by
  obtain ⟨p0, p1, p2, p3, p4, p5, p6, p7, p8⟩ := cells9 h.blk
  dsimp only at p0 p1 p2 p3 p4 p5 p6 p7 p8
  obtain ⟨A, cp, e1⟩ := h.own.o1.see.shape
  dsimp only at e1
  rw [hl] at e1
  subst e1
  clear h
  go_enter Tryz.func160, Tryz.ntmps160
  go_wp2_with fail
  go_ret
  exact ⟨rfl, rfl⟩

set_option maxHeartbeats 2000000 in
set_option maxRecDepth 100000 in
theorem take_any (B N n : Nat) (x y gt t : Int) (b : Bool) (vs u1 u2 u3 : Value) (zs : List Int) (bs : List Bx) (rs : List Int) (w : World) (h : Pl w B N ⟨⟨x, zs, bs, rs, y⟩, b, gt, t⟩ vs u1 u2 u3) (hn : zs.length = n + 1) (hl : n < 60) :
    Calls Tryz.prog 161 #[.pointer (some ⟨N, 0, none⟩)] w (fun e w' => TkOut B N vs (topS zs 1) ⟨⟨x, cutS zs 1, bs, rs, y⟩, b, gt, t⟩ w e w' ∧ Only (fun g => g = N) w w') := by
  have hN := h.lt
  have hO := h.own
  dsimp only at hO
  obtain ⟨hB, hno⟩ := (⟨h.hB, h.no⟩ : B ≤ N ∧ ¬ rowsC u1 u2 u3 N)
  have hrow := h.blk
  dsimp only at hrow
  clear h
  obtain ⟨g, c1, e1⟩ : ∃ g c, u1 = .slice (some ⟨g, 0, none⟩) (n + 1) c := by
    rcases hO.o1.2 with ⟨q, q2⟩ | ⟨g, c, cur, q, _⟩
    · omega
    · rw [hn] at q; exact ⟨g, c, q⟩
  subst e1
  obtain ⟨g', o', u, e, -, hu, hc⟩ := hO.o1.see.at_ (k := n) (by omega)
  injection e with e
  injection e with e1 e2
  subst e1 e2
  rw [Nat.zero_add] at hc
  have HT : Hid (topS zs 1 = u) := Lib.hid (by unfold topS; rw [hn, Nat.add_sub_cancel, List.getD_eq_getElem?_getD, hu]; rfl)
  have HL : Hid (cutS zs 1 = zs.take n) := Lib.hid (by unfold cutS; rw [hn, Nat.add_sub_cancel])
  have hcap : (n : Int) ≤ (c1 : Int) := by have := hO.o1.cap.1; omega
  have hcap2 : (c1 : Int) ≤ 9223372036854775807 := by have := hO.o1.cap.2; unfold maxLen at this; omega
  have hfz := frozen_row (k := 1) hrow
  obtain ⟨p0, p1, p2, p3, p4, p5, p6, p7, p8⟩ := cells9 hrow
  have HO := Lib.hid (hO.cut (k := n) (by omega))
  have HNO := Lib.hid (show ¬ rowsC (.slice (some ⟨g, 0, none⟩) n c1) u2 u3 N from hno)
  have HR := Lib.hid hrow
  have HBN := Lib.hid hB
  have hw1 : IntKind.i64.wrap ((n : Int) + 1 - 1) = (n : Int) := by rw [IntKind.wrap_i64]; omega
  clear hO hno hrow hu hn hB
  rw [HT.out, HL.out]
  clear HT HL
  go_enter Tryz.func161, Tryz.ntmps161
  go_wp2_with fail
  go_ret
  exact ⟨⟨rfl, (Below.refl _ _).setCell HBN.out _, _, u2, u3, by rw [heap_set HR.out]; simp, HO.out.set HNO.out _, HBN.out, HNO.out⟩, ⟨rfl, rfl, rfl, by simp [World.setCell], fun i _ hi => Below.heap_setCell _ _ _ _ hi⟩⟩

end Go.Proofs.YtpmdfogncoapjaaGreatDoor
