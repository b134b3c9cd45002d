/- Proved: FnExactStepped of the translated program returns true at every argument and leaves its arguments as they were; the listed variables are tied to the program's text. Conditions: none but the card's own. -/
import Derived.Test.YtigcbegeaikfcaaGreatDoorRows
import Derived.Test.YtigcbegeaikfcaaGreatDoorTie
import Derived.Test.YtigcbegeaikfcaaGreatDoorCards
import Derived.Test.YtigcbegeaikfcaaGreatDoorPlyM
import Derived.Test.YtigcbegeaikfcaaGreatDoorOpenO
import Derived.Deep.DeepHandedRow
import Derived.LaidMore
import Derived.Lay
import Derived.SevenTiedAt
import Derived.Stop.Joined
import Derived.Shelf.Vars
import Derived.MakeChecks
import Derived.ChangeVars
import Derived.OpenVars
import Derived.WalkKit
import Derived.ProofKit
import Derived.OpenShut
import Derived.ShutString
import Derived.ChangeOld
import Derived.Below
namespace Go.Proofs.YtigcbegeaikfcaaGreatDoor.fnExactStepped
open Go.ChangeShapes Go.WideShapes Go.ChangeAt Go.RowKit
open Go.ChangeMaps (open_string shut_string)
set_option linter.unusedVariables false

theorem own : ownKnob Tryz.prog.godebug = none := by kernel_rfl
theorem laidOut : laidOutB Tryz.prog = true := by kernel_rfl

theorem walk (w : World) (x0 y0 : Int) (va0 vb0 vc0 : Value) (zs0 : List Int) (bs0 : List Bx) (rs0 : List Int) (s0 : SeeI w w.heap.size va0 zs0) (t0 : SeeBx w w.heap.size vb0 bs0) (r0 : SeeI w w.heap.size vc0 rs0) (f0 : ∀ b ∈ bs0, b.1.length ≤ 9223372036854775807) (v1 : Value) (bs1 : List Opv) (s1 : SeeOp w w.heap.size v1 bs1) (t1 : ∀ b ∈ bs1, b.2.2.length ≤ 9223372036854775807) (v2 : Value) (ss2 : List (List Int)) (s2 : SeeSS w w.heap.size v2 ss2) (hsh : w.ShapedOpen Tryz.prog) (hL : laidMetH Tryz.prog Rows.fnExactSteppedRow.laid w) :
    Calls Tryz.prog 5 #[.agg #[.int .i64 x0, va0, vb0, vc0, .int .i64 y0], v1, v2] w fun e w' => e = .returned (.bool true) ∧ Below w.heap.size w w' :=
  stepped_law x0 y0 va0 vb0 vc0 v1 v2 zs0 bs0 rs0 bs1 ss2 w s0 t0 r0 f0 s1 t1 s2 (by have h := hL; rw [MakeChecks.laidMetH_plain _ _ _ (by kernel_rfl)] at h; exact forms_of_head (rest := []) h)

set_option maxRecDepth 100000 in
theorem lifted (os : Os) (started : os.Started) (H : Type) (enc : TypeId × Value → H) (F : Stop.Interp) :
    ReturnsInHanded {} Tryz.checked os 5 .any ((OpenSpec.ofChange Rows.fnExactSteppedSpec).preRow enc Tryz.prog Tryz.f5 Rows.fnExactSteppedRow.domain false Rows.fnExactSteppedRow.laid) (((OpenSpec.ofChange Rows.fnExactSteppedSpec).at F).post enc Tryz.prog Tryz.f5 false true false false) := by
  refine returnsInHanded_of_row (C := Tryz.checked) (s := OpenSpec.ofChange Rows.fnExactSteppedSpec) own started (by kernel_rfl) Tryz.func5
    (ChangeSpec.witness_shaped (enc := enc) (C := Tryz.checked) (os := os) (s := Rows.fnExactSteppedSpec) (X := fun w _ => laidMetH Tryz.prog Rows.fnExactSteppedRow.laid w) false (World.laidAll Tryz.prog os Rows.fnExactSteppedRow.laid) #[.agg #[.int .i64 0, .slice none 0 0, .slice none 0 0, .slice none 0 0, .int .i64 0], .slice none 0 0, .slice none 0 0] 8 (World.laidAll_os _ _ _)
      (World.shaped_of_ZipB (by kernel_rfl) (by kernel_rfl)) (by kernel_rfl) (by kernel_rfl) (by kernel_rfl)
      (by rw [MakeChecks.laidMetH_plain _ _ _ (by kernel_rfl)]; exact laidMet_laidAll _ (by kernel_rfl) (by kernel_rfl))) ?_
  intro W base args ds gs before hval0 hW _ _ _ hL hsh _
  have hval : ∀ (j : Nat) t v, Tryz.f5.params[j]? = some t → args[j]? = some v → Value.okWide Tryz.prog W .any base t v := hval0
  have hW' := hW
  obtain ⟨p, q, hA0, hV, rfl, hfz, hnd⟩ := hW
  have hA : DataW.TrodAll enc Tryz.prog W 0 (fun _ => true) true Tryz.f5.params.toList args.toList ds p := hA0
  rw [Tryz.params5] at hA hval
  obtain ⟨v0, vs0, d0, ds0, p0, q0, hargs, rfl, rfl, h0, r0⟩ := trodAll_cons hA
  obtain ⟨v1, vs1, d1, ds1, p1, q1, rfl, rfl, rfl, h1, r1⟩ := trodAll_cons r0
  obtain ⟨v2, vs2, d2, ds2, p2, q2, rfl, rfl, rfl, h2, r2⟩ := trodAll_cons r1
  obtain ⟨rfl, rfl, rfl⟩ := trodAll_nil r2
  obtain rfl : args = #[v0, v1, v2] := by cases args; simp_all
  have hVV := hV
  obtain ⟨gx, tx, csx, fux, dx, px, rfl, -, -, -, -, hqx⟩ := Go.ChangeShapes.trodVars_one hV
  have k0 := h0
  have lt0 : ∀ x ∈ p0, x.block < W.heap.size := by obtain ⟨m, hm⟩ := k0; exact DataW.trod_lt m _ _ _ hm
  obtain ⟨x0, y0, va0, vb0, vc0, zs0, bs0, rs0, rfl, s0, t0, z0, f0⟩ := open_core Tryz.underlying58 rfl rfl rfl rfl rfl (by kernel_rfl) (by kernel_rfl) (by kernel_rfl) (by kernel_rfl) (by kernel_rfl) Tryz.underlying2 Tryz.underlying24 Tryz.underlying56 Tryz.underlying24 Tryz.underlying2 Tryz.underlying2 (by kernel_rfl) Tryz.underlying2 (by kernel_rfl) Tryz.underlying143 (by kernel_rfl) rfl rfl (by kernel_rfl) (by kernel_rfl) Tryz.underlying9 Tryz.underlying2 (by kernel_rfl) (hval 0 58 v0 rfl rfl) h0
  have k1 := h1
  have lt1 : ∀ x ∈ p1, x.block < W.heap.size := by obtain ⟨m, hm⟩ := k1; exact DataW.trod_lt m _ _ _ hm
  obtain ⟨a1, l1, c1, rfl⟩ := okWide_slice Tryz.underlying59 (hval 1 59 v1 rfl rfl)
  obtain ⟨f1, q1⟩ := h1
  obtain ⟨bs1, s1, t1⟩ := see_rows (v := .slice a1 l1 c1) 3 opV (fun o => o.2.2.length ≤ 9223372036854775807) Tryz.underlying59 (by kernel_rfl) (by decide) (fun fuel cs y hl hh => op_cells Tryz.underlying102 rfl rfl rfl (by kernel_rfl) (by kernel_rfl) (by kernel_rfl) Tryz.underlying2 Tryz.underlying2 Tryz.underlying9 hl hh) q1
  have k2 := h2
  have lt2 : ∀ x ∈ p2, x.block < W.heap.size := by obtain ⟨m, hm⟩ := k2; exact DataW.trod_lt m _ _ _ hm
  obtain ⟨a2, l2, c2, rfl⟩ := okWide_slice Tryz.underlying29 (hval 2 29 v2 rfl rfl)
  obtain ⟨f2, q2⟩ := h2
  obtain ⟨ss2, s2⟩ := see_slots (v := .slice a2 l2 c2) Tryz.underlying29 (by kernel_rfl) Tryz.underlying24 Tryz.underlying2 (by kernel_rfl) q2
  clear hA0 hval0
  have hwalk := walk W x0 y0 va0 vb0 vc0 zs0 bs0 rs0 s0 t0 z0 f0 (.slice a1 l1 c1) bs1 s1 t1 (.slice a2 l2 c2) ss2 s2 hsh hL
  refine hwalk.mono fun e W' ⟨he, bel⟩ => ?_
  subst he
  exact ⟨_, rfl, _, _, _, [], _, _, hW', trodAll_mk1 (shut_bool Tryz.underlying4 _), (trodAll_cons_mk (Below.trod laidOut (by kernel_rfl) (of_decide_eq_true (by kernel_rfl)) k0 bel lt0) (trodAll_cons_mk (Below.trod laidOut (by kernel_rfl) (of_decide_eq_true (by kernel_rfl)) k1 bel lt1) (trodAll_cons_mk (Below.trod laidOut (by kernel_rfl) (of_decide_eq_true (by kernel_rfl)) k2 bel lt2) trodAll_mk0))), Below.trodVars laidOut bel (by kernel_rfl) hVV, bel.frame _, fun h => by cases h⟩

theorem over : Rows.FnExactSteppedSaid :=
  OpenClaim.holds_of_cond 5 Tryz.f5 rfl rfl rfl rfl rfl rfl rfl ⟨rfl, rfl, rfl, rfl, rfl⟩ rfl rfl rfl rfl rfl (by kernel_rfl) Tryz.func5 (by kernel_rfl)
    (of_decide_eq_true (by kernel_rfl)) (by unfold Func.isWrapper; first | (rw [if_pos (by decide +kernel)]; kernel_rfl) | (rw [if_neg (by decide +kernel)]; exact ⟨rfl, rfl⟩))
    (fun os started H enc _ F0 => by rw [OpenClaim.pre_eq_preRow]; exact lifted os started H enc F0)

/-- The statement: the card. -/
theorem proved : Rows.FnExactSteppedCardSaid :=
  Claim7.holds_tied_plain_at .later [] [.data] true (true, "5f47651b63b00c26649233d39ea9feb5b7c9513ab7fa5eebd3eb46918ff801b0") false over (fun _ h => by cases h) (by kernel_rfl) (fun _ h => by cases h) fnExactStepped_row_tie rfl ⟨rfl, rfl⟩ (by kernel_rfl) rfl
    (fun f fn hf hfn => by
      obtain rfl : f = 5 := Option.some.inj ((show Tryz.prog.funcNamed "loop.example/g00533/laws.FnExactStepped" = some 5 by kernel_rfl).symm.trans hf) |>.symm
      obtain rfl : fn = Tryz.f5 := (Option.some.inj (Tryz.func5.symm.trans hfn)).symm
      exact ⟨by kernel_rfl, fun j t ht => by
        rw [Tryz.params5] at ht
        have hm : t ∈ [58, 59, 29] := by simpa using Array.mem_of_getElem? ht
        have hall : ([58, 59, 29].all fun u => !Tryz.prog.wantsStandIn u) = true := by kernel_rfl
        exact (show Tryz.prog.wantsStandIn t = false by simpa using List.all_eq_true.1 hall t hm)⟩)
    (by kernel_rfl)
#print axioms proved
end Go.Proofs.YtigcbegeaikfcaaGreatDoor.fnExactStepped
