/- Layer 5 (words): the program's ReadWord (strconv's ParseInt and FormatInt by the library's contracts), and the law FnExactReadWord's walk. Condition: the listed variables hold what the program's text lays (Vars). -/
import Derived.Test.YtigcbegeaikfcaaDoorLowB
import Derived.Test.YtigcbegeaikfcaaDoorWordV
import Derived.Test.YtigcbegeaikfcaaDoorShelf
import Derived.Lib.AtoiErrMem
namespace Go.Proofs.YtigcbegeaikfcaaDoor
open Go.RowKit
set_option linter.unusedVariables false

def RdB (r : Option Int) (w : World) (e : Ending) (w' : World) : Prop := e = .returned (.tuple #[.int .i64 (r.getD 0), .bool r.isSome]) ∧ Below w.heap.size w w'
set_option maxHeartbeats 1000000 in
theorem iReadWord_any (l : List UInt8) (hl : l.length ≤ 1048576) (w : World) (V : Vars w) : Calls Tryd.prog 48 #[str l] w (RdB (rdS l) w) := by
  have hz : (⟨l.toArray⟩ : ByteArray).size = l.length := by simp [ByteArray.size]
  cases hp : Lib.parseIntB 32 l with
  | ok v =>
    have HO := Lib.hid (Tryd.strconv_ParseInt_10_at32_ok ⟨l.toArray⟩ (by rw [hz]; omega) v (by simpa using hp) w)
    have hw := wordB_iff.1 (parse_word hp)
    obtain ⟨w0, w1⟩ := hw
    by_cases he : Lib.itoa v = l
    · have HR := Lib.hid (rd_ok_same hp he)
      have HE := Lib.hid he
      clear hp he hz
      go_enter Tryd.func48, Tryd.ntmps48
      go_wp2_with fail
      refine HO.out.mono ?_
      rintro e W1 ⟨rfl, hW⟩
      have hb1 : Below w.heap.size w W1 := by
        rcases hW with rfl | ⟨t, rfl⟩
        · exact Below.refl _ _
        · exact Lib.bytesWorld_below _ _ _
      clear hW HO
      go_wp2_with fail
      refine (Tryd.strconv_FormatInt_10 v (by omega) (by omega) _ (V.below hb1).1).mono ?_
      rintro e W2 ⟨rfl, k, os, rfl⟩
      have hb2 := Lib.below_grow W1.heap.size W1 (Nat.le_refl _) k os
      generalize Go.Sort.grow (W1.drewN k) os = W2 at hb2 ⊢
      rw [HE.out]
      go_wp2_with fail
      go_ret2
      exact ⟨rd_some HR.out, hb1.trans (hb2.mono hb1.size)⟩
    · have HR := Lib.hid (rd_ok_other hp he)
      have hne : (!(Lib.itoa v == l)) = true := by simpa using he
      clear hp he hz
      go_enter Tryd.func48, Tryd.ntmps48
      go_wp2_with fail
      refine HO.out.mono ?_
      rintro e W1 ⟨rfl, hW⟩
      have hb1 : Below w.heap.size w W1 := by
        rcases hW with rfl | ⟨t, rfl⟩
        · exact Below.refl _ _
        · exact Lib.bytesWorld_below _ _ _
      clear hW HO
      go_wp2_with fail
      refine (Tryd.strconv_FormatInt_10 v (by omega) (by omega) _ (V.below hb1).1).mono ?_
      rintro e W2 ⟨rfl, k, os, rfl⟩
      have hb2 := Lib.below_grow W1.heap.size W1 (Nat.le_refl _) k os
      generalize Go.Sort.grow (W1.drewN k) os = W2 at hb2 ⊢
      generalize Lib.itoa v = q at hne ⊢
      go_wp2_with fail
      go_ret2
      exact ⟨rd_none HR.out, hb1.trans (hb2.mono hb1.size)⟩
  | «syntax» =>
    obtain ⟨_, ⟨tp, p, hv⟩, _⟩ := V
    have HO := Lib.hid (Tryd.strconv_ParseInt_10_at32_syntax ⟨l.toArray⟩ (by rw [hz]; omega) (by simpa using hp) _ w hv (.inr ⟨_, _, rfl⟩))
    have HR := Lib.hid (rd_no (l := l) (fun v e => by rw [hp] at e; cases e))
    clear hp hz hv
    go_enter Tryd.func48, Tryd.ntmps48
    go_wp2_with fail
    refine HO.out.mono ?_
    rintro e W1 ⟨N, rfl, -, -, hb⟩
    clear HO
    go_wp2_with fail
    go_ret2
    exact ⟨rd_none HR.out, hb⟩
  | range =>
    obtain ⟨_, _, tp, p, hv⟩ := V
    have HO := Lib.hid (Tryd.strconv_ParseInt_10_at32_range ⟨l.toArray⟩ (by rw [hz]; omega) (by simpa using hp) _ w hv (.inr ⟨_, _, rfl⟩))
    have HR := Lib.hid (rd_no (l := l) (fun v e => by rw [hp] at e; cases e))
    clear hp hz hv
    go_enter Tryd.func48, Tryd.ntmps48
    go_wp2_with fail
    refine HO.out.mono ?_
    rintro e W1 ⟨N, rfl, -, -, hb⟩
    clear HO
    go_wp2_with fail
    go_ret2
    exact ⟨rd_none HR.out, hb⟩

end Go.Proofs.YtigcbegeaikfcaaDoor
