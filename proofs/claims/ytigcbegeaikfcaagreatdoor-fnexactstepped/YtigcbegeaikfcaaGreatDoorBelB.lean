/- Draws: l1Below whatever the number. No conditions but those typed. -/
import Derived.Test.YtigcbegeaikfcaaGreatDoorDrawA
namespace Go.Proofs.YtigcbegeaikfcaaGreatDoor
open Go.RowKit
set_option linter.unusedVariables false

set_option maxHeartbeats 1000000 in
theorem l1Below_big (g : Nat) (m : Int) (h0 : 256 < m) (h1 : m ≤ 4294967296) (w : World) (hc : Cur w g) : Calls Tryz.prog 49 #[.pointer (some ⟨g, 0, none⟩), .int .i64 m] w (ByteOut w g 0 (m - 1)) := by
  go_enter Tryz.func49, Tryz.ntmps49
  go_wp2_with fail
  refine (l1Byte_any g _ hc).mono ?_
  rintro e w1 ⟨x, rfl, hx0, hx1, c1, g1⟩
  go_wp2_with fail
  refine (l1Byte_any g _ c1).mono ?_
  rintro e w2 ⟨y, rfl, hy0, hy1, c2, g2⟩
  replace g2 := grown_trans g1 g2
  clear c1 g1
  go_wp2_with fail
  refine (l1Byte_any g _ c2).mono ?_
  rintro e w3 ⟨z, rfl, hz0, hz1, c3, g3⟩
  replace g3 := grown_trans g2 g3
  clear c2 g2
  go_wp2_with fail
  refine (l1Byte_any g _ c3).mono ?_
  rintro e w4 ⟨v, rfl, hv0, hv1, c4, g4⟩
  replace g4 := grown_trans g3 g4
  clear c3 g3
  go_wp2_with fail
  go_ret
  exact ⟨_, rfl, Int.emod_nonneg _ (by omega), by have := Int.emod_lt_of_pos (x * 16777216 + y * 65536 + z * 256 + v) (show 0 < m by omega); omega, c4, g4⟩

theorem l1Below_all (g : Nat) (m : Int) (h0 : 0 < m) (h1 : m ≤ 4294967296) (w : World) (hc : Cur w g) : Calls Tryz.prog 49 #[.pointer (some ⟨g, 0, none⟩), .int .i64 m] w (ByteOut w g 0 (m - 1)) := by
  by_cases h : m ≤ 256
  · exact l1Below_any g m h0 h w hc
  · exact l1Below_big g m (by omega) h1 w hc

end Go.Proofs.YtigcbegeaikfcaaGreatDoor
