/- The laws' own marks in lists of texts: markText, markStringS, heldStringS. No conditions but those typed. -/
import Derived.Test.YtpembdiopmdhfaaGreatDoorTxtL
import Derived.Test.YtpembdiopmdhfaaGreatDoorIntT
import Derived.Maps.AppendAt
namespace Go.Proofs.YtpembdiopmdhfaaGreatDoor
open Go.RowKit
set_option linter.unusedVariables false

/-- A number's digits; none of 0. -/
def digT (k : Nat) : List UInt8 := if h : k = 0 then [] else digT (k / 10) ++ [UInt8.ofNat (48 + k % 10)]
termination_by k
theorem digT_0 : digT 0 = [] := by rw [digT]; simp
theorem digT_s {k : Nat} (h : ¬ k = 0) : digT k = digT (k / 10) ++ [UInt8.ofNat (48 + k % 10)] := by
  conv => lhs; rw [digT]
  rw [dif_neg h]
def mkT (k : Nat) : List UInt8 := 109 :: digT k
/-- Marks from s on. -/
def mkTs (s n : Nat) : List (List UInt8) := (List.range n).map fun j => mkT (s + j)
theorem mkTs_length (s n : Nat) : (mkTs s n).length = n := by simp [mkTs]
theorem mkTs_at {s n k : Nat} (h : k < n) : (mkTs s n)[k]? = some (mkT (s + k)) := by simp [mkTs, h]
theorem mkTs_succ (s k : Nat) : mkTs s (k + 1) = mkTs s k ++ [mkT (s + k)] := by simp [mkTs, List.range_succ]

end Go.Proofs.YtpembdiopmdhfaaGreatDoor
