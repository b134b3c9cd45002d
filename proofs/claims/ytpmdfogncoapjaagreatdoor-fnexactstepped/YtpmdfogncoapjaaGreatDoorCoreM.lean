/- Layer 9 (the player): a step, as plain mathematics: what a core comes to by one op. No function of the program is named. -/
import Derived.Test.YtpmdfogncoapjaaGreatDoorCoreB
import Derived.Test.YtpmdfogncoapjaaGreatDoorCodO
namespace Go.Proofs.YtpmdfogncoapjaaGreatDoor
open Go.RowKit
set_option linter.unusedVariables false

/-- A core. -/
structure Cr where
  pl : Int
  pile : List Int
  bxs : List Bx
  rds : List Int
  cd : Int
/-- A step. -/
structure St where
  c : Cr
  says : Bool
  gate : Int
  val : Int
def crB (c : Cr) : Bool := coreB c.pl c.pile c.bxs c.rds c.cd
def endS (c : Cr) (k : Int) : St := ⟨{ c with cd := k }, false, 0, 0⟩
def onS (c : Cr) : St := ⟨c, false, 0, 0⟩
def slotB (s : List Int) : Bool := decide (s.length ≤ 40) && s.all wordB
def slotsB (ss : List (List Int)) : Bool := decide (1 ≤ ss.length ∧ ss.length ≤ 4) && ss.all slotB
def codeB (os : List Opv) : Bool := decide (os.length ≤ 300) && os.all opB
def itemS (ss : List (List Int)) (g k : Int) : Int := (ss.getD g.toNat []).getD k.toNat 0
/-- Where a box of that name belongs. -/
def placeS (bs : List Bx) (n : List UInt8) : Nat := (bs.takeWhile fun b => Op.bytesLess b.1 n).length
/-- The boxes with that one set. -/
def setS (bs : List Bx) (n : List UInt8) (x : Int) : List Bx × Bool :=
  match bs[placeS bs n]? with
  | some b => if b.1 = n then (bs.set (placeS bs n) (n, x), true) else if bs.length = 12 then (bs, false) else (bs.take (placeS bs n) ++ [(n, x)] ++ bs.drop (placeS bs n), true)
  | none => if bs.length = 12 then (bs, false) else (bs ++ [(n, x)], true)
/-- How many words an op takes. -/
def needS (a : Int) : Nat := if a = 3 then 2 else if a = 4 ∨ a = 6 ∨ a = 8 then 1 else 0
def topS (l : List Int) (k : Nat) : Int := l.getD (l.length - k) 0
def cutS (l : List Int) (k : Nat) : List Int := l.take (l.length - k)
/-- What an op for which enough lies there does. -/
def doS (c : Cr) (o : Opv) (ss : List (List Int)) : St :=
  if o.1 = 1 then onS { c with pl := c.pl + 1, pile := c.pile ++ [o.2.1] }
  else if o.1 = 2 then onS { c with pl := c.pl + 1, pile := c.pile ++ [valueS c.bxs o.2.2] }
  else if o.1 = 3 then (if (didS o.2.1 (topS c.pile 2) (topS c.pile 1)).2 = true then onS { c with pl := c.pl + 1, pile := cutS c.pile 2 ++ [(didS o.2.1 (topS c.pile 2) (topS c.pile 1)).1] } else endS c 3)
  else if o.1 = 4 then (if (setS c.bxs o.2.2 (topS c.pile 1)).2 = true then onS { c with pl := c.pl + 1, bxs := (setS c.bxs o.2.2 (topS c.pile 1)).1, pile := cutS c.pile 1 } else endS c 4)
  else if o.1 = 5 then (if c.rds.getD o.2.1.toNat 0 = 100000 then endS c 4
    else if (setS c.bxs o.2.2 (itemS ss o.2.1 (c.rds.getD o.2.1.toNat 0))).2 = true then onS { c with pl := c.pl + 1, bxs := (setS c.bxs o.2.2 (itemS ss o.2.1 (c.rds.getD o.2.1.toNat 0))).1, rds := c.rds.set o.2.1.toNat (c.rds.getD o.2.1.toNat 0 + 1) }
    else endS c 4)
  else if o.1 = 6 then ⟨{ c with pl := c.pl + 1, pile := cutS c.pile 1 }, true, o.2.1, topS c.pile 1⟩
  else if o.1 = 7 then onS { c with pl := o.2.1 }
  else if o.1 = 8 then onS { c with pl := if topS c.pile 1 = 0 then o.2.1 else c.pl + 1, pile := cutS c.pile 1 }
  else if o.1 = 9 then endS c 2
  else if o.1 = 10 then endS c 1
  else onS { c with pl := c.pl + 1 }
/-- Is that op bad, there? -/
def badS (c : Cr) (o : Opv) (ss : List (List Int)) : Bool :=
  decide (c.pile.length < needS o.1) || (decide (o.1 = 1 ∨ o.1 = 2) && decide (60 < c.pile.length + 1)) || (decide (o.1 = 5 ∨ o.1 = 6) && decide ((ss.length : Int) ≤ o.2.1))
/-- A step of a core, code and slots that are right. -/
def stepS (c : Cr) (os : List Opv) (ss : List (List Int)) : St :=
  if ¬ c.cd = 0 then onS c else match os[c.pl.toNat]? with
  | none => endS c 4
  | some o => if badS c o ss = true then endS c 4 else doS c o ss
def steppedS (c : Cr) (os : List Opv) (ss : List (List Int)) : St :=
  if crB c = false then ⟨⟨0, [], [], [], 4⟩, false, 0, 0⟩
  else if c.cd = 0 ∧ ¬ (codeB os = true ∧ slotsB ss = true) then endS c 4
  else stepS c os ss

theorem place_le (bs : List Bx) (n : List UInt8) : placeS bs n ≤ bs.length := by
  unfold placeS
  exact (List.takeWhile_sublist _).length_le
theorem place_at {bs : List Bx} {n : List UInt8} {k : Nat} (h : ∀ j b, j < k → bs[j]? = some b → Op.bytesLess b.1 n = true) (hk : ∀ b, bs[k]? = some b → Op.bytesLess b.1 n = false) (hl : k ≤ bs.length) : placeS bs n = k := by
  unfold placeS
  induction bs generalizing k with
  | nil => simp at hl; simp [hl]
  | cons b r ih =>
    cases k with
    | zero =>
      have := hk b rfl
      simp [this]
    | succ k =>
      have h0 := h 0 b (by omega) rfl
      rw [List.takeWhile_cons, h0]
      simp only [if_true, List.length_cons]
      rw [ih (k := k) (fun j c hj hc => h (j + 1) c (by omega) (by simpa using hc)) (fun c hc => hk c (by simpa using hc)) (by simpa using hl)]

end Go.Proofs.YtpmdfogncoapjaaGreatDoor
