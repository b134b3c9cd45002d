/- Layer 9 (the player): a step, as plain mathematics: what a core comes to by one op. No function of the program is named. Layer 9 (the player): slots and code, of the model: l9Slots, l8Code, l9Item, l9Turn, l1Copy, l9Copy. No conditions but those typed. Layer 9 (the player): copies and small helpers of the model: l1Copy, l9Copy, l9Turn, l9Bad. No conditions but those typed. -/
import Derived.Test.YtigcbegeaikfcaaGreatDoorCoreB
import Derived.Test.YtigcbegeaikfcaaGreatDoorCodO
import Derived.Test.YtigcbegeaikfcaaGreatDoorSltM
namespace Go.Proofs.YtigcbegeaikfcaaGreatDoor
open Go.RowKit
set_option linter.unusedVariables false

/-- A core. -/
structure Cr where
  pl : Int
  pile : List Int
  bxs : List Bx
  rds : List Int
  cd : Int
/-- A step. -/
structure St where
  c : Cr
  says : Bool
  gate : Int
  val : Int
def crB (c : Cr) : Bool := coreB c.pl c.pile c.bxs c.rds c.cd
def endS (c : Cr) (k : Int) : St := ⟨{ c with cd := k }, false, 0, 0⟩
def onS (c : Cr) : St := ⟨c, false, 0, 0⟩
def codeB (os : List Opv) : Bool := decide (os.length ≤ 300) && os.all opB
/-- Where a box of that name belongs. -/
def placeS (bs : List Bx) (n : List UInt8) : Nat := (bs.takeWhile fun b => Op.bytesLess b.1 n).length
/-- The boxes with that one set. -/
def setS (bs : List Bx) (n : List UInt8) (x : Int) : List Bx × Bool :=
  match bs[placeS bs n]? with
  | some b => if b.1 = n then (bs.set (placeS bs n) (n, x), true) else if bs.length = 12 then (bs, false) else (bs.take (placeS bs n) ++ [(n, x)] ++ bs.drop (placeS bs n), true)
  | none => if bs.length = 12 then (bs, false) else (bs ++ [(n, x)], true)
/-- How many words an op takes. -/
def needS (a : Int) : Nat := if a = 3 then 2 else if a = 4 ∨ a = 6 ∨ a = 8 then 1 else 0
def topS (l : List Int) (k : Nat) : Int := l.getD (l.length - k) 0
def cutS (l : List Int) (k : Nat) : List Int := l.take (l.length - k)
/-- What an op for which enough lies there does. -/
def doS (c : Cr) (o : Opv) (ss : List (List Int)) : St :=
  if o.1 = 1 then onS { c with pl := c.pl + 1, pile := c.pile ++ [o.2.1] }
  else if o.1 = 2 then onS { c with pl := c.pl + 1, pile := c.pile ++ [valueS c.bxs o.2.2] }
  else if o.1 = 3 then (if (didS o.2.1 (topS c.pile 2) (topS c.pile 1)).2 = true then onS { c with pl := c.pl + 1, pile := cutS c.pile 2 ++ [(didS o.2.1 (topS c.pile 2) (topS c.pile 1)).1] } else endS c 3)
  else if o.1 = 4 then (if (setS c.bxs o.2.2 (topS c.pile 1)).2 = true then onS { c with pl := c.pl + 1, bxs := (setS c.bxs o.2.2 (topS c.pile 1)).1, pile := cutS c.pile 1 } else endS c 4)
  else if o.1 = 5 then (if c.rds.getD o.2.1.toNat 0 = 100000 then endS c 4
    else if (setS c.bxs o.2.2 (itemS ss o.2.1 (c.rds.getD o.2.1.toNat 0))).2 = true then onS { c with pl := c.pl + 1, bxs := (setS c.bxs o.2.2 (itemS ss o.2.1 (c.rds.getD o.2.1.toNat 0))).1, rds := c.rds.set o.2.1.toNat (c.rds.getD o.2.1.toNat 0 + 1) }
    else endS c 4)
  else if o.1 = 6 then ⟨{ c with pl := c.pl + 1, pile := cutS c.pile 1 }, true, o.2.1, topS c.pile 1⟩
  else if o.1 = 7 then onS { c with pl := o.2.1 }
  else if o.1 = 8 then onS { c with pl := if topS c.pile 1 = 0 then o.2.1 else c.pl + 1, pile := cutS c.pile 1 }
  else if o.1 = 9 then endS c 2
  else if o.1 = 10 then endS c 1
  else onS { c with pl := c.pl + 1 }
/-- Is that op bad, there? -/
def badS (c : Cr) (o : Opv) (ss : List (List Int)) : Bool :=
  decide (c.pile.length < needS o.1) || (decide (o.1 = 1 ∨ o.1 = 2) && decide (60 < c.pile.length + 1)) || (decide (o.1 = 5 ∨ o.1 = 6) && decide ((ss.length : Int) ≤ o.2.1))
/-- A step of a core, code and slots that are right. -/
def stepS (c : Cr) (os : List Opv) (ss : List (List Int)) : St :=
  if ¬ c.cd = 0 then onS c else match os[c.pl.toNat]? with
  | none => endS c 4
  | some o => if badS c o ss = true then endS c 4 else doS c o ss
def steppedS (c : Cr) (os : List Opv) (ss : List (List Int)) : St :=
  if crB c = false then ⟨⟨0, [], [], [], 4⟩, false, 0, 0⟩
  else if c.cd = 0 ∧ ¬ (codeB os = true ∧ slotsB ss = true) then endS c 4
  else stepS c os ss

theorem place_le (bs : List Bx) (n : List UInt8) : placeS bs n ≤ bs.length := by
  unfold placeS
  exact (List.takeWhile_sublist _).length_le
theorem place_at {bs : List Bx} {n : List UInt8} {k : Nat} (h : ∀ j b, j < k → bs[j]? = some b → Op.bytesLess b.1 n = true) (hk : ∀ b, bs[k]? = some b → Op.bytesLess b.1 n = false) (hl : k ≤ bs.length) : placeS bs n = k := by
  unfold placeS
  induction bs generalizing k with
  | nil => simp at hl; simp [hl]
  | cons b r ih =>
    cases k with
    | zero =>
      have := hk b rfl
      simp [this]
    | succ k =>
      have h0 := h 0 b (by omega) rfl
      rw [List.takeWhile_cons, h0]
      simp only [if_true, List.length_cons]
      rw [ih (k := k) (fun j c hj hc => h (j + 1) c (by omega) (by simpa using hc)) (fun c hc => hk c (by simpa using hc)) (by simpa using hl)]

end Go.Proofs.YtigcbegeaikfcaaGreatDoor

namespace Go.Proofs.YtigcbegeaikfcaaGreatDoor
open Go.RowKit
set_option linter.unusedVariables false

def shortOp (os : List Opv) : Prop := ∀ o ∈ os, o.2.2.length ≤ 1048576
set_option maxHeartbeats 2000000 in
theorem l8Code_any (B : Nat) (v : Value) (os : List Opv) (w : World) (h : SeeOp w B v os) (hB : B ≤ w.heap.size) (hS : shortOp os) : Calls Tryz.prog 51 #[v] w (BoolLt w (codeB os)) := by
  have hl := h.len
  unfold maxLen at hl
  obtain ⟨A, c, rfl⟩ := h.shape
  go_enter Tryz.func51, Tryz.ntmps51
  go_wp2_with fail
  go_loopw [3] (fun i wr => ∃ k : Nat, k ≤ os.length ∧ i = .int .i64 k ∧ (os.take k).all opB = true ∧ Below w.heap.size w wr) (fun i _ => os.length - (intOf i).toNat)
  case atStart => exact ⟨0, Nat.zero_le _, rfl, by simp, Below.refl _ _⟩
  case round =>
    obtain ⟨k, hk, rfl, hv, hbw⟩ := hrel
    have HV := Lib.hid hv
    clear hv
    by_cases hlt : k < os.length
    · have hx := List.getElem?_eq_getElem hlt
      generalize os[k] = x at hx
      have hsx := hS x (List.mem_of_getElem? hx)
      obtain ⟨g, o, rfl, -, e0, e1, e2⟩ := (h.below (hbw.mono hB)).at_ hx
      have HX := Lib.hid hx
      have HC := Lib.hid (fun W => sOpOk_any x hsx W)
      obtain ⟨a, n, s⟩ := x
      dsimp only at e0 e1 e2 HC
      clear hx hsx
      go_wp2_with fail
      refine (HC.out _).mono ?_
      rintro e w2 ⟨rfl, b2⟩
      have b3 := below_then hbw b2 (Nat.le_refl _)
      cases hp : opB (a, n, s)
      · have HE : Hid (codeB os = false) := Lib.hid (by unfold codeB; rw [all_out HX.out hp, Bool.and_false])
        go_wp2_with fail
        go_ret
        exact ⟨ret_bool HE.out.symm, b3⟩
      · have HO := Lib.hid (all_more HV.out HX.out hp)
        go_wp2_with fail
        go_roundw
        case rel => exact ⟨k + 1, by omega, by go_num, HO.out, b3⟩
        case measure => simp [intOf]; omega
    · obtain rfl : k = os.length := by omega
      have HE : Hid (codeB os = decide (os.length ≤ 300)) := Lib.hid (by unfold codeB; rw [all_end HV.out, Bool.and_true])
      go_wp2_with fail
      go_ret
      exact ⟨ret_bool (by rw [HE.out]; exact decide_eq_decide.2 (by omega)), hbw⟩

end Go.Proofs.YtigcbegeaikfcaaGreatDoor

namespace Go.Proofs.YtigcbegeaikfcaaGreatDoor
open Go.RowKit
set_option linter.unusedVariables false

set_option maxHeartbeats 1000000 in
theorem l9Turn_any (a n : Int) (s : List UInt8) (w : World) : Calls Tryz.prog 106 #[.agg #[.int .i64 a, .int .i64 n, str s]] w fun e w' =>
    e = .returned (.tuple #[.int .i64 (needS a), .int .i64 (if a = 1 ∨ a = 2 then 1 else if a = 3 ∨ a = 4 ∨ a = 6 ∨ a = 8 then -1 else 0)]) ∧ Below w.heap.size w w' := by
  have b0 := below_new w (.cells #[.int .i64 a, .int .i64 n, str s] 41)
  by_cases h1 : a = 1
  · subst h1
    go_enter Tryz.func106, Tryz.ntmps106
    go_wp2_with fail
    go_ret2
    exact ⟨rfl, b0⟩
  by_cases h2 : a = 2
  · subst h2
    go_enter Tryz.func106, Tryz.ntmps106
    go_wp2_with fail
    go_ret2
    exact ⟨rfl, b0⟩
  by_cases h3 : a = 3
  · subst h3
    go_enter Tryz.func106, Tryz.ntmps106
    go_wp2_with fail
    go_ret2
    exact ⟨rfl, b0⟩
  by_cases h4 : a = 4
  · subst h4
    go_enter Tryz.func106, Tryz.ntmps106
    go_wp2_with fail
    go_ret2
    exact ⟨rfl, b0⟩
  by_cases h6 : a = 6
  · subst h6
    go_enter Tryz.func106, Tryz.ntmps106
    go_wp2_with fail
    go_ret2
    exact ⟨rfl, b0⟩
  by_cases h8 : a = 8
  · subst h8
    go_enter Tryz.func106, Tryz.ntmps106
    go_wp2_with fail
    go_ret2
    exact ⟨rfl, b0⟩
  have HE : Hid (needS a = 0) := Lib.hid (by unfold needS; rw [if_neg h3, if_neg (by omega)])
  have HF : Hid ((if a = 1 ∨ a = 2 then (1 : Int) else if a = 3 ∨ a = 4 ∨ a = 6 ∨ a = 8 then -1 else 0) = 0) := Lib.hid (by rw [if_neg (by omega), if_neg (by omega)])
  rw [HE.out, HF.out]
  have e1 : (a == 1) = false := by simpa using h1
  have e2 : (a == 2) = false := by simpa using h2
  have e3 : (a == 3) = false := by simpa using h3
  have e4 : (a == 4) = false := by simpa using h4
  have e6 : (a == 6) = false := by simpa using h6
  have e8 : (a == 8) = false := by simpa using h8
  clear h1 h2 h3 h4 h6 h8
  go_enter Tryz.func106, Tryz.ntmps106
  go_wp2_with fail
  go_ret2
  exact ⟨rfl, b0⟩

/-- A step's value. -/
abbrev stepVal (x : Int) (u1 u2 u3 : Value) (y : Int) (b : Bool) (g t : Int) : Value := .agg #[.int .i64 x, u1, u2, u3, .int .i64 y, .bool b, .int .i64 g, .int .i64 t]

set_option maxHeartbeats 2000000 in
theorem l9Bad_any (x y : Int) (A1 A2 A3 : Option Addr) (n1 n2 n3 c1 c2 c3 : Nat) (w : World) : Calls Tryz.prog 53 #[.agg #[.int .i64 x, .slice A1 n1 c1, .slice A2 n2 c2, .slice A3 n3 c3, .int .i64 y]] w fun e w' =>
    e = .returned (stepVal x (.slice A1 n1 c1) (.slice A2 n2 c2) (.slice A3 n3 c3) 4 false 0 0) ∧ Below w.heap.size w w' := by
  go_enter Tryz.func53, Tryz.ntmps53
  go_wp2_with fail
  exact bodyPost_ret (v := stepVal x (.slice A1 n1 c1) (.slice A2 n2 c2) (.slice A3 n3 c3) 4 false 0 0) (by simp [results, Tryz.results53, go_sem]) rfl ⟨rfl, ((Below.refl _ _).alloc (Nat.le_refl _) _).alloc (by simp) _⟩

theorem bx_news9 {W : World} {B n c : Nat} {ad : Addr} {bs : List Bx} (h : SeeBx W B (.slice (some ad) n c) bs) : ∀ j u, (bs.map boxV).flatten[j]? = some u → W.cell? (ad.add j) = some u := fun j u hu => by
  have hj : j < bs.length * 2 := by have := (List.getElem?_eq_some_iff.1 hu).1; rwa [flat_len (boxes_two bs), List.length_map] at this
  have hk : j / 2 < bs.length := by omega
  have hb := List.getElem?_eq_getElem hk
  generalize bs[j / 2] = b at hb
  obtain ⟨g, o, e, -, h0, h1⟩ := h.at_ hb
  injection e with e
  subst e
  have hadd : (⟨g, o, none⟩ : Addr).add j = ⟨g, o + j, none⟩ := by unfold Addr.add; split <;> simp_all
  rw [hadd]
  have hx : (bs.map boxV)[j / 2]? = some (boxV b) := by rw [List.getElem?_map, hb]; rfl
  rcases Nat.mod_two_eq_zero_or_one j with hm | hm
  · have := flat_at (i := 0) (boxes_two bs) hx (y := str b.1) rfl
    rw [show j / 2 * 2 + 0 = j by omega] at this
    rw [this] at hu
    injection hu with hu
    subst hu
    rw [show o + j = o + j / 2 * 2 by omega]; exact h0
  · have := flat_at (i := 1) (boxes_two bs) hx (y := .int .i64 b.2) rfl
    rw [show j / 2 * 2 + 1 = j by omega] at this
    rw [this] at hu
    injection hu with hu
    subst hu
    rw [show o + j = o + j / 2 * 2 + 1 by omega]; exact h1
theorem bx_one9 (bs : List Bx) (u : Value) (h : u ∈ (bs.map boxV).flatten) : u.oneCell' = true := by
  obtain ⟨l, hl, hu⟩ := List.mem_flatten.1 h
  obtain ⟨b, -, rfl⟩ := List.mem_map.1 hl
  simp only [boxV, List.mem_cons, List.not_mem_nil, or_false] at hu
  rcases hu with rfl | rfl <;> rfl
theorem bx_len9 (bs : List Bx) : (bs.map boxV).flatten.length = bs.length * 2 := by rw [flat_len (boxes_two bs), List.length_map]
theorem seeBx_none {w : World} {B n c : Nat} {bs : List Bx} (h : SeeBx w B (.slice none n c) bs) : bs = [] := by
  cases bs with
  | nil => rfl
  | cons x r => obtain ⟨g, o, e, -⟩ := h.at_ (k := 0) (b := x) rfl; cases e

/-- An append of a slice that may be nil to a row of the call's own. -/
theorem wpList_append_see {P : Program} (w : World) {ops : Array Oper} {rest : List Oper} {o : Oper} {a : Act} {Q : Exit → Act → World → Prop} (hgd : o.guard = none) (s x : Operand) (t : TypeId)
    (ho : o.op = .call { callee := .builtin .append, args := #[s, x], argTypes := #[t, t] })
    (base : Nat) (e : TypeId) (i : TypeInfo) (z : Value) (size bytes : Nat) (ht : P.underlying t = some (.slice e)) (hi : P.info? e = some i) (hz : i.zero = some z)
    (hsize : i.size = size) (hby : i.bytes = bytes) (hzs : z.cells.size = size) (hsz : 0 < size)
    (v : Value) (n : Nat) (xs : List Value) (hs : a.eval s = v) (hown : w.ownsRow base e size v n xs)
    (A : Option Addr) (m c : Nat) (news : List Value) (hx : a.eval x = .slice A m c) (hnil : A = none → m = 0 ∧ c = 0 ∧ news = []) (hl : news.length = m * size) (hnews : ∀ ad, A = some ad → ∀ j u, news[j]? = some u → w.cell? (ad.add j) = some u) (h1 : ∀ u ∈ news, u.oneCell' = true)
    (h63 : n + m ≤ maxLen) (hbytes : (n + m) * bytes ≤ 140737488355328) (hbase : base ≤ w.heap.size) (hv : ¬ v = .slice none 0 0)
    (h : ∀ v' w', w'.ownsRow base e size v' (n + m) (xs ++ news) → w.grownBy w' v.ownBlock → ¬ v' = .slice none 0 0 → wpList P ops Q rest (a.put o.dst v') w') : wpList P ops Q (o :: rest) a w := by
  cases A with
  | none =>
    obtain ⟨rfl, rfl, rfl⟩ := hnil rfl
    exact wpList_append_own_none hgd s x t ho base e i size ht hi v n xs hs hown hx (h v w (by simpa using hown) (World.grownBy.refl _ _) hv)
  | some ad => exact wpList_append_own w hgd s x t ho base e i z size bytes ht hi hz hsize hby hzs hsz v n xs hs hown ad m c news hx hl (hnews ad rfl) h1 h63 hbytes hbase (fun v' w' q1 q2 q3 => h v' w' q1 q2 (fun q => hv (q3.1 q).1))

theorem two_set {W : World} {N : Nat} {c0 c1 : Array Value} {t0 t1 : TypeId} {k : Nat} {u : Value} (h : W.heap[N]? = some (.cells c0 t0 (0, 0)) ∧ W.heap[N + 1]? = some (.cells c1 t1 (0, 0))) :
    (W.setCell ⟨N, k, none⟩ u).heap[N]? = some (.cells (c0.setIfInBounds k u) t0 (0, 0)) ∧ (W.setCell ⟨N, k, none⟩ u).heap[N + 1]? = some (.cells c1 t1 (0, 0)) :=
  ⟨heap_set h.1 _, by rw [Below.heap_setCell _ _ _ _ (by show N + 1 ≠ N; omega)]; exact h.2⟩
theorem two_later {W W' : World} {N : Nat} {o0 o1 : Obj} (h : W.heap[N]? = some o0 ∧ W.heap[N + 1]? = some o1) (b : Below W.heap.size W W') : W'.heap[N]? = some o0 ∧ W'.heap[N + 1]? = some o1 := ⟨row_later h.1 b, row_later h.2 b⟩

def CoreOut (w : World) (x : Int) (zs : List Int) (bs : List Bx) (rs : List Int) (y : Int) (e : Ending) (w' : World) : Prop :=
  ∃ g1 g2 g3 c1 c2 c3, e = .returned (.agg #[.int .i64 x, .slice (some ⟨g1, 0, none⟩) zs.length c1, .slice (some ⟨g2, 0, none⟩) bs.length c2, .slice (some ⟨g3, 0, none⟩) rs.length c3, .int .i64 y]) ∧
    OwnC w' w.heap.size (.slice (some ⟨g1, 0, none⟩) zs.length c1) (.slice (some ⟨g2, 0, none⟩) bs.length c2) (.slice (some ⟨g3, 0, none⟩) rs.length c3) zs bs rs ∧ Below w.heap.size w w'

set_option maxHeartbeats 4000000 in
theorem l9Copy_any (B : Nat) (x y : Int) (v1 v2 v3 : Value) (zs : List Int) (bs : List Bx) (rs : List Int) (w : World) (s1 : SeeI w B v1 zs) (s2 : SeeBx w B v2 bs) (s3 : SeeI w B v3 rs) (hB : B ≤ w.heap.size)
    (n1 : nilOk v1) (n2 : nilOk v2) (n3 : nilOk v3) (hz : zs.length ≤ 1048576) (hb : bs.length ≤ 1048576) (hr : rs.length ≤ 1048576) :
    Calls Tryz.prog 48 #[.agg #[.int .i64 x, v1, v2, v3, .int .i64 y]] w (CoreOut w x zs bs rs y) := by
  obtain ⟨i0, hi, hz0, hz1, hz2⟩ := info_parts Tryz.infoBox
  obtain ⟨A1, c1, rfl⟩ := s1.shape
  obtain ⟨A2, c2, rfl⟩ := s2.shape
  obtain ⟨A3, c3, rfl⟩ := s3.shape
  have H0 : Hid (∃ W, W = (w.alloc (.cells #[.int .i64 x, .slice A1 zs.length c1, .slice A2 bs.length c2, .slice A3 rs.length c3, .int .i64 y] 27)).alloc
      (.cells #[.int .i64 0, .slice none 0 0, .slice none 0 0, .slice none 0 0, .int .i64 0] 27) ∧
      (W.heap[w.heap.size]? = some (.cells #[.int .i64 x, .slice A1 zs.length c1, .slice A2 bs.length c2, .slice A3 rs.length c3, .int .i64 y] 27 (0, 0)) ∧
      W.heap[w.heap.size + 1]? = some (.cells #[.int .i64 0, .slice none 0 0, .slice none 0 0, .slice none 0 0, .int .i64 0] 27 (0, 0))) ∧ Below w.heap.size w W ∧ W.heap.size = w.heap.size + 2) :=
    Lib.hid ⟨_, rfl, ⟨alloc_old (heap_alloc_new _ _) _, by have := heap_alloc_new (w.alloc (.cells #[.int .i64 x, .slice A1 zs.length c1, .slice A2 bs.length c2, .slice A3 rs.length c3, .int .i64 y] 27)) (.cells #[.int .i64 0, .slice none 0 0, .slice none 0 0, .slice none 0 0, .int .i64 0] 27); rwa [World.size_alloc] at this⟩,
      ((Below.refl _ _).alloc (Nat.le_refl _) _).alloc (by simp) _, by simp⟩
  go_enter Tryz.func48, Tryz.ntmps48
  go_wp2_with fail
  obtain ⟨W, hW, h2, bW, hsz⟩ := H0.out
  rw [← hW]
  clear hW H0
  have HN := Lib.hid hsz
  clear hsz
  have k1 := s1.below (bW.mono hB)
  refine (l1Copy_any B _ zs _ k1 (by have := HN.out; omega) n1 hz).mono ?_
  rintro e w1 ⟨g1, d1, rfl, o1, b1⟩
  have l1 := o1.lt
  replace h2 := two_later h2 b1
  replace bW := below_then bW b1 (Nat.le_refl _)
  have m1 : Hid (w.heap.size + 2 ≤ w1.heap.size) := Lib.hid (by have := b1.size; have := HN.out; omega)
  rw [HN.out] at o1
  obtain ⟨p0, p1, p2, p3, p4⟩ := cells5 h2.1
  have f1 : w1.frozen? ⟨w.heap.size, 1, none⟩ = false := frozen_row h2.1
  have o1' := own_far o1 (p := ⟨w.heap.size, 1, none⟩) (by simp) (.slice (some ⟨g1, 0, none⟩) zs.length d1)
  have z1 : (w1.setCell ⟨w.heap.size, 1, none⟩ (.slice (some ⟨g1, 0, none⟩) zs.length d1)).heap.size = w1.heap.size := by simp [World.setCell]
  replace h2 := two_set (k := 1) (u := .slice (some ⟨g1, 0, none⟩) zs.length d1) h2
  simp only [List.setIfInBounds_toArray, List.set_cons_succ, List.set_cons_zero] at h2
  replace bW := bW.setCell (show w.heap.size ≤ (⟨w.heap.size, 1, none⟩ : Addr).block by simp) (.slice (some ⟨g1, 0, none⟩) zs.length d1)
  clear o1 k1 b1
  have sB := s2.below (bW.mono hB)
  have hE : ∀ W1 : World, OwnBx (W1.alloc (.cells #[] 92)) W1.heap.size 92 (.slice (some ⟨W1.heap.size, 0, none⟩) 0 0) [] := fun W1 => OwnN.empty 2 W1 W1.heap.size _ (Nat.le_refl _)
  go_upto_region 2 with fail
  clear p0 p1 p2 p3 p4 f1
  generalize w1.setCell _ _ = W1 at *
  have Z1 := Lib.hid z1
  clear z1
  have bE := below_new W1 (.cells #[] 92)
  have h3 := two_later h2 bE
  have bWE := below_then bW bE (Nat.le_refl _)
  have sE := sB.below (bE.mono (by have := m1.out; have := Z1.out; omega))
  have oE := hE W1
  clear hE
  obtain ⟨p0, p1, p2, p3, p4⟩ := cells5 h3.1
  go_wp2_with (at_builtin; refine wpList_append_see _ rfl _ _ 25 rfl W1.heap.size 92 i0 (.agg #[.string ⟨#[]⟩, .int .i64 0]) 2 24 Tryz.underlying25 hi hz0 hz1 hz2 rfl (by decide) _ _ _ rfl oE.row0 A2 bs.length c2 (bs.map boxV).flatten rfl (fun e => by subst e; have e1 := seeBx_none s2; subst e1; exact ⟨rfl, n2, rfl⟩) (bx_len9 bs) (fun ad e => by subst e; exact bx_news9 sE) (bx_one9 bs) (by show 0 + bs.length ≤ maxLen; unfold maxLen; omega) (by show (0 + bs.length) * 24 ≤ _; omega) bE.size (by intro q; cases q) ?_; intro v2 w2 hown2 hgr2 hnn2; (obtain ⟨g2, d2, rfl⟩ := own_base hown2 hnn2); have b2 : Below W1.heap.size W1 w2 := bE.grown hgr2 bE.size (fun j hj => by cases hj; exact Nat.le_refl _); have h4 := two_later h2 b2; obtain ⟨q0, q1, q2, q3, q4⟩ := cells5 h4.1; have f2 : w2.frozen? ⟨w.heap.size, 2, none⟩ = false := frozen_row h4.1)
  simp only [List.map_nil, List.flatten_nil, List.nil_append, List.length_nil, Nat.zero_add] at hown2 ⊢
  clear p0 p1 p2 p3 p4 q0 q1 q2 q3 q4 f2 h3 h2 hgr2 hnn2 bE oE sE sB bWE
  have l2 := World.ownsRow.lt hown2
  replace o1' := own_later o1' b2
  replace bW := below_then bW b2 (Nat.le_refl _)
  have m2 : Hid (w1.heap.size ≤ w2.heap.size) := Lib.hid (by have := b2.size; have := Z1.out; omega)
  rw [Z1.out] at hown2 l2
  replace o1' := own_far o1' (p := ⟨w.heap.size, 2, none⟩) (by simp) (.slice (some ⟨g2, 0, none⟩) bs.length d2)
  have o2' := own_far hown2 (p := ⟨w.heap.size, 2, none⟩) (by have := m1.out; simp; omega) (.slice (some ⟨g2, 0, none⟩) bs.length d2)
  have z2 : (w2.setCell ⟨w.heap.size, 2, none⟩ (.slice (some ⟨g2, 0, none⟩) bs.length d2)).heap.size = w2.heap.size := by simp [World.setCell]
  replace h4 := two_set (k := 2) (u := .slice (some ⟨g2, 0, none⟩) bs.length d2) h4
  simp only [List.setIfInBounds_toArray, List.set_cons_succ, List.set_cons_zero] at h4
  replace bW := bW.setCell (show w.heap.size ≤ (⟨w.heap.size, 2, none⟩ : Addr).block by simp) (.slice (some ⟨g2, 0, none⟩) bs.length d2)
  clear hown2 b2
  generalize w2.setCell _ _ = W2 at *
  have Z2 := Lib.hid z2
  clear z2
  have k3 := s3.below (bW.mono hB)
  refine (l1Copy_any B _ rs _ k3 (by have := m1.out; have := m2.out; have := Z2.out; omega) n3 hr).mono ?_
  rintro e w3 ⟨g3, d3, rfl, o3, b3⟩
  have l3 := o3.lt
  rw [Z2.out] at o3 l3
  replace h4 := two_later h4 b3
  replace o1' := own_later o1' b3
  replace o2' := own_later o2' b3
  replace bW := below_then bW b3 (Nat.le_refl _)
  have hs3 : w2.heap.size ≤ w3.heap.size := by have := b3.size; have := Z2.out; omega
  have a12 := apart_lt (w := w3) (e := 2) (n := 0) (m := 0) (xs := []) (ys := []) (k := 0) (fun g h => (l1 g h).2) (fun g h => ⟨(l2 g h).1, (by have := (l2 g h).2; omega : g < w3.heap.size)⟩)
  have a13 := apart_lt (w := w3) (e := 2) (n := 0) (m := 0) (xs := []) (ys := []) (k := 0) (fun g h => (l1 g h).2) (fun g h => ⟨Nat.le_trans m2.out (l3 g h).1, (l3 g h).2⟩)
  have a23 := apart_lt (w := w3) (e := 2) (n := 0) (m := 0) (xs := []) (ys := []) (k := 0) (fun g h => (l2 g h).2) (fun g h => l3 g h)
  clear b3 k3 l1 l2 l3
  obtain ⟨p0, p1, p2, p3, p4⟩ := cells5 h4.1
  have f3 : w3.frozen? ⟨w.heap.size, 3, none⟩ = false := frozen_row h4.1
  have o3' := own_far o3 (p := ⟨w.heap.size, 3, none⟩) (by have := m1.out; have := m2.out; simp; omega) (.slice (some ⟨g3, 0, none⟩) rs.length d3)
  replace o1' := own_far o1' (p := ⟨w.heap.size, 3, none⟩) (by simp) (.slice (some ⟨g3, 0, none⟩) rs.length d3)
  replace o2' := own_far o2' (p := ⟨w.heap.size, 3, none⟩) (by have := m1.out; simp; omega) (.slice (some ⟨g3, 0, none⟩) rs.length d3)
  replace h4 := two_set (k := 3) (u := .slice (some ⟨g3, 0, none⟩) rs.length d3) h4
  simp only [List.setIfInBounds_toArray, List.set_cons_succ, List.set_cons_zero] at h4
  replace bW := bW.setCell (show w.heap.size ≤ (⟨w.heap.size, 3, none⟩ : Addr).block by simp) (.slice (some ⟨g3, 0, none⟩) rs.length d3)
  clear o3
  go_upto_region 4 with fail
  clear p0 p1 p2 p3 p4 f3
  generalize w3.setCell _ _ = W3 at *
  obtain ⟨p0, p1, p2, p3, p4⟩ := cells5 h4.1
  have f0 := frozen_row (k := 0) h4.2
  have f1 := frozen_row (k := 1) h4.2
  have f2 := frozen_row (k := 2) h4.2
  have f3 := frozen_row (k := 3) h4.2
  have f4 := frozen_row (k := 4) h4.2
  obtain ⟨q0, q1, q2, q3, q4⟩ := cells5 h4.2
  have ZB := Lib.hid (set5_blk h4.2 (.int .i64 x) (.slice (some ⟨g1, 0, none⟩) zs.length d1) (.slice (some ⟨g2, 0, none⟩) bs.length d2) (.slice (some ⟨g3, 0, none⟩) rs.length d3) (.int .i64 y))
  have BB := Lib.hid (set5_below bW (show w.heap.size ≤ w.heap.size + 1 by omega) (.int .i64 x) (.slice (some ⟨g1, 0, none⟩) zs.length d1) (.slice (some ⟨g2, 0, none⟩) bs.length d2) (.slice (some ⟨g3, 0, none⟩) rs.length d3) (.int .i64 y))
  have O1 := Lib.hid (set5_own o1' (show w.heap.size + 1 < w.heap.size + 2 by omega) (.int .i64 x) (.slice (some ⟨g1, 0, none⟩) zs.length d1) (.slice (some ⟨g2, 0, none⟩) bs.length d2) (.slice (some ⟨g3, 0, none⟩) rs.length d3) (.int .i64 y))
  have O2 := Lib.hid (set5_own o2' (show w.heap.size + 1 < w1.heap.size by have := m1.out; omega) (.int .i64 x) (.slice (some ⟨g1, 0, none⟩) zs.length d1) (.slice (some ⟨g2, 0, none⟩) bs.length d2) (.slice (some ⟨g3, 0, none⟩) rs.length d3) (.int .i64 y))
  have O3 := Lib.hid (set5_own o3' (show w.heap.size + 1 < w2.heap.size by have := m1.out; have := m2.out; omega) (.int .i64 x) (.slice (some ⟨g1, 0, none⟩) zs.length d1) (.slice (some ⟨g2, 0, none⟩) bs.length d2) (.slice (some ⟨g3, 0, none⟩) rs.length d3) (.int .i64 y))
  unfold set5 at ZB BB O1 O2 O3
  clear o1' o2' o3' h4 bW s1 s2 s3
  go_wp2_with fail
  generalize World.setCell _ _ _ = W6 at *
  obtain ⟨y0, y1, y2, y3, y4⟩ := cells5 ZB.out
  refine bodyPost_ret (v := .agg #[.int .i64 x, .slice (some ⟨g1, 0, none⟩) zs.length d1, .slice (some ⟨g2, 0, none⟩) bs.length d2, .slice (some ⟨g3, 0, none⟩) rs.length d3, .int .i64 y]) (by simp [results, Tryz.results48, go_sem, y0, y1, y2, y3, y4]) rfl
    ⟨g1, g2, g3, d1, d2, d3, rfl, ⟨own_less O1.out (by omega), .of_row0 (own_less O2.out (by have := m1.out; omega)), own_less O3.out (by have := m1.out; have := m2.out; omega), a12, a13, a23⟩, BB.out⟩

end Go.Proofs.YtigcbegeaikfcaaGreatDoor
