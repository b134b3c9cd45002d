/- A text cut at a sign: plain mathematics, and the model's l1Split. No conditions but those typed. Layer 7 (plays): ReadPlay, of the model and of the program; the walk of FnExactReadPlay. Conditions: the listed variables hold what the program's text lays (Vars); internal/bytealg.MaxLen is a number. Layer 7 (plays): ShowPlay, of the model and of the program; the walk of FnExactShowPlay. Condition: the listed variables hold what the program's text lays (Vars). Layer 7 (plays): a play's text, read, gives the play; what is read, shown, is the text; the draws of DrawReadPlay. No conditions but those typed. -/
import Derived.Test.YtjcmfdgphhonhaaGreatDoorLowA
import Derived.Test.YtjcmfdgphhonhaaGreatDoorRows
import Derived.Test.YtjcmfdgphhonhaaGreatDoorRdrQ
import Derived.Test.YtjcmfdgphhonhaaGreatDoorLowT
import Derived.Test.YtjcmfdgphhonhaaGreatDoorWordsA
import Derived.Test.YtjcmfdgphhonhaaGreatDoorPlaQ
import Derived.Test.YtjcmfdgphhonhaaGreatDoorDrwJ
import Derived.Test.YtjcmfdgphhonhaaGreatDoorBendB
import Derived.Lib.Split
namespace Go.Proofs.YtjcmfdgphhonhaaGreatDoor
open Go.RowKit
set_option linter.unusedVariables false

/-- The pieces of a text between signs b. -/
def cutT (b : UInt8) : List UInt8 → List (List UInt8)
  | [] => [[]]
  | c :: l => if c = b then [] :: cutT b l else match cutT b l with
    | [] => [[c]]
    | x :: r => (c :: x) :: r
theorem cutT_ne (b : UInt8) (l : List UInt8) : ∃ x r, cutT b l = x :: r := by
  cases l with
  | nil => exact ⟨[], [], rfl⟩
  | cons c l =>
    unfold cutT
    split
    · exact ⟨_, _, rfl⟩
    · split
      · exact ⟨_, _, rfl⟩
      · exact ⟨_, _, rfl⟩
theorem cutT_pos (b : UInt8) (l : List UInt8) : 1 ≤ (cutT b l).length := by
  obtain ⟨x, r, h⟩ := cutT_ne b l
  rw [h]; simp
theorem cutT_hit (b : UInt8) (l : List UInt8) : cutT b (b :: l) = [] :: cutT b l := by simp [cutT]
theorem cutT_miss {b c : UInt8} (h : ¬ c = b) {l : List UInt8} {x : List UInt8} {r : List (List UInt8)} (e : cutT b l = x :: r) : cutT b (c :: l) = (c :: x) :: r := by simp [cutT, h, e]
theorem cutT_le (b : UInt8) (l : List UInt8) : (cutT b l).length ≤ l.length + 1 := by
  induction l with
  | nil => simp [cutT]
  | cons c l ih =>
    by_cases h : c = b
    · subst h; rw [cutT_hit]; simp; omega
    · obtain ⟨x, r, e⟩ := cutT_ne b l
      rw [cutT_miss h e]; rw [e] at ih; simp at ih ⊢; omega

theorem index_hit (b : UInt8) (l : List UInt8) : Lib.index (b :: l) [b] = 0 := by simp [Lib.index]
theorem index_miss {b c : UInt8} (h : ¬ c = b) (l : List UInt8) : Lib.index (c :: l) [b] = if Lib.index l [b] == -1 then -1 else Lib.index l [b] + 1 := by
  have h' : ¬ b = c := fun e => h e.symm
  simp [Lib.index, h']
theorem index_ge (b : UInt8) (l : List UInt8) : -1 ≤ Lib.index l [b] := by
  induction l with
  | nil => simp [Lib.index]
  | cons c l ih =>
    by_cases h : c = b
    · subst h; rw [index_hit]; decide
    · rw [index_miss h]; split <;> omega
theorem splitK_miss {b c : UInt8} (h : ¬ c = b) (l : List UInt8) (k : Nat) {x : List UInt8} {r : List (List UInt8)} (e : Lib.splitK [b] 0 k l = x :: r) : Lib.splitK [b] 0 k (c :: l) = (c :: x) :: r := by
  cases k with
  | zero => simp only [Lib.splitK] at e ⊢; injection e with e1 e2; subst e1 e2; rfl
  | succ k =>
    simp only [Lib.splitK, index_miss h] at e ⊢
    have hg := index_ge b l
    by_cases hi : Lib.index l [b] = -1
    · simp only [hi, beq_self_eq_true, if_true] at e ⊢
      injection e with e1 e2; subst e1 e2; rfl
    · have h1 : (Lib.index l [b] == -1) = false := by simpa using hi
      have h2 : (Lib.index l [b] + 1 == -1) = false := by simp; omega
      simp only [h1, h2, Bool.false_eq_true, if_false, Nat.add_zero, List.length_singleton] at e ⊢
      have ht : (Lib.index l [b] + 1).toNat = (Lib.index l [b]).toNat + 1 := by omega
      rw [ht, List.take_succ_cons, show (Lib.index l [b]).toNat + 1 + 1 = ((Lib.index l [b]).toNat + 1) + 1 from rfl, List.drop_succ_cons]
      injection e with e1 e2
      subst e1 e2
      rfl
theorem splitK_hit (b : UInt8) (l : List UInt8) (k : Nat) : Lib.splitK [b] 0 (k + 1) (b :: l) = [] :: Lib.splitK [b] 0 k l := by
  simp [Lib.splitK, index_hit]
theorem splitK_all (b : UInt8) (l : List UInt8) : ∀ k, (cutT b l).length ≤ k + 1 → Lib.splitK [b] 0 k l = cutT b l := by
  induction l with
  | nil =>
    intro k _
    cases k with
    | zero => rfl
    | succ k => simp [Lib.splitK, Lib.index, cutT]
  | cons c l ih =>
    intro k hk
    by_cases h : c = b
    · subst h
      rw [cutT_hit] at hk ⊢
      cases k with
      | zero => have := cutT_pos c l; rw [List.length_cons] at hk; omega
      | succ k => rw [splitK_hit, ih k (by simpa using hk)]
    · obtain ⟨x, r, e⟩ := cutT_ne b l
      rw [cutT_miss h e] at hk ⊢
      exact splitK_miss h l k ((ih k (by rw [e]; simpa using hk)).trans e)
theorem splitK_long (b : UInt8) (l : List UInt8) : ∀ k, k + 1 < (cutT b l).length → (Lib.splitK [b] 0 k l).length = k + 1 := by
  induction l with
  | nil => intro k hk; simp [cutT] at hk
  | cons c l ih =>
    intro k hk
    by_cases h : c = b
    · subst h
      rw [cutT_hit] at hk
      cases k with
      | zero => rfl
      | succ k => rw [splitK_hit, List.length_cons, ih k (by simpa using hk)]
    · obtain ⟨x, r, e⟩ := cutT_ne b l
      rw [cutT_miss h e] at hk
      have := ih k (by rw [e]; simpa using hk)
      cases hs : Lib.splitK [b] 0 k l with
      | nil => rw [hs] at this; simp at this
      | cons y s => rw [splitK_miss h l k hs]; rw [hs] at this; simpa using this

def glue (p : List UInt8) : List (List UInt8) → List (List UInt8)
  | [] => [p]
  | x :: r => (p ++ x) :: r
/-- Where the cutting stands ahead of place i: what is done, and where the piece at hand began. -/
def CutAt (b : UInt8) (l : List UInt8) (i f : Nat) (D : List (List UInt8)) : Prop := f ≤ i ∧ cutT b l = D ++ glue ((l.drop f).take (i - f)) (cutT b (l.drop i))
theorem cut_start (b : UInt8) (l : List UInt8) : CutAt b l 0 0 [] := by
  refine ⟨Nat.le_refl _, ?_⟩
  obtain ⟨x, r, e⟩ := cutT_ne b l
  simp [glue, e]
theorem cut_hit {b : UInt8} {l : List UInt8} {i f : Nat} {D : List (List UInt8)} (h : CutAt b l i f D) (hb : l[i]? = some b) : CutAt b l (i + 1) (i + 1) (D ++ [(l.drop f).take (i - f)]) := by
  refine ⟨Nat.le_refl _, ?_⟩
  have hd : l.drop i = b :: l.drop (i + 1) := by
    have := (List.getElem?_eq_some_iff.1 hb)
    rw [List.drop_eq_getElem_cons this.1, this.2]
  rw [h.2, hd, cutT_hit]
  obtain ⟨x, r, e⟩ := cutT_ne b (l.drop (i + 1))
  simp [glue, e]
theorem cut_miss {b c : UInt8} {l : List UInt8} {i f : Nat} {D : List (List UInt8)} (h : CutAt b l i f D) (hc : l[i]? = some c) (hne : ¬ c = b) : CutAt b l (i + 1) f D := by
  have hle := h.1
  refine ⟨by omega, ?_⟩
  have hq := List.getElem?_eq_some_iff.1 hc
  have hd : l.drop i = c :: l.drop (i + 1) := by rw [List.drop_eq_getElem_cons hq.1, hq.2]
  obtain ⟨x, r, e⟩ := cutT_ne b (l.drop (i + 1))
  rw [h.2, hd, cutT_miss hne e, e]
  have ht : (l.drop f).take (i + 1 - f) = (l.drop f).take (i - f) ++ [c] := by
    rw [show i + 1 - f = (i - f) + 1 from by omega, List.take_add_one, List.getElem?_drop, show f + (i - f) = i from by omega, hc]
    rfl
  simp [glue, ht]
theorem cut_end {b : UInt8} {l : List UInt8} {f : Nat} {D : List (List UInt8)} (h : CutAt b l l.length f D) : cutT b l = D ++ [(l.drop f).take (l.length - f)] := by
  rw [h.2, List.drop_length]
  simp [cutT, glue]
theorem cut_len {b : UInt8} {l : List UInt8} {i f : Nat} {D : List (List UInt8)} (h : CutAt b l i f D) : D.length ≤ l.length := by
  have h1 := cutT_le b l
  have h2 : 1 ≤ (glue ((l.drop f).take (i - f)) (cutT b (l.drop i))).length := by
    obtain ⟨x, r, e⟩ := cutT_ne b (l.drop i)
    rw [e]; simp [glue]
  rw [h.2, List.length_append] at h1
  omega

theorem Tryz.infoStr2 : (Tryz.prog.info? 9).map (fun i => (i.zero, i.size, i.bytes)) = some (some (.string ⟨#[]⟩), 1, 16) := by kernel_rfl
def RowOut (w : World) (ts : List (List UInt8)) (e : Ending) (w' : World) : Prop := ∃ v, e = .returned v ∧ OwnV w' w.heap.size 9 v (ts.map str) ∧ Below w.heap.size w w'

set_option maxHeartbeats 2000000 in
set_option maxRecDepth 100000 in
theorem l1Split_any (l : List UInt8) (hl : l.length ≤ 1048576) (b : UInt8) (w : World) : Calls Tryz.prog 303 #[str l, byte b] w (RowOut w (cutT b l)) := by
  obtain ⟨i0, hi, hz0, hz1, hz2⟩ := info_parts Tryz.infoStr2
  have HS := Lib.hid (cut_start b l)
  have o0 := OwnV.empty w w.heap.size 9 (Nat.le_refl _)
  have b0 : Below w.heap.size w (w.alloc (.cells #[] 9)) := (Below.refl _ _).alloc (Nat.le_refl _) _
  go_enter Tryz.func303, Tryz.ntmps303
  go_wp2_with fail
  go_loopw [5, 6, 7] (fun v f i wr => ∃ (k n : Nat) (D : List (List UInt8)), i = .int .i64 k ∧ f = .int .i64 n ∧ OwnV wr w.heap.size 9 v (D.map str) ∧ Below w.heap.size w wr ∧ ((k ≤ l.length ∧ n ≤ k ∧ CutAt b l k n D) ∨ (k = l.length + 1 ∧ D = cutT b l))) (fun _ _ i _ => l.length + 1 - (intOf i).toNat)
  case atStart => exact ⟨0, 0, [], rfl, rfl, o0, b0, .inl ⟨Nat.zero_le _, Nat.le_refl _, HS.out⟩⟩
  case round =>
    obtain ⟨k, n, D, rfl, rfl, ho, hb, hs⟩ := hrel
    clear o0 b0
    rcases hs with ⟨hk, hn, hcut⟩ | ⟨rfl, rfl⟩
    · have HC := Lib.hid hcut
      have hDl : (D.map str).length ≤ 1048576 := by rw [List.length_map]; have := cut_len hcut; omega
      clear hcut
      have HDl := Lib.hid hDl
      clear hDl
      by_cases hlt : k < l.length
      · have hc := List.getElem?_eq_getElem hlt
        generalize l[k] = c at hc
        have hix := idx_str (P := Tryz.prog) 9 l k c Tryz.underlying9 hc
        have hke : ((k : Int) == (l.length : Int)) = false := by simp; omega
        by_cases hcb : c = b
        · subst hcb
          have HN := Lib.hid (cut_hit HC.out hc)
          have hsl := sub_str (P := Tryz.prog) 9 l n k Tryz.underlying9 hn hk
          have hcc : ((c.toNat : Int) == (c.toNat : Int)) = true := by simp
          clear hc
          generalize hp : (l.drop n).take (k - n) = p at hsl HN
          clear hp
          generalize hxs : D.map str = xs at ho HDl
          have HXS := Lib.hid hxs
          clear hxs
          go_wp2_with (at_builtin; refine wpList_append_own _ rfl _ _ 24 rfl w.heap.size 9 i0 (.string ⟨#[]⟩) 1 16 Tryz.underlying24 hi hz0 hz1 hz2 rfl (by decide) _ _ _ rfl (ho.alloc _) ⟨wr.heap.size, 0, none⟩ 1 1 [str p] rfl rfl ?c1 ?c2 ?c3 ?c4 ?c5 ?_)
          case c1 =>
            intro j u hj
            match j, hj with
            | 0, hj => simp at hj; subst hj; simp [Addr.add]
          case c2 => intro u hu; simp at hu; subst hu; rfl
          case c3 => unfold maxLen; have := HDl.out; omega
          case c4 => have := HDl.out; omega
          case c5 => have := hb.size; simp; omega
          intro v' w4 hown' hgrow _
          obtain ⟨a1, a2⟩ := OwnV.push hb (Nat.le_refl _) ho hown' hgrow
          clear hown' hgrow ho hb hix hsl
          go_wp2
          go_roundw
          case rel => exact ⟨k + 1, k + 1, D ++ [p], by go_num, by go_num, by rw [List.map_append, HXS.out]; exact a1, a2, .inl ⟨by omega, Nat.le_refl _, HN.out⟩⟩
          case measure => simp [intOf]; omega
        · have HN := Lib.hid (cut_miss HC.out hc hcb)
          have hcc : ((c.toNat : Int) == (b.toNat : Int)) = false := u8_ne hcb rfl
          clear hc hcb
          go_wp2_with fail
          go_roundw
          case rel => exact ⟨k + 1, n, D, by go_num, rfl, ho, hb, .inl ⟨by omega, by omega, HN.out⟩⟩
          case measure => simp [intOf]; omega
      · obtain rfl : k = l.length := by omega
        have HN := Lib.hid (cut_end HC.out)
        have hsl := sub_str (P := Tryz.prog) 9 l n l.length Tryz.underlying9 hn hk
        have hke : ((l.length : Int) == (l.length : Int)) = true := by simp
        generalize hp : (l.drop n).take (l.length - n) = p at hsl HN
        clear hp
        generalize hxs : D.map str = xs at ho HDl
        have HXS := Lib.hid hxs
        clear hxs
        go_wp2_with (at_builtin; refine wpList_append_own _ rfl _ _ 24 rfl w.heap.size 9 i0 (.string ⟨#[]⟩) 1 16 Tryz.underlying24 hi hz0 hz1 hz2 rfl (by decide) _ _ _ rfl (ho.alloc _) ⟨wr.heap.size, 0, none⟩ 1 1 [str p] rfl rfl ?d1 ?d2 ?d3 ?d4 ?d5 ?_)
        case d1 =>
          intro j u hj
          match j, hj with
          | 0, hj => simp at hj; subst hj; simp [Addr.add]
        case d2 => intro u hu; simp at hu; subst hu; rfl
        case d3 => unfold maxLen; have := HDl.out; omega
        case d4 => have := HDl.out; omega
        case d5 => have := hb.size; simp; omega
        intro v' w4 hown' hgrow _
        obtain ⟨a1, a2⟩ := OwnV.push hb (Nat.le_refl _) ho hown' hgrow
        clear hown' hgrow ho hb hsl
        go_wp2
        go_roundw
        case rel => exact ⟨l.length + 1, l.length + 1, D ++ [p], by go_num, by go_num, by rw [List.map_append, HXS.out]; exact a1, a2, .inr ⟨rfl, HN.out.symm⟩⟩
        case measure => simp [intOf]
    · go_wp2_with fail
      go_ret
      exact ⟨_, rfl, ho, hb⟩

end Go.Proofs.YtjcmfdgphhonhaaGreatDoor

namespace Go.Proofs.YtjcmfdgphhonhaaGreatDoor
open Go.RowKit
set_option linter.unusedVariables false

noncomputable def readP (l : Txt) : Option (List Txt) := if l = [] then some [] else if playB (cutT 32 l) = true then some (cutT 32 l) else none
def RdPOut (w : World) (r : Option (List Txt)) (e : Ending) (w' : World) : Prop := ∃ v, e = .returned (.tuple #[v, .bool r.isSome]) ∧ OwnV w' w.heap.size 9 v ((r.getD []).map str) ∧ Below w.heap.size w w'
theorem cut_short (b : UInt8) : ∀ (l : Txt), ∀ x ∈ cutT b l, x.length ≤ l.length
  | [], x, hx => by
    have : x = [] := by simpa [cutT] using hx
    rw [this]
    exact Nat.le_refl _
  | c :: l, x, hx => by
    obtain ⟨y, r, e⟩ := cutT_ne b l
    have ih := cut_short b l
    by_cases h : c = b
    · subst h
      rw [cutT_hit] at hx
      rcases List.mem_cons.1 hx with rfl | hx
      · simp
      · have := ih x hx
        rw [List.length_cons]; omega
    · rw [cutT_miss h e] at hx
      rw [e] at ih
      rcases List.mem_cons.1 hx with rfl | hx
      · have := ih y (by simp)
        rw [List.length_cons, List.length_cons]; omega
      · have := ih x (List.mem_cons_of_mem _ hx)
        rw [List.length_cons]; omega
theorem cut_fits {l : Txt} (hl : l.length ≤ 1048576) : shortS (cutT 32 l) := fun x hx => Nat.le_trans (cut_short 32 l x hx) hl

set_option maxRecDepth 100000 in
set_option maxHeartbeats 2000000 in
theorem sPlayOk_long (B : Nat) (v : Value) (ss : List Txt) (w : World) (h : SeeV w B v (ss.map str)) (hl : 100 < ss.length) (hn : ss.length ≤ 2097152) :
    Calls Tryz.prog 18 #[v] w (BoolLt w false) := by
  obtain ⟨A, c, e⟩ := strs_shape h
  subst e
  clear h
  have hne : ((0 : Int) == (ss.length : Int)) = false := by simp; omega
  have h1 : decide ((0 : Int) < (ss.length : Int)) = true := by simp; omega
  have h2 : decide ((ss.length : Int) ≤ 100) = false := by simp; omega
  go_enter Tryz.func18, Tryz.ntmps18
  go_wp2_with fail
  go_loopw [3] (fun i wr => i = .int .i64 0 ∧ wr = w) (fun _ _ => 0)
  case atStart => exact ⟨rfl, rfl⟩
  case round =>
    obtain ⟨rfl, rfl⟩ := hrel
    go_wp2_with fail
    go_ret
    exact ⟨rfl, Below.refl _ _⟩
theorem sPlay_cut (B : Nat) (v : Value) (l : Txt) (hl : l.length ≤ 1048576) (w : World) (h : SeeV w B v ((cutT 32 l).map str)) (hB : B ≤ w.heap.size) : Calls Tryz.prog 18 #[v] w (BoolLt w (playB (cutT 32 l))) := by
  by_cases hc : 100 < (cutT 32 l).length
  · have := cutT_le 32 l
    rw [play_long hc]
    exact sPlayOk_long B v _ w h hc (by omega)
  · exact sPlayOk_any B v _ w h hB (cut_fits hl) (by omega)

set_option maxRecDepth 100000 in
set_option maxHeartbeats 1000000 in
theorem iPlayOk_long (B : Nat) (v : Value) (ss : List Txt) (w : World) (h : SeeV w B v (ss.map str)) (hl : 100 < ss.length) (hn : ss.length ≤ 2097152) :
    Calls Tryz.prog 53 #[v] w (BoolLt w false) := by
  obtain ⟨A, c, e⟩ := strs_shape h
  subst e
  clear h
  have HC : Hid (Calls Tryz.prog 112 #[.slice A ss.length c] w fun e w' => e = .returned (.tuple #[.agg rd0, .bool false]) ∧ Below w.heap.size w w') := Lib.hid (by
    go_enter Tryz.func112, Tryz.ntmps112
    go_wp2_with fail
    exact bodyPost_ret (v := .tuple #[.agg rd0, .bool false]) (by simp [results, Tryz.results112, go_sem]) rfl ⟨rfl, ((Below.refl _ w).alloc (Nat.le_refl _) _).alloc (by simp) _⟩)
  go_enter Tryz.func53, Tryz.ntmps53
  go_wp2_with fail
  refine HC.out.mono ?_
  rintro e w1 ⟨rfl, b1⟩
  go_wp2_with fail
  go_ret
  exact ⟨rfl, b1.alloc b1.size _⟩

end Go.Proofs.YtjcmfdgphhonhaaGreatDoor

namespace Go.Proofs.YtjcmfdgphhonhaaGreatDoor
open Go.RowKit
set_option linter.unusedVariables false

def StrLt (w : World) (t : Txt) (e : Ending) (w' : World) : Prop := e = .returned (str t) ∧ Below w.heap.size w w'
noncomputable def showP (ss : List Txt) : Txt := if playB ss = true then Lib.join ss [32] else []
theorem tail_len (M : Nat) : ∀ r : List Txt, (∀ s ∈ r, s.length ≤ M) → (Lib.joinTail [32] r).length ≤ r.length * (M + 1)
  | [], _ => by simp [Lib.joinTail]
  | x :: r, h => by
    have h1 := tail_len M r (fun s hs => h s (List.mem_cons_of_mem _ hs))
    have h2 := h x (by simp)
    have e : Lib.joinTail [32] (x :: r) = [32] ++ x ++ Lib.joinTail [32] r := by simp [Lib.joinTail]
    have e3 : (x :: r).length * (M + 1) = r.length * (M + 1) + (M + 1) := by rw [List.length_cons, Nat.add_mul, Nat.one_mul]
    have e4 : ([32] : List UInt8).length = 1 := rfl
    rw [e, List.length_append, List.length_append, e3, e4]
    omega
theorem join_len {ss : List Txt} (h : ∀ s ∈ ss, s.length ≤ 1048576) (hl : ss.length ≤ 100) : (Lib.join ss [32]).length ≤ 200000000 := by
  match ss, h, hl with
  | [], _, _ => simp [Lib.join]
  | x :: r, h, hl =>
    rw [Lib.join_cons, List.length_append]
    have h1 := tail_len 1048576 r (fun s hs => h s (List.mem_cons_of_mem _ hs))
    have h2 := h x (by simp)
    rw [List.length_cons] at hl
    have h3 : r.length * (1048576 + 1) ≤ 99 * (1048576 + 1) := Nat.mul_le_mul_right _ (by omega)
    omega

theorem join_any (B : Nat) (v : Value) (ss : List Txt) (w : World) (h : SeeV w B v (ss.map str)) (hB : B ≤ w.heap.size) (hn : ss.length ≤ 1048576) (hj : (Lib.join ss [32]).length ≤ 140737488355328) :
    Calls Tryz.prog 63 #[v, str [32]] w (StrLt w (Lib.join ss [32])) := by
  obtain ⟨A, c, e⟩ := strs_shape h
  subst e
  match ss, h, hn, hj with
  | [], h, _, _ => exact (Tryz.strings_Join_none A c ⟨#[32]⟩ w).mono fun e w' ⟨he, hw⟩ => ⟨he, by rw [hw]; exact Below.refl _ _⟩
  | x :: r, h, hn, hj =>
    obtain ⟨_, A', c', e', hc, hcell⟩ := h
    injection e' with e1 e2 e3
    subst e1 e3
    obtain ⟨g, o, e0, hg, _⟩ := hcell 0 (str x) rfl
    subst e0
    have hl : ((x :: r).map fun l => (⟨l.toArray⟩ : ByteArray)).length = (x :: r).length := by rw [List.length_map]
    have hm : ((x :: r).map fun l => (⟨l.toArray⟩ : ByteArray)).map (·.data.toList) = x :: r := by
      rw [List.map_map]
      exact List.map_id'' (fun _ => rfl) _
    have q := Tryz.strings_Join g o c ((x :: r).map fun l => (⟨l.toArray⟩ : ByteArray)) ⟨#[32]⟩ w (fun j y hy => by
      rw [List.getElem?_map] at hy
      cases hq : (x :: r)[j]? with
      | none => rw [hq] at hy; cases hy
      | some l =>
        rw [hq] at hy
        injection hy with hy
        subst hy
        obtain ⟨g', o', he, -, hc'⟩ := hcell j (str l) (by rw [List.getElem?_map, hq]; rfl)
        injection he with he
        injection he with e1 e2
        subst e1 e2
        exact hc') (by omega) (by rw [hl]; omega) (by rw [hl]; rw [List.length_map] at hc; exact hc) (by rw [hm]; exact hj)
    rw [hm, hl] at q
    exact q

end Go.Proofs.YtjcmfdgphhonhaaGreatDoor

namespace Go.Proofs.YtjcmfdgphhonhaaGreatDoor
open Go.RowKit
set_option linter.unusedVariables false

theorem pj_tail (sep x : List UInt8) (r : List (List UInt8)) : Lib.joinTail sep (x :: r) = sep ++ x ++ Lib.joinTail sep r := by simp [Lib.joinTail]
theorem pj_app {b : UInt8} {y h : List UInt8} {t : List (List UInt8)} (hy : cutT b y = h :: t) : ∀ x : List UInt8, b ∉ x → cutT b (x ++ y) = (x ++ h) :: t
  | [], _ => hy
  | c :: x, hx => by
    rw [List.mem_cons, not_or] at hx
    exact cutT_miss (fun e => hx.1 e.symm) (pj_app hy x hx.2)
theorem pj_cut {b : UInt8} : ∀ (r : List (List UInt8)) (x : List UInt8), (∀ y ∈ x :: r, b ∉ y) → cutT b (Lib.join (x :: r) [b]) = x :: r
  | [], x, h => by
    rw [Lib.join_one]
    have := pj_app (b := b) (y := []) (h := []) (t := []) rfl x (h x (List.mem_cons_self ..))
    simpa using this
  | z :: r, x, h => by
    rw [Lib.join_cons, pj_tail]
    have ih := pj_cut r z (fun y hy => h y (List.mem_cons_of_mem _ hy))
    rw [Lib.join_cons] at ih
    have := pj_app (b := b) (y := b :: (z ++ Lib.joinTail [b] r)) (h := []) (t := z :: r) (by rw [cutT_hit, ih]) x (h x (List.mem_cons_self ..))
    simpa using this
theorem pj_join (b : UInt8) (t : List UInt8) : Lib.join (cutT b t) [b] = t := by
  induction t with
  | nil => rfl
  | cons c l ih =>
    obtain ⟨x, r, e⟩ := cutT_ne b l
    rw [e, Lib.join_cons] at ih
    by_cases h : c = b
    · subst h
      rw [cutT_hit, e, Lib.join_cons, pj_tail, ← ih]
      simp
    · rw [cutT_miss h e, Lib.join_cons, List.cons_append, ih]
theorem head_nn {x : Txt} (h : headB x = true) : x ≠ [] := fun e => by rw [e] at h; revert h; decide
theorem read_show7 {t : Txt} {zs : List Txt} (h : readP t = some zs) : showP zs = t := by
  unfold readP at h
  by_cases ht : t = []
  · rw [if_pos ht] at h
    injection h with h
    subst h ht
    unfold showP
    split <;> rfl
  · rw [if_neg ht] at h
    by_cases hp : playB (cutT 32 t) = true
    · rw [if_pos hp] at h
      injection h with h
      subst h
      unfold showP
      rw [if_pos hp]
      exact pj_join 32 t
    · rw [if_neg hp] at h
      cases h
theorem show_read7 {ss : List Txt} (h : playB ss = true) : readP (showP ss) = some ss := by
  unfold showP
  rw [if_pos h]
  match ss, h with
  | [], _ => rfl
  | x :: r, h =>
    have hb := play_noB h
    obtain ⟨h1, D, a, g, h2, _⟩ := play_open h
    have hx : x ≠ [] := by
      rcases h2.inv with ⟨q, _⟩ | ⟨k1, D1, D2, ho, _⟩
      · simp at q
      · have := head_nn ho.head
        rwa [sg7_some (ss := x :: r) (k := 0) (x := x) rfl] at this
    have hc := pj_cut r x hb
    have hne : ¬ Lib.join (x :: r) [32] = [] := by
      rw [Lib.join_cons]
      intro q
      exact hx (List.append_eq_nil_iff.1 q).1
    unfold readP
    rw [if_neg hne, hc, if_pos h]
theorem join_up {ss : List Txt} (h : upTo 30 ss) (hl : ss.length ≤ 101) : (Lib.join ss [32]).length ≤ 4000 := by
  match ss, h, hl with
  | [], _, _ => simp [Lib.join]
  | x :: r, h, hl =>
    rw [Lib.join_cons, List.length_append]
    have h1 := tail_len 30 r (fun s hs => h s (List.mem_cons_of_mem _ hs))
    have h2 := h x (by simp)
    rw [List.length_cons] at hl
    have h3 : r.length * (30 + 1) ≤ 100 * (30 + 1) := Nat.mul_le_mul_right _ (by omega)
    omega
theorem show_up {ss : List Txt} (h : upTo 30 ss) (hl : ss.length ≤ 101) : (showP ss).length ≤ 4000 := by
  unfold showP
  split
  · exact join_up h hl
  · simp
theorem upTo_short {ss : List Txt} (h : upTo 30 ss) : shortS ss := fun s hs => by have := h s hs; omega

theorem read_short {t : Txt} {zs : List Txt} (h : readP t = some zs) (hl : t.length ≤ 1048576) : shortS zs := by
  unfold readP at h
  by_cases ht : t = []
  · rw [if_pos ht] at h
    injection h with h
    subst h
    exact fun s hs => by simp at hs
  · rw [if_neg ht] at h
    by_cases hp : playB (cutT 32 t) = true
    · rw [if_pos hp] at h
      injection h with h
      subst h
      exact cut_fits hl
    · rw [if_neg hp] at h
      cases h
/-- Behind an append of texts. -/
theorem app_more {W w1 : World} {B gv k c m : Nat} {v' : Value} {xs ys : List Txt} (ho : OwnV W B 9 (.slice (some ⟨gv, 0, none⟩) k c) (xs.map str)) (hB : B ≤ W.heap.size) (hm : ys.length = m)
    (h1 : w1.ownsRow B 9 1 v' ((xs.map str).length + m) (xs.map str ++ ys.map str)) (hgr : W.grownBy w1 (some gv)) (hnil : v' = .slice none 0 0 ↔ Value.slice (some ⟨gv, 0, none⟩) k c = .slice none 0 0 ∧ m = 0) :
    ∃ g4 c4, v' = .slice (some ⟨g4, 0, none⟩) (xs ++ ys).length c4 ∧ OwnV w1 B 9 (.slice (some ⟨g4, 0, none⟩) (xs ++ ys).length c4) ((xs ++ ys).map str) ∧ Below B W w1 := by
  have hr : B ≤ gv := (ho.lt gv rfl).1
  have hoo : OwnV w1 B 9 v' ((xs ++ ys).map str) := by
    unfold OwnV
    rw [List.length_map, List.length_append, hm, List.map_append]
    rw [List.length_map] at h1
    exact h1
  obtain ⟨g4, c4, rfl⟩ := hoo.shape1 (fun q => by have := (hnil.1 q).1; cases this)
  rw [List.length_map] at hoo ⊢
  exact ⟨g4, c4, rfl, hoo, (Below.refl _ W).grown hgr hB (fun j hj => by cases hj; exact hr)⟩

/-- A text drawn. -/
def TextDrawn (w : World) (e : Ending) (w' : World) : Prop := ∃ t : Txt, e = .returned (str t) ∧ t.length ≤ 4002 ∧ Below w.heap.size w w'

end Go.Proofs.YtjcmfdgphhonhaaGreatDoor
