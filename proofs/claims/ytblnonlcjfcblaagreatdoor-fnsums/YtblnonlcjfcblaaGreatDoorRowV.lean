/- Words of our own for rows of whatever values of one cell (bytes, strings): made by the call, or read. No program is named here. -/
import Derived.Test.YtblnonlcjfcblaaGreatDoorLater
import Derived.Laws.IdiomStrings
import Derived.Lib.Join
import Derived.Lib.Repeat
import Derived.Laws.Strings2
namespace Go.Proofs.YtblnonlcjfcblaaGreatDoor
open Go.RowKit
set_option linter.unusedVariables false

def OwnV (w : World) (B : Nat) (e : TypeId) (v : Value) (xs : List Value) : Prop := w.ownsRow B e 1 v xs.length xs
theorem OwnV.nil (w : World) (B : Nat) (e : TypeId) : OwnV w B e (.slice none 0 0) [] := World.ownsRow_nil _ _ _ _
theorem OwnV.empty (w : World) (B : Nat) (e : TypeId) (hB : B ≤ w.heap.size) : OwnV (w.alloc (.cells #[] e)) B e (.slice (some ⟨w.heap.size, 0, none⟩) 0 0) [] :=
  World.ownsRow_made w #[] 0 hB (Nat.zero_le _) rfl
theorem OwnV.alloc {w : World} {B : Nat} {e : TypeId} {v : Value} {xs : List Value} (h : OwnV w B e v xs) (o : Obj) : OwnV (w.alloc o) B e v xs := World.ownsRow.alloc h o
theorem OwnV.drewN {w : World} {B : Nat} {e : TypeId} {v : Value} {xs : List Value} (h : OwnV w B e v xs) (n : Nat) : OwnV (w.drewN n) B e v xs := h
theorem OwnV.lt {w : World} {B : Nat} {e : TypeId} {v : Value} {xs : List Value} (h : OwnV w B e v xs) : ∀ g, v.ownBlock = some g → B ≤ g ∧ g < w.heap.size := World.ownsRow.lt h
theorem OwnV.far {w : World} {B : Nat} {e : TypeId} {v : Value} {xs : List Value} (h : OwnV w B e v xs) {p : Addr} (hp : p.block < B) (u : Value) : OwnV (w.setCell p u) B e v xs := ownsRow_setCell_below h hp u
theorem OwnV.less {w : World} {B B' : Nat} {e : TypeId} {v : Value} {xs : List Value} (h : OwnV w B e v xs) (hB : B' ≤ B) : OwnV w B' e v xs := by
  obtain ⟨hl, h⟩ := h
  rcases h with h | ⟨g, cap, cur, h1, h2, h3⟩
  · exact ⟨hl, .inl h⟩
  · exact ⟨hl, .inr ⟨g, cap, cur, h1, Nat.le_trans hB h2, h3⟩⟩
theorem OwnV.push {w wr w1 : World} {B : Nat} {e : TypeId} {v v' : Value} {xs : List Value} {x : Value} {o : Obj} (hb : Below B w wr) (hB : B ≤ w.heap.size) (h : OwnV wr B e v xs)
    (h1 : w1.ownsRow B e 1 v' (xs.length + 1) (xs ++ [x])) (hg : (wr.alloc o).grownBy w1 v.ownBlock) : OwnV w1 B e v' (xs ++ [x]) ∧ Below B w w1 := by
  have hs : B ≤ wr.heap.size := Nat.le_trans hB hb.size
  refine ⟨?_, (hb.alloc hs o).grown hg (by simp; omega) (fun j hj => (h.lt j hj).1)⟩
  unfold OwnV
  simpa using h1
/-- The row of the call's own goes on over a call that leaves alone what was there. -/
theorem OwnV.later {w w' : World} {B : Nat} {e : TypeId} {v : Value} {xs : List Value} (h : OwnV w B e v xs) (hb : Below w.heap.size w w') : OwnV w' B e v xs := by
  obtain ⟨hl, h⟩ := h
  rcases h with h | ⟨g, cap, cur, h1, h2, h3, h4⟩
  · exact ⟨hl, .inl h⟩
  · exact ⟨hl, .inr ⟨g, cap, cur, h1, h2, (hb.block g (Array.getElem?_eq_some_iff.1 h3).1).trans h3, h4⟩⟩

theorem OwnI.later {w w' : World} {B : Nat} {e : TypeId} {v : Value} {zs : List Int} (h : OwnI w B e v zs) (hb : Below w.heap.size w w') : OwnI w' B e v zs := by
  obtain ⟨hl, h⟩ := h
  rcases h with h | ⟨g, cap, cur, h1, h2, h3, h4⟩
  · exact ⟨hl, .inl h⟩
  · exact ⟨hl, .inr ⟨g, cap, cur, h1, h2, (hb.block g (Array.getElem?_eq_some_iff.1 h3).1).trans h3, h4⟩⟩

def SeeV (w : World) (B : Nat) (v : Value) (xs : List Value) : Prop :=
  xs.length ≤ maxLen ∧ ∃ A c, v = .slice A xs.length c ∧ xs.length ≤ c ∧ ∀ k x, xs[k]? = some x → ∃ g o, A = some ⟨g, o, none⟩ ∧ g < B ∧ w.cell? ⟨g, o + k, none⟩ = some x
theorem SeeV.keep {w w' : World} {B : Nat} {v : Value} {xs : List Value} (h : SeeV w B v xs) (hk : ∀ p : Addr, p.block < B → w'.cell? p = w.cell? p) : SeeV w' B v xs := by
  obtain ⟨h0, A, c, rfl, hc, h1⟩ := h
  refine ⟨h0, A, c, rfl, hc, fun k x hx => ?_⟩
  obtain ⟨g, o, rfl, hg, hcell⟩ := h1 k x hx
  exact ⟨g, o, rfl, hg, (hk _ hg).trans hcell⟩
theorem SeeV.below {w w' : World} {B : Nat} {v : Value} {xs : List Value} (h : SeeV w B v xs) (hb : Below B w w') : SeeV w' B v xs := h.keep fun _ hp => hb.cell hp
theorem SeeV.alloc {w : World} {B : Nat} {v : Value} {xs : List Value} (h : SeeV w B v xs) (hB : B ≤ w.heap.size) (o : Obj) : SeeV (w.alloc o) B v xs := h.keep fun p hp => World.cell?_alloc_lt w o p (by omega)
theorem SeeV.more {w : World} {B B' : Nat} {v : Value} {xs : List Value} (h : SeeV w B v xs) (hB : B ≤ B') : SeeV w B' v xs := by
  obtain ⟨h0, A, c, rfl, hc, h1⟩ := h
  refine ⟨h0, A, c, rfl, hc, fun k x hx => ?_⟩
  obtain ⟨g, o, rfl, hg, hcell⟩ := h1 k x hx
  exact ⟨g, o, rfl, by omega, hcell⟩
theorem SeeV.shape {w : World} {B : Nat} {v : Value} {xs : List Value} (h : SeeV w B v xs) : ∃ A c, v = .slice A xs.length c := by
  obtain ⟨_, A, c, rfl, _⟩ := h; exact ⟨A, c, rfl⟩
theorem OwnV.see {w : World} {B : Nat} {e : TypeId} {v : Value} {xs : List Value} (h : OwnV w B e v xs) : SeeV w w.heap.size v xs := by
  obtain ⟨hl, h⟩ := h
  rcases h with ⟨rfl, hn⟩ | ⟨g, cap, cur, rfl, hb, hg, hnc, hcm, hcs, ht⟩
  · refine ⟨by omega, none, 0, by rw [hn], by omega, fun k x hx => ?_⟩
    have := (List.getElem?_eq_some_iff.1 hx).1
    omega
  · refine ⟨by omega, some ⟨g, 0, none⟩, cap, rfl, hnc, fun k x hx => ⟨g, 0, rfl, (Array.getElem?_eq_some_iff.1 hg).1, ?_⟩⟩
    have hk := (List.getElem?_eq_some_iff.1 hx).1
    rw [Nat.zero_add, cell_of_row w g k cur e (0, 0) hg]
    have : (cur.toList.take (xs.length * 1))[k]? = xs[k]? := by rw [ht]
    rw [List.getElem?_take, if_pos (by omega)] at this
    rw [← Array.getElem?_toList, this, hx]
theorem SeeV.at_ {w : World} {B : Nat} {A : Option Addr} {n c : Nat} {xs : List Value} {k : Nat} {x : Value} (h : SeeV w B (.slice A n c) xs) (hx : xs[k]? = some x) :
    ∃ g o, A = some ⟨g, o, none⟩ ∧ g < B ∧ w.cell? ⟨g, o + k, none⟩ = some x := by
  obtain ⟨_, A', c', he, _, h1⟩ := h
  obtain ⟨g, o, rfl, hg, hc⟩ := h1 k x hx
  injection he with he
  exact ⟨g, o, he, hg, hc⟩

/-- A text's value. -/
abbrev str (l : List UInt8) : Value := .string ⟨l.toArray⟩
abbrev byte (b : UInt8) : Value := .int .u8 (b.toNat : Int)
theorem mk_append (a b : List UInt8) : (⟨a.toArray⟩ : ByteArray) ++ ⟨b.toArray⟩ = ⟨(a ++ b).toArray⟩ := ByteArray.mk_append_mk a b
theorem u8_ne {b c : UInt8} (h : ¬ b = c) {z : Int} (hz : z = (c.toNat : Int)) : ((b.toNat : Int) == z) = false := by
  subst hz
  simp only [beq_eq_false_iff_ne, ne_eq]
  intro e
  exact h (UInt8.toNat_inj.1 (by omega))
/-- 's[k]'. -/
theorem idx_str {P : Program} (t : TypeId) (l : List UInt8) (k : Nat) (b : UInt8) (h : P.underlying t = some .string) (hk : l[k]? = some b) (W : World) :
    (Instr.index t (.string ⟨l.toArray⟩) (.int .i64 (k : Int))).run P W = .ok (byte b) W := by
  have hl := (List.getElem?_eq_some_iff.1 hk).1
  rw [run_index_string W t ⟨l.toArray⟩ .i64 k h, dif_pos (by simp [ByteArray.size]; omega)]
  have : (⟨l.toArray⟩ : ByteArray)[(k : Int).toNat]'(by simp [ByteArray.size]; omega) = b := by
    show l.toArray[(k : Int).toNat]'_ = b
    simp
    exact (List.getElem?_eq_some_iff.1 hk).2
  rw [this]

/-- 's[a:b]'. -/
theorem sub_str {P : Program} (t : TypeId) (l : List UInt8) (a b : Nat) (h : P.underlying t = some .string) (h1 : a ≤ b) (h2 : b ≤ l.length) (W : World) :
    (Instr.slice t (.string ⟨l.toArray⟩) (some (.int .i64 (a : Int))) (some (.int .i64 (b : Int))) none).run P W = .ok (str ((l.drop a).take (b - a))) W := by
  have hz : (⟨l.toArray⟩ : ByteArray).size = l.length := by simp [ByteArray.size]
  rw [run_slice_string W t ⟨l.toArray⟩ .i64 .i64 a b h (by omega) (by omega) (by omega)]
  have : (⟨l.toArray⟩ : ByteArray).extract (a : Int).toNat (b : Int).toNat = ⟨((l.drop a).take (b - a)).toArray⟩ := by
    rw [Int.toNat_natCast, Int.toNat_natCast]
    exact ByteArray.ext (Array.ext' (by rw [Lib.extract_data]))
  rw [this]

/-- '[]byte(s)': a new row of the text's bytes, which may be written. -/
theorem conv_bytes {P : Program} (w : World) (src dst e : TypeId) (l : List UInt8) (hs : P.underlying src = some .string) (hd : P.underlying dst = some (.slice e)) (he : P.underlying e = some (.int .u8)) :
    ∃ cap W, (convert src dst (.string ⟨l.toArray⟩)).run P w = .ok (.slice (some ⟨w.heap.size, 0, none⟩) l.length cap) W ∧ (∀ j b, l[j]? = some b → W.cell? ⟨w.heap.size, j, none⟩ = some (byte b)) ∧
      (∀ j, j < l.length → W.frozen? ⟨w.heap.size, j, none⟩ = false) ∧ Below w.heap.size w W ∧ w.heap.size < W.heap.size := by
  have hr := run_bytes_of_string w src dst e ⟨l.toArray⟩ hs hd he
  have hz : (⟨l.toArray⟩ : ByteArray).size = l.length := by simp [ByteArray.size]
  rw [hz] at hr
  generalize hcap : grownCap w l.length 0 e = cap at hr
  refine ⟨cap, _, hr, fun j b hj => ?_, fun j hj => ?_, ?_, by simp⟩
  · have hg : (w.drew.alloc (.cells (bytesRow ⟨l.toArray⟩ cap) e ((bytesRow ⟨l.toArray⟩ cap).size, (bytesRow ⟨l.toArray⟩ cap).size + 1))).heap[w.heap.size]? = some (.cells (bytesRow ⟨l.toArray⟩ cap) e ((bytesRow ⟨l.toArray⟩ cap).size, (bytesRow ⟨l.toArray⟩ cap).size + 1)) := heap_alloc_new w.drew _
    rw [cell_of_row _ _ j _ _ _ hg]
    have hjl := (List.getElem?_eq_some_iff.1 hj).1
    have : (bytesRow ⟨l.toArray⟩ cap)[j]? = ((⟨l.toArray⟩ : ByteArray).data.map (fun b => Value.int .u8 b.toNat))[j]? := by
      unfold bytesRow
      rw [Array.getElem?_append_left (by simpa using hjl)]
    rw [this]
    simp [hj, byte]
  · have hg : (w.drew.alloc (.cells (bytesRow ⟨l.toArray⟩ cap) e ((bytesRow ⟨l.toArray⟩ cap).size, (bytesRow ⟨l.toArray⟩ cap).size + 1))).heap[w.heap.size]? = some (.cells (bytesRow ⟨l.toArray⟩ cap) e ((bytesRow ⟨l.toArray⟩ cap).size, (bytesRow ⟨l.toArray⟩ cap).size + 1)) := heap_alloc_new w.drew _
    have hl : l.length ≤ (bytesRow ⟨l.toArray⟩ cap).size := by simp [bytesRow]
    simp only [World.frozen?, hg]
    simp
    omega
  · exact (Below.refl w.heap.size w).drew.alloc (Nat.le_refl _) _
/-- 'string(b)'. -/
theorem conv_back {P : Program} (w : World) (src dst e : TypeId) (B : Nat) (v : Value) (l : List UInt8) (hs : P.underlying src = some (.slice e)) (he : P.underlying e = some (.int .u8)) (hd : P.underlying dst = some .string)
    (h : SeeV w B v (l.map byte)) : (convert src dst v).run P w = .ok (str l) w := by
  obtain ⟨_, A, c, rfl, _, hc⟩ := h
  rw [List.length_map]
  cases l with
  | nil =>
    rw [run_convert_bytes_string w src dst e A _ c hs he hd]
    cases A with
    | none => simp [Conv.bytesToString, str]; rfl
    | some a =>
      have := run_convert_bytes_back w src dst e a c [] hs he hd (fun j hj => by simp at hj)
      rw [run_convert_bytes_string w src dst e _ _ c hs he hd] at this
      exact this
  | cons b l =>
    obtain ⟨g, o, rfl, _, _⟩ := hc 0 (byte b) rfl
    refine run_convert_bytes_back w src dst e ⟨g, o, none⟩ c (b :: l) hs he hd (fun j hj => ?_)
    obtain ⟨g', o', he', _, hcell⟩ := hc j (byte (b :: l)[j]) (by rw [List.getElem?_map, List.getElem?_eq_getElem hj]; rfl)
    injection he' with he'
    injection he' with e1 e2
    subst e1 e2
    rw [show (⟨g, o, none⟩ : Addr).add j = ⟨g, o + j, none⟩ from by unfold Addr.add; split <;> simp_all]
    exact hcell

end Go.Proofs.YtblnonlcjfcblaaGreatDoor
