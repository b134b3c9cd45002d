/- Words of our own for rows of structs: each element n cells side by side. No program is named here. -/
import Derived.Test.YtblnonlcjfcblaaGreatDoorRowV
import Derived.Laws.MakeOwn
namespace Go.Proofs.YtblnonlcjfcblaaGreatDoor
open Go.RowKit
set_option linter.unusedVariables false

/-- The value v is a slice (nil, empty or not) whose elements, of n cells each, read as xs; its cells lie below block B. -/
def SeeN (n : Nat) (w : World) (B : Nat) (v : Value) (xs : List (List Value)) : Prop :=
  xs.length ≤ maxLen ∧ ∃ A c, v = .slice A xs.length c ∧ xs.length ≤ c ∧ ∀ k x, xs[k]? = some x → ∃ g o, A = some ⟨g, o, none⟩ ∧ g < B ∧ ∀ i y, x[i]? = some y → w.cell? ⟨g, o + k * n + i, none⟩ = some y
theorem SeeN.keep {n : Nat} {w w' : World} {B : Nat} {v : Value} {xs : List (List Value)} (h : SeeN n w B v xs) (hk : ∀ p : Addr, p.block < B → w'.cell? p = w.cell? p) : SeeN n w' B v xs := by
  obtain ⟨h0, A, c, rfl, hc, h1⟩ := h
  refine ⟨h0, A, c, rfl, hc, fun k x hx => ?_⟩
  obtain ⟨g, o, rfl, hg, hcell⟩ := h1 k x hx
  exact ⟨g, o, rfl, hg, fun i y hy => (hk _ hg).trans (hcell i y hy)⟩
theorem SeeN.below {n : Nat} {w w' : World} {B : Nat} {v : Value} {xs : List (List Value)} (h : SeeN n w B v xs) (hb : Below B w w') : SeeN n w' B v xs := h.keep fun _ hp => hb.cell hp
theorem SeeN.alloc {n : Nat} {w : World} {B : Nat} {v : Value} {xs : List (List Value)} (h : SeeN n w B v xs) (hB : B ≤ w.heap.size) (o : Obj) : SeeN n (w.alloc o) B v xs := h.keep fun p hp => World.cell?_alloc_lt w o p (by omega)
theorem SeeN.more {n : Nat} {w : World} {B B' : Nat} {v : Value} {xs : List (List Value)} (h : SeeN n w B v xs) (hB : B ≤ B') : SeeN n w B' v xs := by
  obtain ⟨h0, A, c, rfl, hc, h1⟩ := h
  refine ⟨h0, A, c, rfl, hc, fun k x hx => ?_⟩
  obtain ⟨g, o, rfl, hg, hcell⟩ := h1 k x hx
  exact ⟨g, o, rfl, by omega, hcell⟩
theorem SeeN.shape {n : Nat} {w : World} {B : Nat} {v : Value} {xs : List (List Value)} (h : SeeN n w B v xs) : ∃ A c, v = .slice A xs.length c := by
  obtain ⟨_, A, c, rfl, _⟩ := h; exact ⟨A, c, rfl⟩
theorem SeeN.at_ {n : Nat} {w : World} {B : Nat} {A : Option Addr} {m c : Nat} {xs : List (List Value)} {k : Nat} {x : List Value} (h : SeeN n w B (.slice A m c) xs) (hx : xs[k]? = some x) :
    ∃ g o, A = some ⟨g, o, none⟩ ∧ g < B ∧ ∀ i y, x[i]? = some y → w.cell? ⟨g, o + k * n + i, none⟩ = some y := by
  obtain ⟨_, A', c', he, _, h1⟩ := h
  obtain ⟨g, o, rfl, hg, hc⟩ := h1 k x hx
  injection he with he
  exact ⟨g, o, he, hg, hc⟩

/-- The value v is a slice of the call's own (blocks from B on) whose elements, of n cells each, are xs. -/
def OwnN (n : Nat) (w : World) (B : Nat) (e : TypeId) (v : Value) (xs : List (List Value)) : Prop := w.ownsRow B e n v xs.length xs.flatten ∧ ∀ x ∈ xs, x.length = n
theorem OwnN.nil (n : Nat) (w : World) (B : Nat) (e : TypeId) : OwnN n w B e (.slice none 0 0) [] := ⟨World.ownsRow_nil _ _ _ _, by simp⟩
theorem OwnN.empty (n : Nat) (w : World) (B : Nat) (e : TypeId) (hB : B ≤ w.heap.size) : OwnN n (w.alloc (.cells #[] e)) B e (.slice (some ⟨w.heap.size, 0, none⟩) 0 0) [] :=
  ⟨World.ownsRow_made w #[] 0 hB (Nat.zero_le _) (by simp), by simp⟩
theorem OwnN.alloc {n : Nat} {w : World} {B : Nat} {e : TypeId} {v : Value} {xs : List (List Value)} (h : OwnN n w B e v xs) (o : Obj) : OwnN n (w.alloc o) B e v xs := ⟨World.ownsRow.alloc h.1 o, h.2⟩
theorem OwnN.drewN {n : Nat} {w : World} {B : Nat} {e : TypeId} {v : Value} {xs : List (List Value)} (h : OwnN n w B e v xs) (k : Nat) : OwnN n (w.drewN k) B e v xs := h
theorem OwnN.lt {n : Nat} {w : World} {B : Nat} {e : TypeId} {v : Value} {xs : List (List Value)} (h : OwnN n w B e v xs) : ∀ g, v.ownBlock = some g → B ≤ g ∧ g < w.heap.size := World.ownsRow.lt h.1
theorem OwnN.less {n : Nat} {w : World} {B B' : Nat} {e : TypeId} {v : Value} {xs : List (List Value)} (h : OwnN n w B e v xs) (hB : B' ≤ B) : OwnN n w B' e v xs := by
  obtain ⟨⟨hl, h⟩, hn⟩ := h
  rcases h with h | ⟨g, cap, cur, h1, h2, h3⟩
  · exact ⟨⟨hl, .inl h⟩, hn⟩
  · exact ⟨⟨hl, .inr ⟨g, cap, cur, h1, Nat.le_trans hB h2, h3⟩⟩, hn⟩
theorem OwnN.later {n : Nat} {w w' : World} {B : Nat} {e : TypeId} {v : Value} {xs : List (List Value)} (h : OwnN n w B e v xs) (hb : Below w.heap.size w w') : OwnN n w' B e v xs := by
  obtain ⟨⟨hl, h⟩, hn⟩ := h
  rcases h with h | ⟨g, cap, cur, h1, h2, h3, h4⟩
  · exact ⟨⟨hl, .inl h⟩, hn⟩
  · exact ⟨⟨hl, .inr ⟨g, cap, cur, h1, h2, (hb.block g (Array.getElem?_eq_some_iff.1 h3).1).trans h3, h4⟩⟩, hn⟩
/-- One cell of rows side by side. -/
theorem flat_at {n : Nat} : ∀ {xs : List (List Value)}, (∀ x ∈ xs, x.length = n) → ∀ {k i : Nat} {x : List Value} {y : Value}, xs[k]? = some x → x[i]? = some y → xs.flatten[k * n + i]? = some y
  | [], _, k, i, x, y, hx, _ => by simp at hx
  | z :: r, hn, 0, i, x, y, hx, hy => by
    obtain rfl : z = x := by simpa using hx
    have hi := (List.getElem?_eq_some_iff.1 hy).1
    rw [List.flatten_cons, Nat.zero_mul, Nat.zero_add, List.getElem?_append_left hi, hy]
  | z :: r, hn, k + 1, i, x, y, hx, hy => by
    have hz : z.length = n := hn z (by simp)
    rw [List.flatten_cons, Nat.succ_mul, List.getElem?_append_right (by omega), show k * n + n + i - z.length = k * n + i by omega]
    exact flat_at (fun a ha => hn a (by simp [ha])) (by simpa using hx) hy
theorem flat_len {n : Nat} : ∀ {xs : List (List Value)}, (∀ x ∈ xs, x.length = n) → xs.flatten.length = xs.length * n
  | [], _ => by simp
  | z :: r, hn => by
    have hz : z.length = n := hn z (by simp)
    rw [List.flatten_cons, List.length_append, hz, flat_len (fun a ha => hn a (by simp [ha])), List.length_cons, Nat.succ_mul]; omega
theorem OwnN.see {n : Nat} {w : World} {B : Nat} {e : TypeId} {v : Value} {xs : List (List Value)} (h : OwnN n w B e v xs) : SeeN n w w.heap.size v xs := by
  obtain ⟨⟨hl, h⟩, hn⟩ := h
  rcases h with ⟨rfl, h0⟩ | ⟨g, cap, cur, rfl, hb, hg, hnc, hcm, hcs, ht⟩
  · refine ⟨by omega, none, 0, by rw [h0], by omega, fun k x hx => ?_⟩
    have := (List.getElem?_eq_some_iff.1 hx).1
    omega
  · refine ⟨by omega, some ⟨g, 0, none⟩, cap, rfl, hnc, fun k x hx => ⟨g, 0, rfl, (Array.getElem?_eq_some_iff.1 hg).1, fun i y hy => ?_⟩⟩
    have hf := flat_at hn hx hy
    have hlt := (List.getElem?_eq_some_iff.1 hf).1
    rw [hl] at hlt
    rw [Nat.zero_add, cell_of_row w g _ cur e (0, 0) hg]
    have : (cur.toList.take (xs.length * n))[k * n + i]? = xs.flatten[k * n + i]? := by rw [ht]
    rw [List.getElem?_take, if_pos hlt, hf] at this
    rw [← Array.getElem?_toList, this]

/-- 'make([]T, n)', T of size cells. -/
theorem make_rows {P : Program} (t e : TypeId) (z : Value) (size bytes : Nat) (ht : P.underlying t = some (.slice e)) (hinfo : (P.info? e).map (fun i => (i.zero, i.size, i.bytes)) = some (some z, size, bytes))
    (kl kc : IntKind) (n : Nat) (hbytes : bytes * n ≤ 281474976710656) (h63 : n ≤ 9223372036854775807) (w : World) :
    (Instr.makeSlice t (.int kl (n : Int)) (.int kc (n : Int))).run P w = .ok (.slice (some ⟨w.heap.size, 0, none⟩) n n) (w.alloc (.cells (madeCells z.cells (n * size)) e)) := by
  obtain ⟨i, hi, hzz⟩ := Option.map_eq_some_iff.1 hinfo
  simp only [Prod.mk.injEq] at hzz
  obtain ⟨hz, hs, hb⟩ := hzz
  subst hs hb
  have hb' : (i.bytes : Int) * (n : Int) ≤ 281474976710656 := by
    have h : ((i.bytes * n : Nat) : Int) ≤ 281474976710656 := by omega
    rwa [Int.natCast_mul] at h
  have hr := run_make (P := P) w t e i z ht hi hz kl kc n n (by omega) (Int.le_refl _) hb' (by omega)
  simpa only [Int.toNat_natCast] using hr
theorem take_more_flat {xs : List (List Value)} {k : Nat} {x : List Value} (hx : xs[k]? = some x) : (xs.take (k + 1)).flatten = (xs.take k).flatten ++ x := by
  rw [List.take_add_one, hx]; simp
theorem take_two {cur : Array Value} {k : Nat} {u v : Value} {l : List Value} (h : cur.toList.take (k * 2) = l) (hk : k * 2 + 1 < cur.size) :
    ((cur.setIfInBounds (k * 2) u).setIfInBounds (k * 2 + 1) v).toList.take ((k + 1) * 2) = l ++ [u, v] := by
  have h1 := take_set (u := u) h (show k * 2 < cur.size by omega)
  have h2 := take_set (u := v) h1 (by rw [Array.size_setIfInBounds]; exact hk)
  rw [show (k + 1) * 2 = k * 2 + 1 + 1 by omega, h2]
  simp

end Go.Proofs.YtblnonlcjfcblaaGreatDoor
