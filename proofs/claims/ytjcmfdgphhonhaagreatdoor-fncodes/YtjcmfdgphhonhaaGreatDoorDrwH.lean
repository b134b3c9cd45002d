/- The model's l7Draw: it ends, and what it draws is short. No conditions but those typed. -/
import Derived.Test.YtjcmfdgphhonhaaGreatDoorDrwG
import Derived.Deep.LoopGhost
namespace Go.Proofs.YtjcmfdgphhonhaaGreatDoor
open Go.RowKit
set_option linter.unusedVariables false

theorem kind_len {σ : Type} (next : σ → Int × σ) (sub : Option (σ → Nat × σ)) (L : Nat) (hs : ∀ f, sub = some f → ∀ s, (f s).1 ≤ L) (k : Int) (s : σ) : (kindG next sub k s).1 ≤ 12 + L + L := by
  have h7 : ∀ s, (sumG next 2 s).1 ≤ 7 := fun s => (sum_len2 next s).2.2
  unfold kindG
  split
  · show 3 ≤ _; omega
  split
  · have := h7 s; show 2 + _ ≤ _; omega
  split
  · cases hf : sub with
    | none => show 0 ≤ _; omega
    | some f =>
      have := h7 s
      have := hs f hf (sumG next 2 s).2
      have := hs f hf (f (sumG next 2 s).2).2
      show 5 + _ + _ + _ ≤ _
      omega
  split
  · cases hf : sub with
    | none => show 0 ≤ _; omega
    | some f =>
      have := hs f hf (next (next s).2).2
      show 11 + _ ≤ _
      omega
  split
  · show (if _ then 1 else 0) ≤ _
    split <;> omega
  · have := h7 (next s).2; show 2 + _ ≤ _; omega
theorem kind_len0 {σ : Type} (next : σ → Int × σ) (k : Int) (s : σ) : (kindG next none k s).1 ≤ 9 := by
  have h7 : ∀ s, (sumG next 2 s).1 ≤ 7 := fun s => (sum_len2 next s).2.2
  unfold kindG
  split
  · show 3 ≤ 9; omega
  split
  · have := h7 s; show 2 + _ ≤ 9; omega
  split
  · show 0 ≤ 9; omega
  split
  · show 0 ≤ 9; omega
  split
  · show (if _ then 1 else 0) ≤ 9
    split <;> omega
  · have := h7 (next s).2; show 2 + _ ≤ 9; omega
theorem times_len {σ : Type} (f : σ → Nat × σ) (B : Nat) (hf : ∀ s, (f s).1 ≤ B) : ∀ (n : Nat) (s : σ), (timesG f n s).1 ≤ n * B
  | 0, s => Nat.zero_le _
  | n + 1, s => by
    have h1 := hf s
    have h2 := times_len f B hf n (f s).2
    rw [Nat.succ_mul]
    show _ + _ ≤ _
    omega
theorem len_low {σ : Type} (next : σ → Int × σ) (s : σ) : (deedsG next 0 3 s).1 ≤ 18 := by
  have h := times_len (deedG next none) 9 (fun s => kind_len0 next _ _) ((next s).1 % 3).toNat (next s).2
  have hm := most_lt (next s).1 (show (0 : Int) < 3 by omega)
  have h3 : ((next s).1 % 3).toNat * 9 ≤ 2 * 9 := Nat.mul_le_mul_right _ hm
  show (timesG _ _ _).1 ≤ 18
  omega
theorem len_mid {σ : Type} (next : σ → Int × σ) (m : Int) (h0 : 0 < m) (s : σ) : (deedsG next 1 m s).1 ≤ (m - 1).toNat * 48 := by
  have h := times_len (deedG next (some (deedsG next 0 3))) 48 (fun s => kind_len next _ 18 (fun f q s => by cases q; exact len_low next s) _ _) ((next s).1 % m).toNat (next s).2
  have hm := most_lt (next s).1 h0
  have h3 : ((next s).1 % m).toNat * 48 ≤ (m - 1).toNat * 48 := Nat.mul_le_mul_right _ hm
  exact Nat.le_trans h h3
theorem len_top {σ : Type} (next : σ → Int × σ) (s : σ) : (deedsG next 2 8 s).1 ≤ 1428 := by
  have h := times_len (deedG next (some (deedsG next 1 3))) 204 (fun s => kind_len next _ 96 (fun f q s => by cases q; exact len_mid next 3 (by omega) s) _ _) ((next s).1 % 8).toNat (next s).2
  have hm := most_lt (next s).1 (show (0 : Int) < 8 by omega)
  have h3 : ((next s).1 % 8).toNat * 204 ≤ 7 * 204 := Nat.mul_le_mul_right _ hm
  exact Nat.le_trans h h3

theorem deeds0_x (bs : List Int) (g : Nat) (gt : Int) (hg0 : 0 < gt) (hg1 : gt ≤ 256) (s : Nat × Int) (w : World) (hc : CurS bs w g s) :
    Calls Tryz.prog 175 #[.pointer (some ⟨g, 0, none⟩), .int .i64 0, .int .i64 3, .int .i64 gt] w (DeedsX bs (deedsG (nextB bs) 0 3 s).1 0 w g (deedsG (nextB bs) 0 3 s).2) :=
  l7Deeds_low bs g 3 gt (by omega) (by omega) hg0 hg1 s w hc (by have := len_low (nextB bs) s; omega)
theorem deeds1_x (bs : List Int) (g : Nat) (m gt : Int) (hm0 : 0 < m) (hm1 : m ≤ 4) (hg0 : 0 < gt) (hg1 : gt ≤ 256) (s : Nat × Int) (w : World) (hc : CurS bs w g s) :
    Calls Tryz.prog 175 #[.pointer (some ⟨g, 0, none⟩), .int .i64 1, .int .i64 m, .int .i64 gt] w (DeedsX bs (deedsG (nextB bs) 1 m s).1 1 w g (deedsG (nextB bs) 1 m s).2) :=
  l7Deeds_1 bs g m gt hm0 (by omega) hg0 hg1 s w hc (fun s w h => deeds0_x bs g gt hg0 hg1 s w h) (fun s => len_low _ s) (by
    have := len_mid (nextB bs) m hm0 s
    have h3 : (m - 1).toNat * 48 ≤ 3 * 48 := Nat.mul_le_mul_right _ (by omega)
    omega)
theorem deeds2_x (bs : List Int) (g : Nat) (gt : Int) (hg0 : 0 < gt) (hg1 : gt ≤ 256) (s : Nat × Int) (w : World) (hc : CurS bs w g s) :
    Calls Tryz.prog 175 #[.pointer (some ⟨g, 0, none⟩), .int .i64 2, .int .i64 8, .int .i64 gt] w (DeedsX bs (deedsG (nextB bs) 2 8 s).1 2 w g (deedsG (nextB bs) 2 8 s).2) :=
  l7Deeds_2 bs g 8 gt (by omega) (by omega) hg0 hg1 s w hc (fun s w h => deeds1_x bs g 3 gt (by omega) (by omega) hg0 hg1 s w h) (fun s => len_mid _ 3 (by omega) s) (by have := len_top (nextB bs) s; omega)

/-- A list of at most m signs drawn, its [ ] no deeper than D. -/
def PlayX (m : Nat) (D : Int) (w : World) (g : Nat) (e : Ending) (w' : World) : Prop := ∃ g' c, ∃ xs : List Txt, e = .returned (.slice (some ⟨g', 0, none⟩) xs.length c) ∧ OwnV w' w.heap.size 9 (.slice (some ⟨g', 0, none⟩) xs.length c) (xs.map str) ∧ xs.length ≤ m ∧ upTo 30 xs ∧ Brk D xs ∧ Cur w' g ∧ w.grownBy w' (some g)

set_option maxRecDepth 100000 in
set_option maxHeartbeats 4000000 in
theorem l7Draw_any (g : Nat) (gt : Int) (hg0 : 0 < gt) (hg1 : gt ≤ 256) (w : World) (hc : Cur w g) : Calls Tryz.prog 120 #[.pointer (some ⟨g, 0, none⟩), .int .i64 gt] w (PlayX 100 2 w g) := by
  obtain ⟨bs, s, hS⟩ := hc.told
  have hgw := hS.lt
  have H2 := Lib.hid (deeds2_x bs g gt hg0 hg1 s w hS)
  have hL2 := len_top (nextB bs) s
  generalize (deedsG (nextB bs) 2 8 s).1 = n2 at H2 hL2
  generalize (deedsG (nextB bs) 2 8 s).2 = s0 at H2
  obtain ⟨T, hT⟩ := soon_few bs s0
  have HT := Lib.hid hT
  clear hT hS hc
  go_enter Tryz.func120, Tryz.ntmps120
  go_wp2_with fail
  refine H2.out.mono ?_
  rintro e w1 ⟨g1, c1, xs1, rfl, o1, l1, u1, b1, k1, r1⟩
  have l1' : xs1.length ≤ 1428 := by have := l1.out; omega
  clear l1 H2
  go_wp2_with fail
  go_loopg [5] (T + 503) (fun n l wr => ∃ (p gg c : Nat) (xs : List Txt), l = .slice (some ⟨gg, 0, none⟩) xs.length c ∧ OwnV wr w.heap.size 9 (.slice (some ⟨gg, 0, none⟩) xs.length c) (xs.map str) ∧ xs.length ≤ 1428 ∧ upTo 30 xs ∧ Brk 2 xs ∧ CurS bs wr g (adv (nextB bs) p s0) ∧ w.grownBy wr (some g) ∧ Hid (xs.length ≤ 100 ∨ p ≤ T + 502 ∧ n = T + 503 - p))
  case atStart => exact ⟨0, g1, c1, xs1, rfl, o1, l1', u1, b1, k1, r1, Lib.hid (.inr ⟨by omega, by omega⟩)⟩
  case round =>
    clear o1 k1 r1 u1 b1
    obtain ⟨p, gg, c, xs, rfl, ho, hl, hu, hb, hcS, hgr, hH⟩ := hrel
    have hzs := hgr.size
    by_cases h100 : 100 < xs.length
    · have hp : p ≤ T + 502 ∧ gk = T + 503 - p := by
        rcases hH.out with q | q
        · omega
        · exact q
      have H1 := Lib.hid (deeds1_x bs g 4 gt (by omega) (by omega) hg0 hg1 _ wr hcS)
      have hL1 := len_mid (nextB bs) 4 (by omega) (adv (nextB bs) p s0)
      have HW : Hid (∃ k, 1 ≤ k ∧ k ≤ 502 ∧ (deedsG (nextB bs) 1 4 (adv (nextB bs) p s0)).2 = adv (nextB bs) (p + k) s0) := Lib.hid (by
        obtain ⟨k, h1, h2, e⟩ := went_more (next := nextB bs) (adv (nextB bs) p s0)
        exact ⟨k, h1, h2, by rw [e, adv_add]⟩)
      have HF : Hid (T ≤ p → (deedsG (nextB bs) 1 4 (adv (nextB bs) p s0)).1 ≤ 100) := Lib.hid (fun q => HT.out p q hp.1)
      generalize (deedsG (nextB bs) 1 4 (adv (nextB bs) p s0)).1 = n1 at H1 hL1 HF
      generalize (deedsG (nextB bs) 1 4 (adv (nextB bs) p s0)).2 = s1 at H1 HW
      have HPP := Lib.hid hp
      clear ho hcS hH hp
      go_wp2_with fail
      refine H1.out.mono ?_
      rintro e w2 ⟨g2, c2, xs2, rfl, o2, l2, u2, b2, k2, r2⟩
      have l2' : xs2.length ≤ 144 := by have := l2.out; omega
      go_wp2_with fail
      obtain ⟨k, hk1, hk2, hk⟩ := HW.out
      have hp := HPP.out
      by_cases hTp : T ≤ p
      · go_roundg (gk - 1)
        case measure => omega
        case rel => exact ⟨p + k, g2, c2, xs2, rfl, o2.less hzs, by omega, u2, b2.mono (by omega), by rw [← hk]; exact k2, grown_trans hgr r2, Lib.hid (.inl (by have := l2.out; have := HF.out hTp; omega))⟩
      · go_roundg (T + 503 - (p + k))
        case measure => omega
        case rel => exact ⟨p + k, g2, c2, xs2, rfl, o2.less hzs, by omega, u2, b2.mono (by omega), by rw [← hk]; exact k2, grown_trans hgr r2, Lib.hid (.inr ⟨by omega, rfl⟩)⟩
    · have hn : ¬ (100 : Int) < xs.length := by omega
      go_wp2_with fail
      go_ret
      exact ⟨gg, c, xs, rfl, ho, by omega, hu, hb, hcS.cur, hgr⟩

end Go.Proofs.YtjcmfdgphhonhaaGreatDoor
