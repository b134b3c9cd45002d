/- The model's l1Bend. -/
import Derived.Test.YtigcbegeaikfcaaDoorBelB
import Derived.Test.YtigcbegeaikfcaaDoorBendA
namespace Go.Proofs.YtigcbegeaikfcaaDoor
open Go.RowKit
set_option linter.unusedVariables false

/-- A text that was bent. -/
def BendOut (w : World) (g : Nat) (l : List UInt8) (e : Ending) (w' : World) : Prop := ∃ t : List UInt8, e = .returned (str t) ∧ t.length ≤ l.length + 2 ∧ Cur w' g ∧ w.grownBy w' (some g)
theorem Bw.see {w0 W : World} {g b c : Nat} {xs : List Value} (h : Bw w0 g b c xs W) (hl : xs.length ≤ 100000) : SeeV W W.heap.size (.slice (some ⟨b, 0, none⟩) xs.length c) xs :=
  ⟨by unfold maxLen; omega, _, _, rfl, h.row.cap, fun k x hx => ⟨b, 0, rfl, h.row.lt, by rw [Nat.zero_add]; exact h.row.cell k x hx⟩⟩

set_option maxHeartbeats 4000000 in
set_option maxRecDepth 100000 in
theorem l1Bend_any (g : Nat) (l sg : List UInt8) (hl : l.length ≤ 8192) (hs0 : 0 < sg.length) (hs1 : sg.length ≤ 256) (w : World) (hc : Cur w g) : Calls Tryd.prog 25 #[.pointer (some ⟨g, 0, none⟩), str l, str sg] w (BendOut w g l) := by
  obtain ⟨i0, hi, hz0, hz1, hz2⟩ := info_parts Tryd.infoByte3
  obtain ⟨cap, W, hrun, hcell, hfz, hbW, hzW⟩ := conv_bytes (P := Tryd.prog) w 9 22 5 l Tryd.underlying9 Tryd.underlying22 Tryd.underlying5
  have hlt := hc.lt
  have hcap : l.length ≤ cap := by
    have hr2 := run_bytes_of_string (P := Tryd.prog) w 9 22 5 ⟨l.toArray⟩ Tryd.underlying9 Tryd.underlying22 Tryd.underlying5
    rw [hrun] at hr2
    injection hr2 with h1 h2
    injection h1 with h3 h4 h5
    have := grownCap_ge w (⟨l.toArray⟩ : ByteArray).size 0 5
    rw [h5]
    exact Nat.le_trans (by simp [ByteArray.size]) this
  have B0 : Bw w g w.heap.size cap (l.map byte) W := by
    refine ⟨hc.later hbW, ⟨by simpa using hcap, Nat.le_refl _, hzW, fun k x hx => ?_, fun k hk => hfz k (by simpa using hk)⟩, grown_of_below hbW _, hlt⟩
    rw [List.getElem?_map] at hx
    cases h : l[k]? with
    | none => rw [h] at hx; cases hx
    | some b => rw [h] at hx; injection hx with hx; subst hx; exact hcell k b h
  clear hcell hfz hbW hzW hc
  go_enter Tryd.func25, Tryd.ntmps25
  go_wp2_with fail
  refine (l1Below_any g _ (by decide) (by decide) _ B0.cur).mono ?_
  rintro e w1 ⟨x, rfl, hx0, hx1, k1, q1⟩
  have B1 := B0.draw k1 q1
  obtain ⟨q, rfl⟩ := Int.eq_ofNat_of_zero_le hx0
  clear B0 k1 q1 hrun
  go_wp2_with fail
  go_loopw [7, 8] (fun v n wr => ∃ (q b c : Nat) (bs : List UInt8), n = .int .i64 q ∧ q ≤ 2 ∧ bs.length + q ≤ l.length + 2 ∧ v = .slice (some ⟨b, 0, none⟩) bs.length c ∧ Bw w g b c (bs.map byte) wr) (fun _ n _ => (intOf n).toNat)
  case atStart => exact ⟨q, w.heap.size, cap, l, rfl, by omega, by omega, rfl, B1⟩
  case round =>
    obtain ⟨q, b, c, bs, rfl, hq, hbs, rfl, B2⟩ := hrel
    clear B1 hx0 hx1
    have hend : ∀ W', Bw w g b c (bs.map byte) W' → (convert 22 9 (.slice (some ⟨b, 0, none⟩) bs.length c)).run Tryd.prog W' = .ok (str bs) W' := fun W' h => conv_back W' 22 9 5 W'.heap.size _ bs Tryd.underlying22 Tryd.underlying5 Tryd.underlying9 (by have := h.see (by simp; omega); rwa [List.length_map] at this)
    have HEnd := Lib.hid hend
    clear hend
    by_cases hq0 : q = 0
    · subst hq0
      have hcv := HEnd.out wr B2
      go_wp2_with fail
      go_ret
      exact ⟨bs, rfl, by omega, B2.cur, B2.old⟩
    · by_cases hb0 : bs.length = 0
      · obtain rfl := List.length_eq_zero_iff.1 hb0
        have hcv := HEnd.out wr B2
        simp only [List.length_nil] at hcv
        go_wp2_with fail
        go_ret
        exact ⟨[], rfl, by simp, B2.cur, B2.old⟩
      · clear HEnd
        go_wp2_with fail
        refine (l1Below_all g _ (by omega) (by omega) _ B2.cur).mono ?_
        rintro e w3 ⟨x, rfl, hx0, hx1, k3, q3⟩
        have B3 := B2.draw k3 q3
        obtain ⟨k, rfl⟩ := Int.eq_ofNat_of_zero_le hx0
        clear B2 k3 q3
        have hk : k < bs.length := by omega
        go_wp2_with fail
        refine (l1Below_any g _ (by decide) (by decide) _ B3.cur).mono ?_
        rintro e w4 ⟨x, rfl, hy0, hy1, k4, q4⟩
        have B4 := B3.draw k4 q4
        clear B3 k4 q4
        have hml : (bs.map byte).length = bs.length := by simp
        have hc' := B4.row.cap
        rw [hml] at hc'
        have hx4 : x = 0 ∨ x = 1 ∨ x = 2 ∨ x = 3 := by omega
        clear hy0 hy1 hx1 hx0
        have hk' : (k : Int) < bs.length := by omega
        rcases hx4 with rfl | rfl | rfl | rfl
        · go_wp2_with fail
          refine (l1Below_any g _ (by omega) (by omega) _ B4.cur).mono ?_
          rintro e w5 ⟨y, rfl, hy0, hy1, k5, q5⟩
          have B5 := B4.draw k5 q5
          clear B4 k5 q5
          obtain ⟨j, rfl⟩ := Int.eq_ofNat_of_zero_le hy0
          obtain ⟨sb, hsb⟩ : ∃ sb, sg[j]? = some sb := ⟨_, List.getElem?_eq_getElem (by omega)⟩
          have hix := idx_str (P := Tryd.prog) 9 sg j sb Tryd.underlying9 hsb
          have hcc := B5.row.cell k (byte bs[k]) (by rw [List.getElem?_map, List.getElem?_eq_getElem hk]; rfl)
          have hff := B5.row.free k (by omega)
          have HS : Hid (bs.set k sb = bs.set k sb ∧ (bs.map byte).set k (byte sb) = (bs.set k sb).map byte) := Lib.hid ⟨rfl, by rw [List.map_set]⟩
          have B6 := Lib.hid (B5.set k (by omega) (byte sb))
          rw [HS.out.2] at B6
          clear hsb B5
          go_wp2_with fail
          go_roundw
          case rel => exact ⟨q - 1, b, c, bs.set k sb, by go_num, by omega, by simp; omega, by simp, B6.out⟩
          case measure => simp [intOf]; omega
        · have B6 := Lib.hid (B4.take k (by omega))
          rw [← List.map_take] at B6
          have ht : (bs.take k).length = k := by simp; omega
          have HT := Lib.hid ht
          clear ht B4
          go_wp2_with fail
          go_roundw
          case rel => exact ⟨q - 1, b, c, bs.take k, by go_num, by omega, by have := HT.out; omega, by rw [HT.out], B6.out⟩
          case measure => simp [intOf]; omega
        · have hkc : k ≤ c := by omega
          have hk1 : k + 1 ≤ bs.length := by omega
          have hw1 : IntKind.i64.wrap ((k : Int) + 1) = (k : Int) + 1 := by rw [IntKind.wrap_i64]; omega
          have hw2 : (0 : Int) ≤ (k : Int) + 1 := by omega
          have hw3 : (k : Int) + 1 ≤ bs.length := by omega
          have hw4 : ((k : Int) + 1).toNat = k + 1 := by omega
          obtain ⟨A', hA', hN'⟩ : ∃ A' : Addr, (if c = k + 1 then some (⟨b, 0, none⟩ : Addr) else some ⟨b, k + 1, none⟩) = some A' ∧ ∀ W, Bw w g b c (bs.map byte) W → ∀ j u, ((bs.map byte).drop (k + 1))[j]? = some u → W.cell? (A'.add j) = some u := by
            by_cases e : c = k + 1
            · refine ⟨⟨b, 0, none⟩, by rw [if_pos e], fun W h j u hj => ?_⟩
              rw [List.getElem?_drop] at hj
              have := (List.getElem?_eq_some_iff.1 hj).1
              omega
            · exact ⟨⟨b, k + 1, none⟩, by rw [if_neg e], fun W h => h.news (k + 1)⟩
          have HN' := Lib.hid hN'
          have A0 := Lib.hid (App.new B4)
          have L1 : Hid (((bs.map byte).take k).length = k) := Lib.hid (by simp; omega)
          have L2 : Hid (((bs.map byte).drop (k + 1)).length = bs.length - (k + 1)) := Lib.hid (by simp)
          have N1 : Hid (∀ u ∈ (bs.map byte).take k, u.oneCell' = true) := Lib.hid fun u hu => bytes_one bs u (List.mem_of_mem_take hu)
          have N2 : Hid (∀ u ∈ (bs.map byte).drop (k + 1), u.oneCell' = true) := Lib.hid fun u hu => bytes_one bs u (List.mem_of_mem_drop hu)
          have HL : Hid (([] : List Value) ++ (bs.map byte).take k ++ (bs.map byte).drop (k + 1) = (bs.take k ++ bs.drop (k + 1)).map byte) := Lib.hid (by simp)
          have HLL : Hid ((bs.take k ++ bs.drop (k + 1)).length + 1 = bs.length) := Lib.hid (by simp; omega)
          clear hN' B4
          go_wp2_with fail
          go_region_law (first
            | (refine step_append_any _ (by rfl) _ _ _ (by rfl) w.heap.size 5 i0 (.int .u8 0) Tryd.underlying22 hi hz0 hz1 hz2 rfl _ [] (by rfl) A0.out.own ⟨b, 0, none⟩ k c ((bs.map byte).take k) (by rfl) L1.out (A0.out.bw.newsTake k) N1.out (by simp; omega) A0.out.bw.size ?_; intro v1 w5 o1 g1 n1 a1; have A1 := Lib.hid (A0.out.next o1 g1 n1 a1); clear o1 g1 n1 a1)
            | (refine step_append_any _ (by rfl) _ _ _ (by rfl) w.heap.size 5 i0 (.int .u8 0) Tryd.underlying22 hi hz0 hz1 hz2 rfl v1 _ (by rfl) A1.out.own A' _ _ ((bs.map byte).drop (k + 1)) (by rfl) L2.out (HN'.out _ A1.out.bw) N2.out (by simp; omega) A1.out.bw.size ?_; intro v2 w6 o2 g2 n2 a2; have A2 := Lib.hid (A1.out.next o2 g2 n2 a2); clear o2 g2 n2 a2))
          all_goals (
            rw [HL.out] at A2
            obtain ⟨b2, c2, rfl, B6⟩ := A2.out.fin
            have B7 := Lib.hid B6
            clear A0 A1 A2 B6 hA' HN'
            go_wp2_with fail
            go_roundw
            case rel => exact ⟨q - 1, b2, c2, _, by go_num, by omega, by have := HLL.out; omega, by simp, B7.out⟩
            case measure => simp [intOf]; omega)
        · have hkc : k ≤ c := by omega
          have hck : ¬ c = k := by omega
          have hki : (k : Int) ≤ bs.length := by omega
          have hki' : k ≤ bs.length := by omega
          have A0 := Lib.hid (App.new B4)
          have L1 : Hid (((bs.map byte).take k).length = k) := Lib.hid (by simp; omega)
          have L2 : Hid (((bs.map byte).drop k).length = bs.length - k) := Lib.hid (by simp)
          have N1 : Hid (∀ u ∈ (bs.map byte).take k, u.oneCell' = true) := Lib.hid fun u hu => bytes_one bs u (List.mem_of_mem_take hu)
          have N2 : Hid (∀ u ∈ (bs.map byte).drop k, u.oneCell' = true) := Lib.hid fun u hu => bytes_one bs u (List.mem_of_mem_drop hu)
          have HL : Hid (∀ sb : UInt8, ([] : List Value) ++ (bs.map byte).take k ++ [byte sb] ++ (bs.map byte).drop k = (bs.take k ++ [sb] ++ bs.drop k).map byte) := Lib.hid fun sb => by simp
          have HLL : Hid (∀ sb : UInt8, (bs.take k ++ [sb] ++ bs.drop k).length = bs.length + 1) := Lib.hid fun sb => by simp; omega
          have HIX : Hid (∀ j : Nat, j < sg.length → ∃ sb, ∀ W, (Instr.index 9 (str sg) (.int .i64 j)).run Tryd.prog W = .ok (byte sb) W) := Lib.hid fun j hj => ⟨_, idx_str (P := Tryd.prog) 9 sg j _ Tryd.underlying9 (List.getElem?_eq_getElem hj)⟩
          clear B4
          go_wp2_with fail
          go_region_law (first
            | (refine step_append_any _ (by rfl) _ _ _ (by rfl) w.heap.size 5 i0 (.int .u8 0) Tryd.underlying22 hi hz0 hz1 hz2 rfl _ [] (by rfl) A0.out.own ⟨b, 0, none⟩ k c ((bs.map byte).take k) (by rfl) L1.out (A0.out.bw.newsTake k) N1.out (by simp; omega) A0.out.bw.size ?_; intro v1 w5 o1 g1 n1 a1; have A1 := Lib.hid (A0.out.next o1 g1 n1 a1); clear o1 g1 n1 a1)
            | (go_simp; go_at_call 39; refine (l1Below_any g _ (by omega) (by omega) _ A1.out.bw.cur).mono ?_; rintro e w6 ⟨y, rfl, hy0, hy1, k6, q6⟩; have A2 := Lib.hid (A1.out.draw k6 q6); clear k6 q6; obtain ⟨j, rfl⟩ := Int.eq_ofNat_of_zero_le hy0; obtain ⟨sb, hix⟩ := HIX.out j (by omega))
            | (refine step_append_any _ (by rfl) _ _ _ (by rfl) w.heap.size 5 i0 (.int .u8 0) Tryd.underlying22 hi hz0 hz1 hz2 rfl v1 _ (by rfl) (A2.out.alloc (.cells #[byte sb] 5)).own ⟨w6.heap.size, 0, none⟩ 1 1 [byte sb] (by rfl) rfl (World.news_of_block (heap_alloc_new w6 _)) (bytes_one [sb]) (by simp; omega) (A2.out.alloc (.cells #[byte sb] 5)).bw.size ?_; intro v2 w7 o2 g2 n2 a2; have A3 := Lib.hid ((A2.out.alloc (.cells #[byte sb] 5)).next o2 g2 n2 a2); clear o2 g2 n2 a2)
            | (refine step_append_any _ (by rfl) _ _ _ (by rfl) w.heap.size 5 i0 (.int .u8 0) Tryd.underlying22 hi hz0 hz1 hz2 rfl v2 _ (by rfl) A3.out.own ⟨b, k, none⟩ _ _ ((bs.map byte).drop k) (by rfl) L2.out (A3.out.bw.news k) N2.out (by simp; omega) A3.out.bw.size ?_; intro v3 w8 o3 g3 n3 a3; have A4 := Lib.hid (A3.out.next o3 g3 n3 a3); clear o3 g3 n3 a3))
          all_goals (
            rw [HL.out] at A4
            obtain ⟨b2, c2, rfl, B6⟩ := A4.out.fin
            have B7 := Lib.hid B6
            clear A0 A1 A2 A3 A4 B6
            go_wp2_with fail
            go_roundw
            case rel => exact ⟨q - 1, b2, c2, _, by go_num, by omega, by have := HLL.out sb; omega, by simp; omega, B7.out⟩
            case measure => simp [intOf]; omega)

end Go.Proofs.YtigcbegeaikfcaaDoor
