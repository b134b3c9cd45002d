/- The model's l7DrawDeeds with blocks, told exactly. No conditions but those typed. -/
import Derived.Test.YtjcmfdgphhonhaaGreatDoorDrwF
namespace Go.Proofs.YtjcmfdgphhonhaaGreatDoor
open Go.RowKit
set_option linter.unusedVariables false

set_option maxRecDepth 100000 in
set_option maxHeartbeats 16000000 in
theorem l7Deeds_2 (bs : List Int) (g : Nat) (most gt : Int) (hm0 : 0 < most) (hm1 : most ≤ 256) (hg0 : 0 < gt) (hg1 : gt ≤ 256) (s : Nat × Int) (w : World) (hc : CurS bs w g s) (ih : ∀ (s : Nat × Int) (w : World), CurS bs w g s → Calls Tryz.prog 175 #[.pointer (some ⟨g, 0, none⟩), .int .i64 1, .int .i64 3, .int .i64 gt] w (DeedsX bs (deedsG (nextB bs) 1 3 s).1 1 w g (deedsG (nextB bs) 1 3 s).2)) (hlen : ∀ s, (deedsG (nextB bs) 1 3 s).1 ≤ 96) (hN : (deedsG (nextB bs) 2 most s).1 ≤ 5000) :
    Calls Tryz.prog 175 #[.pointer (some ⟨g, 0, none⟩), .int .i64 2, .int .i64 most, .int .i64 gt] w (DeedsX bs (deedsG (nextB bs) 2 most s).1 2 w g (deedsG (nextB bs) 2 most s).2) := by
  obtain ⟨i0, hi, hz0, hz1, hz2⟩ := info_parts Tryz.infoStr
  have hgw := hc.lt
  have HS : Hid (deedsG (nextB bs) 2 most s = timesG (deedG (nextB bs) (some (deedsG (nextB bs) 1 3))) ((nextB bs s).1 % most).toNat (nextB bs s).2) := Lib.hid rfl
  rw [HS.out] at hN ⊢
  have H0 := Lib.hid (fun o => l1Below_x bs g s most hm0 hm1 (w.alloc o) (hc.alloc o))
  obtain ⟨hx0, hx1⟩ := mod_in (nextB bs s).1 hm0
  generalize (nextB bs s).1 % most = x at H0 hx0 hx1 hN ⊢
  generalize (nextB bs s).2 = s1 at H0 hN ⊢
  have oE := OwnV.empty w w.heap.size 9 (Nat.le_refl _)
  obtain ⟨N, HN⟩ : ∃ N, Hid ((timesG (deedG (nextB bs) (some (deedsG (nextB bs) 1 3))) x.toNat s1).1 = N) := ⟨_, Lib.hid rfl⟩
  obtain ⟨S, HSS⟩ : ∃ S, Hid ((timesG (deedG (nextB bs) (some (deedsG (nextB bs) 1 3))) x.toNat s1).2 = S) := ⟨_, Lib.hid rfl⟩
  rw [HN.out] at hN
  rw [HN.out, HSS.out]
  go_enter Tryz.func175, Tryz.ntmps175
  go_wp2_with fail
  refine (H0.out _).mono ?_
  rintro e w1 ⟨rfl, c1, g1⟩
  have o1 := oE.apart g1 (fun j hj => by cases hj; exact hgw)
  have r1 := grown_of_alloc _ g1
  obtain ⟨k0, hk0⟩ : ∃ k : Nat, x = k := ⟨x.toNat, by omega⟩
  subst hk0
  rw [Int.toNat_natCast] at HN HSS
  clear H0 oE g1 HS
  go_wp2_with fail
  go_loopw [9, 10] (DdAt bs (deedG (nextB bs) (some (deedsG (nextB bs) 1 3))) 2 N S w g) (fun _ i _ => (intOf i).toNat)
  case atStart => exact ⟨k0, _, _, [], s1, rfl, by omega, rfl, o1, c1, r1, (fun t ht => by cases ht), Brk.no (by omega) (fun t ht => by cases ht), Lib.hid ⟨by rw [HN.out]; simp, HSS.out⟩⟩
  case round =>
    clear o1 c1 r1
    obtain ⟨k, gg, c, xs, st, rfl, hk, rfl, ho, hcr, hgr, hu, hb, hH⟩ := hrel
    have hxl : xs.length ≤ 5000 := by have := hH.out.1; omega
    cases k with
    | zero =>
      go_wp2_with fail
      go_ret
      exact ⟨gg, c, xs, rfl, ho, Lib.hid (by have := hH.out.1; simpa [timesG] using this), hu, hb, by have q := hH.out.2; unfold timesG at q; rw [← q]; exact hcr, hgr⟩
    | succ k =>
      have HF : Hid (deedG (nextB bs) (some (deedsG (nextB bs) 1 3)) st = kindG (nextB bs) (some (deedsG (nextB bs) 1 3)) ((nextB bs (nextB bs st).2).1 % 10) (nextB bs (nextB bs st).2).2) := Lib.hid rfl
      have H1 := Lib.hid (fun w h => l1Below_x bs g st gt hg0 hg1 w h)
      have H2 := Lib.hid (fun w h => l1Below_x bs g (nextB bs st).2 10 (by decide) (by decide) w h)
      obtain ⟨hy0, hy1⟩ := mod_in (nextB bs st).1 hg0
      obtain ⟨hk0', hk1'⟩ := mod_in (nextB bs (nextB bs st).2).1 (show (0 : Int) < 10 by decide)
      generalize (nextB bs (nextB bs st).2).1 % 10 = kd at HF H2 hk0' hk1'
      generalize (nextB bs (nextB bs st).2).2 = st2 at HF H2
      generalize (nextB bs st).2 = st1 at H1 H2
      generalize (nextB bs st).1 % gt = y at H1 hy0 hy1
      have hzs := hgr.size
      go_wp2_with fail
      refine (H1.out _ hcr).mono ?_
      rintro e w2 ⟨rfl, c2, g2⟩
      have o2 := ho.apart g2 (fun j hj => by cases hj; exact hgw)
      have r2 := grown_trans hgr g2
      have h2 := r2.size
      clear H1 hcr ho g2 hgr
      go_wp2_with fail
      refine (l1Int_any _ (by omega) (by omega) _).mono ?_
      rintro e w3 ⟨rfl, b3⟩
      have hgl := Lib.itoa_length_le y (by omega) (by omega)
      have hgb := itoa_noBr (v := y) (by omega) (by omega)
      generalize Lib.itoa y = gtx at hgl hgb ⊢
      have o3 := o2.later b3
      have c3 := c2.later b3
      have r3 := grown_trans r2 (grown_of_below b3 _)
      have h3 := r3.size
      clear o2 c2 r2 b3 h2
      go_wp2_with fail
      refine (H2.out _ c3).mono ?_
      rintro e w4 ⟨rfl, c4, g4⟩
      have o4 := o3.apart g4 (fun j hj => by cases hj; exact hgw)
      have r4 := grown_trans r3 g4
      have h4 := r4.size
      clear H2 o3 c3 r3 h3 g4
      have q4 := r4
      have hq4 := h4
      have hgl' : gtx.length ≤ 30 := by omega
      clear r4 h4
      rcases (show (kd = 0 ∨ kd = 1) ∨ (kd = 2 ∨ kd = 3 ∨ kd = 4) ∨ kd = 5 ∨ kd = 6 ∨ kd = 7 ∨ (kd = 8 ∨ kd = 9) by omega) with hkd | hkd | rfl | rfl | rfl | hkd
      · have HK := Lib.hid (HF.out.trans (kind_in _ _ hkd st2))
        have HX := Lib.hid (fun w h => l5DrawName_x bs g st2 w h)
        generalize (nextB bs st2).2 = st3 at HK HX
        rcases hkd with rfl | rfl
        · skip
          go_wp2_with fail
          refine (HX.out _ c4).mono ?_
          rintro e w5 ⟨t, rfl, ht, hbr, c5, g5⟩
          have ht' : t.length ≤ 30 := by omega
          have o5 := o4.apart g5 (fun j hj => by cases hj; exact hgw)
          have q5 := grown_trans q4 g5
          have hq5 := q5.size
          clear o4 c4 q4 g5
          go_wp2_with first
            |
(at_builtin; refine wpList_append_own _ rfl _ _ 24 rfl w.heap.size 9 i0 (.string ⟨#[]⟩) 1 16 Tryz.underlying24 hi hz0 hz1 hz2 rfl (by decide) _ _ _ rfl ((o5).alloc _) ⟨w5.heap.size, 0, none⟩ 3 3 (([wIn, t, gtx]).map str) rfl rfl (World.news_of_block (heap_alloc_new _ _)) (fun u hu => str_one u _ hu) (by unfold maxLen; simp; omega) (by simp; omega) (by simp; omega) ?_; intro v9 w9 hown9 hgr9 hnil9; obtain ⟨z6, gz6, kz6, Z6, lz6, rfl, o6, c6, q6, hq6⟩ := draw_moreZ (ys := [wIn, t, gtx]) hgw ((o5).alloc _) (c5.alloc _) (grown_alloc7 q5 _) rfl hown9 hgr9 hnil9; clear hown9 hgr9 hnil9)
          obtain ⟨w6, rfl⟩ : ∃ x, x = w9 := ⟨_, rfl⟩
          rw [show ([wIn, t, gtx] : List Txt).length = 3 from rfl] at lz6
          go_roundw
          case rel => exact ddNext hH.out HK.out (by rw [Z6.out, List.length_append]; rfl) (by omega) (by go_num) rfl o6 c6 q6 (by rw [Z6.out]; exact upTo_app hu (by intro a ha; simp only [List.mem_cons, List.not_mem_nil, or_false] at ha; rcases ha with rfl | rfl | rfl; decide; exact ht'; exact hgl')) (by rw [Z6.out]; exact hb.app (Brk.no (by omega) (by intro a ha; simp only [List.mem_cons, List.not_mem_nil, or_false] at ha; rcases ha with rfl | rfl | rfl; exact ⟨by decide, by decide⟩; exact hbr; exact hgb)))
          case measure => first | (simp [intOf]; done) | (simp [intOf]; omega)
        · skip
          go_wp2_with fail
          refine (HX.out _ c4).mono ?_
          rintro e w5 ⟨t, rfl, ht, hbr, c5, g5⟩
          have ht' : t.length ≤ 30 := by omega
          have o5 := o4.apart g5 (fun j hj => by cases hj; exact hgw)
          have q5 := grown_trans q4 g5
          have hq5 := q5.size
          clear o4 c4 q4 g5
          go_wp2_with first
            |
(at_builtin; refine wpList_append_own _ rfl _ _ 24 rfl w.heap.size 9 i0 (.string ⟨#[]⟩) 1 16 Tryz.underlying24 hi hz0 hz1 hz2 rfl (by decide) _ _ _ rfl ((o5).alloc _) ⟨w5.heap.size, 0, none⟩ 3 3 (([wIn, t, gtx]).map str) rfl rfl (World.news_of_block (heap_alloc_new _ _)) (fun u hu => str_one u _ hu) (by unfold maxLen; simp; omega) (by simp; omega) (by simp; omega) ?_; intro v9 w9 hown9 hgr9 hnil9; obtain ⟨z6, gz6, kz6, Z6, lz6, rfl, o6, c6, q6, hq6⟩ := draw_moreZ (ys := [wIn, t, gtx]) hgw ((o5).alloc _) (c5.alloc _) (grown_alloc7 q5 _) rfl hown9 hgr9 hnil9; clear hown9 hgr9 hnil9)
          obtain ⟨w6, rfl⟩ : ∃ x, x = w9 := ⟨_, rfl⟩
          rw [show ([wIn, t, gtx] : List Txt).length = 3 from rfl] at lz6
          go_roundw
          case rel => exact ddNext hH.out HK.out (by rw [Z6.out, List.length_append]; rfl) (by omega) (by go_num) rfl o6 c6 q6 (by rw [Z6.out]; exact upTo_app hu (by intro a ha; simp only [List.mem_cons, List.not_mem_nil, or_false] at ha; rcases ha with rfl | rfl | rfl; decide; exact ht'; exact hgl')) (by rw [Z6.out]; exact hb.app (Brk.no (by omega) (by intro a ha; simp only [List.mem_cons, List.not_mem_nil, or_false] at ha; rcases ha with rfl | rfl | rfl; exact ⟨by decide, by decide⟩; exact hbr; exact hgb)))
          case measure => first | (simp [intOf]; done) | (simp [intOf]; omega)
      · have HK := Lib.hid (HF.out.trans (kind_out _ _ hkd st2))
        have HX := Lib.hid (fun w h => l6DrawSum_x bs g st2 w h)
        have hs7 := (sum_len2 (nextB bs) st2).2.2
        generalize (sumG (nextB bs) 2 st2).1 = ns at HK HX hs7
        generalize (sumG (nextB bs) 2 st2).2 = st3 at HK HX
        rcases hkd with rfl | rfl | rfl
        · skip
          go_wp2_with first
            |
(at_builtin; refine wpList_append_own _ rfl _ _ 24 rfl w.heap.size 9 i0 (.string ⟨#[]⟩) 1 16 Tryz.underlying24 hi hz0 hz1 hz2 rfl (by decide) _ _ _ rfl ((o4).alloc _) ⟨w4.heap.size, 0, none⟩ 2 2 (([wOut, gtx]).map str) rfl rfl (World.news_of_block (heap_alloc_new _ _)) (fun u hu => str_one u _ hu) (by unfold maxLen; simp; omega) (by simp; omega) (by simp; omega) ?_; intro v9 w9 hown9 hgr9 hnil9; obtain ⟨z5, gz5, kz5, Z5, lz5, rfl, o5, c5, q5, hq5⟩ := draw_moreZ (ys := [wOut, gtx]) hgw ((o4).alloc _) (c4.alloc _) (grown_alloc7 q4 _) rfl hown9 hgr9 hnil9; clear hown9 hgr9 hnil9)
          obtain ⟨w5, rfl⟩ : ∃ x, x = w9 := ⟨_, rfl⟩
          rw [show ([wOut, gtx] : List Txt).length = 2 from rfl] at lz5
          clear o4 c4 q4
          refine (HX.out _ c5).mono ?_
          rintro e w6 ⟨gy, cy, ys, rfl, oy, ly, uy, ny, c6, g6⟩
          have ly' : ys.length ≤ 7 := by have := ly.out; omega
          have o6 := o5.apart g6 (fun j hj => by cases hj; exact hgw)
          have q6 := grown_trans q5 g6
          have hq6 := q6.size
          clear o5 c5 q5 g6
          go_wp2_with first
            |
(at_builtin; refine wpList_append_own _ rfl _ _ 24 rfl w.heap.size 9 i0 (.string ⟨#[]⟩) 1 16 Tryz.underlying24 hi hz0 hz1 hz2 rfl (by decide) _ _ _ rfl o6 ⟨gy, 0, none⟩ ys.length cy (ys.map str) rfl (by simp) (news_of oy.see) (fun u hu => str_one u _ hu) (by unfold maxLen; simp; omega) (by simp; omega) (by omega) ?_; intro v9 w9 hown9 hgr9 hnil9; obtain ⟨z7, gz7, kz7, Z7, lz7, rfl, o7, c7, q7, hq7⟩ := draw_moreZ hgw o6 c6 q6 rfl hown9 hgr9 hnil9; clear hown9 hgr9 hnil9)
          obtain ⟨w7, rfl⟩ : ∃ x, x = w9 := ⟨_, rfl⟩
          go_roundw
          case rel => exact ddNext hH.out HK.out (by rw [Z7.out, List.length_append, Z5.out, List.length_append, ly.out]; show _ + 2 + _ = _; omega) (by omega) (by go_num) rfl o7 c7 q7 (by rw [Z7.out, Z5.out]; exact upTo_app (upTo_app hu (by intro a ha; simp only [List.mem_cons, List.not_mem_nil, or_false] at ha; rcases ha with rfl | rfl; decide; exact hgl')) uy) (by rw [Z7.out, Z5.out]; exact (hb.app (Brk.no (by omega) (by intro a ha; simp only [List.mem_cons, List.not_mem_nil, or_false] at ha; rcases ha with rfl | rfl; exact ⟨by decide, by decide⟩; exact hgb))).app (Brk.no (by omega) ny))
          case measure => first | (simp [intOf]; done) | (simp [intOf]; omega)
        · skip
          go_wp2_with first
            |
(at_builtin; refine wpList_append_own _ rfl _ _ 24 rfl w.heap.size 9 i0 (.string ⟨#[]⟩) 1 16 Tryz.underlying24 hi hz0 hz1 hz2 rfl (by decide) _ _ _ rfl ((o4).alloc _) ⟨w4.heap.size, 0, none⟩ 2 2 (([wOut, gtx]).map str) rfl rfl (World.news_of_block (heap_alloc_new _ _)) (fun u hu => str_one u _ hu) (by unfold maxLen; simp; omega) (by simp; omega) (by simp; omega) ?_; intro v9 w9 hown9 hgr9 hnil9; obtain ⟨z5, gz5, kz5, Z5, lz5, rfl, o5, c5, q5, hq5⟩ := draw_moreZ (ys := [wOut, gtx]) hgw ((o4).alloc _) (c4.alloc _) (grown_alloc7 q4 _) rfl hown9 hgr9 hnil9; clear hown9 hgr9 hnil9)
          obtain ⟨w5, rfl⟩ : ∃ x, x = w9 := ⟨_, rfl⟩
          rw [show ([wOut, gtx] : List Txt).length = 2 from rfl] at lz5
          clear o4 c4 q4
          refine (HX.out _ c5).mono ?_
          rintro e w6 ⟨gy, cy, ys, rfl, oy, ly, uy, ny, c6, g6⟩
          have ly' : ys.length ≤ 7 := by have := ly.out; omega
          have o6 := o5.apart g6 (fun j hj => by cases hj; exact hgw)
          have q6 := grown_trans q5 g6
          have hq6 := q6.size
          clear o5 c5 q5 g6
          go_wp2_with first
            |
(at_builtin; refine wpList_append_own _ rfl _ _ 24 rfl w.heap.size 9 i0 (.string ⟨#[]⟩) 1 16 Tryz.underlying24 hi hz0 hz1 hz2 rfl (by decide) _ _ _ rfl o6 ⟨gy, 0, none⟩ ys.length cy (ys.map str) rfl (by simp) (news_of oy.see) (fun u hu => str_one u _ hu) (by unfold maxLen; simp; omega) (by simp; omega) (by omega) ?_; intro v9 w9 hown9 hgr9 hnil9; obtain ⟨z7, gz7, kz7, Z7, lz7, rfl, o7, c7, q7, hq7⟩ := draw_moreZ hgw o6 c6 q6 rfl hown9 hgr9 hnil9; clear hown9 hgr9 hnil9)
          obtain ⟨w7, rfl⟩ : ∃ x, x = w9 := ⟨_, rfl⟩
          go_roundw
          case rel => exact ddNext hH.out HK.out (by rw [Z7.out, List.length_append, Z5.out, List.length_append, ly.out]; show _ + 2 + _ = _; omega) (by omega) (by go_num) rfl o7 c7 q7 (by rw [Z7.out, Z5.out]; exact upTo_app (upTo_app hu (by intro a ha; simp only [List.mem_cons, List.not_mem_nil, or_false] at ha; rcases ha with rfl | rfl; decide; exact hgl')) uy) (by rw [Z7.out, Z5.out]; exact (hb.app (Brk.no (by omega) (by intro a ha; simp only [List.mem_cons, List.not_mem_nil, or_false] at ha; rcases ha with rfl | rfl; exact ⟨by decide, by decide⟩; exact hgb))).app (Brk.no (by omega) ny))
          case measure => first | (simp [intOf]; done) | (simp [intOf]; omega)
        · skip
          go_wp2_with first
            |
(at_builtin; refine wpList_append_own _ rfl _ _ 24 rfl w.heap.size 9 i0 (.string ⟨#[]⟩) 1 16 Tryz.underlying24 hi hz0 hz1 hz2 rfl (by decide) _ _ _ rfl ((o4).alloc _) ⟨w4.heap.size, 0, none⟩ 2 2 (([wOut, gtx]).map str) rfl rfl (World.news_of_block (heap_alloc_new _ _)) (fun u hu => str_one u _ hu) (by unfold maxLen; simp; omega) (by simp; omega) (by simp; omega) ?_; intro v9 w9 hown9 hgr9 hnil9; obtain ⟨z5, gz5, kz5, Z5, lz5, rfl, o5, c5, q5, hq5⟩ := draw_moreZ (ys := [wOut, gtx]) hgw ((o4).alloc _) (c4.alloc _) (grown_alloc7 q4 _) rfl hown9 hgr9 hnil9; clear hown9 hgr9 hnil9)
          obtain ⟨w5, rfl⟩ : ∃ x, x = w9 := ⟨_, rfl⟩
          rw [show ([wOut, gtx] : List Txt).length = 2 from rfl] at lz5
          clear o4 c4 q4
          refine (HX.out _ c5).mono ?_
          rintro e w6 ⟨gy, cy, ys, rfl, oy, ly, uy, ny, c6, g6⟩
          have ly' : ys.length ≤ 7 := by have := ly.out; omega
          have o6 := o5.apart g6 (fun j hj => by cases hj; exact hgw)
          have q6 := grown_trans q5 g6
          have hq6 := q6.size
          clear o5 c5 q5 g6
          go_wp2_with first
            |
(at_builtin; refine wpList_append_own _ rfl _ _ 24 rfl w.heap.size 9 i0 (.string ⟨#[]⟩) 1 16 Tryz.underlying24 hi hz0 hz1 hz2 rfl (by decide) _ _ _ rfl o6 ⟨gy, 0, none⟩ ys.length cy (ys.map str) rfl (by simp) (news_of oy.see) (fun u hu => str_one u _ hu) (by unfold maxLen; simp; omega) (by simp; omega) (by omega) ?_; intro v9 w9 hown9 hgr9 hnil9; obtain ⟨z7, gz7, kz7, Z7, lz7, rfl, o7, c7, q7, hq7⟩ := draw_moreZ hgw o6 c6 q6 rfl hown9 hgr9 hnil9; clear hown9 hgr9 hnil9)
          obtain ⟨w7, rfl⟩ : ∃ x, x = w9 := ⟨_, rfl⟩
          go_roundw
          case rel => exact ddNext hH.out HK.out (by rw [Z7.out, List.length_append, Z5.out, List.length_append, ly.out]; show _ + 2 + _ = _; omega) (by omega) (by go_num) rfl o7 c7 q7 (by rw [Z7.out, Z5.out]; exact upTo_app (upTo_app hu (by intro a ha; simp only [List.mem_cons, List.not_mem_nil, or_false] at ha; rcases ha with rfl | rfl; decide; exact hgl')) uy) (by rw [Z7.out, Z5.out]; exact (hb.app (Brk.no (by omega) (by intro a ha; simp only [List.mem_cons, List.not_mem_nil, or_false] at ha; rcases ha with rfl | rfl; exact ⟨by decide, by decide⟩; exact hgb))).app (Brk.no (by omega) ny))
          case measure => first | (simp [intOf]; done) | (simp [intOf]; omega)
      · have HK := Lib.hid (HF.out.trans (kind_if _ _ st2))
        have HX := Lib.hid (fun w h => l6DrawSum_x bs g st2 w h)
        have hs7 := (sum_len2 (nextB bs) st2).2.2
        have HA := Lib.hid (fun w h => ih (sumG (nextB bs) 2 st2).2 w h)
        have HB := Lib.hid (fun w h => ih (deedsG (nextB bs) 1 3 (sumG (nextB bs) 2 st2).2).2 w h)
        have la := hlen (sumG (nextB bs) 2 st2).2
        have lb := hlen (deedsG (nextB bs) 1 3 (sumG (nextB bs) 2 st2).2).2
        generalize (deedsG (nextB bs) 1 3 (deedsG (nextB bs) 1 3 (sumG (nextB bs) 2 st2).2).2).1 = nb at HK HB lb
        generalize (deedsG (nextB bs) 1 3 (deedsG (nextB bs) 1 3 (sumG (nextB bs) 2 st2).2).2).2 = st5 at HK HB
        generalize (deedsG (nextB bs) 1 3 (sumG (nextB bs) 2 st2).2).1 = na at HK HA la
        generalize (deedsG (nextB bs) 1 3 (sumG (nextB bs) 2 st2).2).2 = st4 at HA HB
        generalize (sumG (nextB bs) 2 st2).1 = ns at HK HX hs7
        generalize (sumG (nextB bs) 2 st2).2 = st3 at HX HA
        go_wp2_with first
          |
(at_builtin; refine wpList_append_own _ rfl _ _ 24 rfl w.heap.size 9 i0 (.string ⟨#[]⟩) 1 16 Tryz.underlying24 hi hz0 hz1 hz2 rfl (by decide) _ _ _ rfl ((o4).alloc _) ⟨w4.heap.size, 0, none⟩ 1 1 (([wIf]).map str) rfl rfl (World.news_of_block (heap_alloc_new _ _)) (fun u hu => str_one u _ hu) (by unfold maxLen; simp; omega) (by simp; omega) (by simp; omega) ?_; intro v9 w9 hown9 hgr9 hnil9; obtain ⟨z5, gz5, kz5, Z5, lz5, rfl, o5, c5, q5, hq5⟩ := draw_moreZ (ys := [wIf]) hgw ((o4).alloc _) (c4.alloc _) (grown_alloc7 q4 _) rfl hown9 hgr9 hnil9; clear hown9 hgr9 hnil9)
        obtain ⟨w5, rfl⟩ : ∃ x, x = w9 := ⟨_, rfl⟩
        rw [show ([wIf] : List Txt).length = 1 from rfl] at lz5
        clear o4 c4 q4
        refine (HX.out _ c5).mono ?_
        rintro e w6 ⟨gy, cy, ys, rfl, oy, ly, uy, ny, c6, g6⟩
        have ly' : ys.length ≤ 7 := by have := ly.out; omega
        have o6 := o5.apart g6 (fun j hj => by cases hj; exact hgw)
        have q6 := grown_trans q5 g6
        have hq6 := q6.size
        clear o5 c5 q5 g6
        go_wp2_with first
          | (at_builtin; refine wpList_append_own _ rfl _ _ 24 rfl w.heap.size 9 i0 (.string ⟨#[]⟩) 1 16 Tryz.underlying24 hi hz0 hz1 hz2 rfl (by decide) _ _ _ rfl ((o7).alloc _) ⟨w7.heap.size, 0, none⟩ 1 1 (([wOpen]).map str) rfl rfl (World.news_of_block (heap_alloc_new _ _)) (fun u hu => str_one u _ hu) (by unfold maxLen; simp; omega) (by simp; omega) (by simp; omega) ?_; intro v9 w9 hown9 hgr9 hnil9; obtain ⟨z8, gz8, kz8, Z8, lz8, rfl, o8, c8, q8, hq8⟩ := draw_moreZ (ys := [wOpen]) hgw ((o7).alloc _) (c7.alloc _) (grown_alloc7 q7 _) rfl hown9 hgr9 hnil9; clear hown9 hgr9 hnil9; obtain ⟨w8, rfl⟩ : ∃ x, x = w9 := ⟨_, rfl⟩; simp only [List.length_cons, List.length_nil] at lz8)
          | (at_builtin; refine wpList_append_own _ rfl _ _ 24 rfl w.heap.size 9 i0 (.string ⟨#[]⟩) 1 16 Tryz.underlying24 hi hz0 hz1 hz2 rfl (by decide) _ _ _ rfl o6 ⟨gy, 0, none⟩ ys.length cy (ys.map str) rfl (by simp) (news_of oy.see) (fun u hu => str_one u _ hu) (by unfold maxLen; simp; omega) (by simp; omega) (by omega) ?_; intro v9 w9 hown9 hgr9 hnil9; obtain ⟨z7, gz7, kz7, Z7, lz7, rfl, o7, c7, q7, hq7⟩ := draw_moreZ hgw o6 c6 q6 rfl hown9 hgr9 hnil9; clear hown9 hgr9 hnil9; obtain ⟨w7, rfl⟩ : ∃ x, x = w9 := ⟨_, rfl⟩)
        clear o6 c6 q6 oy o7 c7 q7
        refine (HA.out _ c8).mono ?_
        rintro e w10 ⟨ga, ca, al, rfl, oa, lA, ua, ba, c10, g10⟩
        have la' : al.length ≤ 96 := by have := lA.out; omega
        have o10 := o8.apart g10 (fun j hj => by cases hj; exact hgw)
        have q10 := grown_trans q8 g10
        have hq10 := q10.size
        clear o8 c8 q8 g10
        go_wp2_with first
          | (at_builtin; refine wpList_append_own _ rfl _ _ 24 rfl w.heap.size 9 i0 (.string ⟨#[]⟩) 1 16 Tryz.underlying24 hi hz0 hz1 hz2 rfl (by decide) _ _ _ rfl ((o11).alloc _) ⟨w11.heap.size, 0, none⟩ 2 2 (([wShut, wOpen]).map str) rfl rfl (World.news_of_block (heap_alloc_new _ _)) (fun u hu => str_one u _ hu) (by unfold maxLen; simp; omega) (by simp; omega) (by simp; omega) ?_; intro v9 w9 hown9 hgr9 hnil9; obtain ⟨z12, gz12, kz12, Z12, lz12, rfl, o12, c12, q12, hq12⟩ := draw_moreZ (ys := [wShut, wOpen]) hgw ((o11).alloc _) (c11.alloc _) (grown_alloc7 q11 _) rfl hown9 hgr9 hnil9; clear hown9 hgr9 hnil9; obtain ⟨w12, rfl⟩ : ∃ x, x = w9 := ⟨_, rfl⟩; simp only [List.length_cons, List.length_nil] at lz12)
          | (at_builtin; refine wpList_append_own _ rfl _ _ 24 rfl w.heap.size 9 i0 (.string ⟨#[]⟩) 1 16 Tryz.underlying24 hi hz0 hz1 hz2 rfl (by decide) _ _ _ rfl o10 ⟨ga, 0, none⟩ al.length ca (al.map str) rfl (by simp) (news_of oa.see) (fun u hu => str_one u _ hu) (by unfold maxLen; simp; omega) (by simp; omega) (by omega) ?_; intro v9 w9 hown9 hgr9 hnil9; obtain ⟨z11, gz11, kz11, Z11, lz11, rfl, o11, c11, q11, hq11⟩ := draw_moreZ hgw o10 c10 q10 rfl hown9 hgr9 hnil9; clear hown9 hgr9 hnil9; obtain ⟨w11, rfl⟩ : ∃ x, x = w9 := ⟨_, rfl⟩)
        clear o10 c10 q10 oa o11 c11 q11
        refine (HB.out _ c12).mono ?_
        rintro e w13 ⟨gd, cd, ds, rfl, od, lD, ud, bd, c13, g13⟩
        have ld' : ds.length ≤ 96 := by have := lD.out; omega
        have o13 := o12.apart g13 (fun j hj => by cases hj; exact hgw)
        have q13 := grown_trans q12 g13
        have hq13 := q13.size
        clear o12 c12 q12 g13
        go_wp2_with first
          | (at_builtin; refine wpList_append_own _ rfl _ _ 24 rfl w.heap.size 9 i0 (.string ⟨#[]⟩) 1 16 Tryz.underlying24 hi hz0 hz1 hz2 rfl (by decide) _ _ _ rfl ((o14).alloc _) ⟨w14.heap.size, 0, none⟩ 1 1 (([wShut]).map str) rfl rfl (World.news_of_block (heap_alloc_new _ _)) (fun u hu => str_one u _ hu) (by unfold maxLen; simp; omega) (by simp; omega) (by simp; omega) ?_; intro v9 w9 hown9 hgr9 hnil9; obtain ⟨z15, gz15, kz15, Z15, lz15, rfl, o15, c15, q15, hq15⟩ := draw_moreZ (ys := [wShut]) hgw ((o14).alloc _) (c14.alloc _) (grown_alloc7 q14 _) rfl hown9 hgr9 hnil9; clear hown9 hgr9 hnil9; obtain ⟨w15, rfl⟩ : ∃ x, x = w9 := ⟨_, rfl⟩; simp only [List.length_cons, List.length_nil] at lz15)
          | (at_builtin; refine wpList_append_own _ rfl _ _ 24 rfl w.heap.size 9 i0 (.string ⟨#[]⟩) 1 16 Tryz.underlying24 hi hz0 hz1 hz2 rfl (by decide) _ _ _ rfl o13 ⟨gd, 0, none⟩ ds.length cd (ds.map str) rfl (by simp) (news_of od.see) (fun u hu => str_one u _ hu) (by unfold maxLen; simp; omega) (by simp; omega) (by omega) ?_; intro v9 w9 hown9 hgr9 hnil9; obtain ⟨z14, gz14, kz14, Z14, lz14, rfl, o14, c14, q14, hq14⟩ := draw_moreZ hgw o13 c13 q13 rfl hown9 hgr9 hnil9; clear hown9 hgr9 hnil9; obtain ⟨w14, rfl⟩ : ∃ x, x = w9 := ⟨_, rfl⟩)
        clear o13 c13 q13 od o14 c14 q14
        have E15 : Hid (z15 = ((((((xs ++ [wIf]) ++ ys) ++ [wOpen]) ++ al) ++ [wShut, wOpen]) ++ ds) ++ [wShut]) := Lib.hid (by rw [Z15.out, Z14.out, Z12.out, Z11.out, Z8.out, Z7.out, Z5.out])
        go_roundw
        case rel => exact ddNext hH.out HK.out (by rw [E15.out]; simp only [List.length_append, ly.out, lA.out, lD.out, List.length_cons, List.length_nil]; omega) (by omega) (by go_num) rfl o15 c15 q15 (by rw [E15.out]; exact upTo_app (upTo_app (upTo_app (upTo_app (upTo_app (upTo_app (upTo_app hu (by intro a ha; simp only [List.mem_cons, List.not_mem_nil, or_false] at ha; rcases ha with rfl; decide)) uy) (by intro a ha; simp only [List.mem_cons, List.not_mem_nil, or_false] at ha; rcases ha with rfl; decide)) ua) (by intro a ha; simp only [List.mem_cons, List.not_mem_nil, or_false] at ha; rcases ha with rfl | rfl; decide; decide)) ud) (by intro a ha; simp only [List.mem_cons, List.not_mem_nil, or_false] at ha; rcases ha with rfl; decide)) (by rw [E15.out]; exact brk_if (D := 1) (by omega) hb ny ba bd)
        case measure => first | (simp [intOf]; done) | (simp [intOf]; omega)
      · have HK := Lib.hid (HF.out.trans (kind_while _ _ st2))
        have HY := Lib.hid (fun w h => l5DrawName_x bs g st2 w h)
        have HZ := Lib.hid (fun w h => l1Below_x bs g (nextB bs st2).2 7 (by decide) (by decide) w h)
        obtain ⟨hj0, hj1⟩ := mod_in (nextB bs (nextB bs st2).2).1 (show (0 : Int) < 7 by decide)
        have HA := Lib.hid (fun w h => ih (nextB bs (nextB bs st2).2).2 w h)
        have la := hlen (nextB bs (nextB bs st2).2).2
        generalize (deedsG (nextB bs) 1 3 (nextB bs (nextB bs st2).2).2).1 = na at HK HA la
        generalize (deedsG (nextB bs) 1 3 (nextB bs (nextB bs st2).2).2).2 = st5 at HK HA
        generalize (nextB bs (nextB bs st2).2).1 % 7 = jj at HZ hj0 hj1
        generalize (nextB bs (nextB bs st2).2).2 = st4 at HZ HA
        generalize (nextB bs st2).2 = st3 at HY HZ
        go_wp2_with fail
        refine (HY.out _ c4).mono ?_
        rintro e w5 ⟨t, rfl, ht, hbr, c5, g5⟩
        have ht' : t.length ≤ 30 := by omega
        have o5 := o4.apart g5 (fun j hj => by cases hj; exact hgw)
        have q5 := grown_trans q4 g5
        have hq5 := q5.size
        clear o4 c4 q4 g5
        go_wp2_with fail
        refine (HZ.out _ c5).mono ?_
        rintro e w6 ⟨rfl, c6, g6⟩
        have o6 := o5.apart g6 (fun j hj => by cases hj; exact hgw)
        have q6 := grown_trans q5 g6
        have hq6 := q6.size
        clear o5 c5 q5 g6
        go_wp2_with fail
        refine (l1Int_any _ (by omega) (by omega) _).mono ?_
        rintro e w7 ⟨rfl, b7⟩
        have hjl := Lib.itoa_length_le jj (by omega) (by omega)
        have hjb := itoa_noBr (v := jj) (by omega) (by omega)
        generalize Lib.itoa jj = jt at hjl hjb ⊢
        have hjl' : jt.length ≤ 30 := by omega
        have o7 := o6.later b7
        have c7 := c6.later b7
        have q7 := grown_trans q6 (grown_of_below b7 _)
        have hq7 := q7.size
        clear o6 c6 q6 b7
        go_wp2_with first
          |
(at_builtin; refine wpList_append_own _ rfl _ _ 24 rfl w.heap.size 9 i0 (.string ⟨#[]⟩) 1 16 Tryz.underlying24 hi hz0 hz1 hz2 rfl (by decide) _ _ _ rfl ((o7).alloc _) ⟨w7.heap.size, 0, none⟩ 5 5 (([wWhile, [60], t, jt, wOpen]).map str) rfl rfl (World.news_of_block (heap_alloc_new _ _)) (fun u hu => str_one u _ hu) (by unfold maxLen; simp; omega) (by simp; omega) (by simp; omega) ?_; intro v9 w9 hown9 hgr9 hnil9; obtain ⟨z8, gz8, kz8, Z8, lz8, rfl, o8, c8, q8, hq8⟩ := draw_moreZ (ys := [wWhile, [60], t, jt, wOpen]) hgw ((o7).alloc _) (c7.alloc _) (grown_alloc7 q7 _) rfl hown9 hgr9 hnil9; clear hown9 hgr9 hnil9)
        obtain ⟨w8, rfl⟩ : ∃ x, x = w9 := ⟨_, rfl⟩
        rw [show ([wWhile, [60], t, jt, wOpen] : List Txt).length = 5 from rfl] at lz8
        clear o7 c7 q7
        refine (HA.out _ c8).mono ?_
        rintro e w10 ⟨ga, ca, al, rfl, oa, lA, ua, ba, c10, g10⟩
        have la' : al.length ≤ 96 := by have := lA.out; omega
        have o10 := o8.apart g10 (fun j hj => by cases hj; exact hgw)
        have q10 := grown_trans q8 g10
        have hq10 := q10.size
        clear o8 c8 q8 g10
        go_wp2_with first
          | (at_builtin; refine wpList_append_own _ rfl _ _ 24 rfl w.heap.size 9 i0 (.string ⟨#[]⟩) 1 16 Tryz.underlying24 hi hz0 hz1 hz2 rfl (by decide) _ _ _ rfl ((o11).alloc _) ⟨w11.heap.size, 0, none⟩ 6 6 (([wSet, t, [43], t, [49], wShut]).map str) rfl rfl (World.news_of_block (heap_alloc_new _ _)) (fun u hu => str_one u _ hu) (by unfold maxLen; simp; omega) (by simp; omega) (by simp; omega) ?_; intro v9 w9 hown9 hgr9 hnil9; obtain ⟨z12, gz12, kz12, Z12, lz12, rfl, o12, c12, q12, hq12⟩ := draw_moreZ (ys := [wSet, t, [43], t, [49], wShut]) hgw ((o11).alloc _) (c11.alloc _) (grown_alloc7 q11 _) rfl hown9 hgr9 hnil9; clear hown9 hgr9 hnil9; obtain ⟨w12, rfl⟩ : ∃ x, x = w9 := ⟨_, rfl⟩; simp only [List.length_cons, List.length_nil] at lz12)
          | (at_builtin; refine wpList_append_own _ rfl _ _ 24 rfl w.heap.size 9 i0 (.string ⟨#[]⟩) 1 16 Tryz.underlying24 hi hz0 hz1 hz2 rfl (by decide) _ _ _ rfl o10 ⟨ga, 0, none⟩ al.length ca (al.map str) rfl (by simp) (news_of oa.see) (fun u hu => str_one u _ hu) (by unfold maxLen; simp; omega) (by simp; omega) (by omega) ?_; intro v9 w9 hown9 hgr9 hnil9; obtain ⟨z11, gz11, kz11, Z11, lz11, rfl, o11, c11, q11, hq11⟩ := draw_moreZ hgw o10 c10 q10 rfl hown9 hgr9 hnil9; clear hown9 hgr9 hnil9; obtain ⟨w11, rfl⟩ : ∃ x, x = w9 := ⟨_, rfl⟩)
        clear o10 c10 q10 oa o11 c11 q11
        have E12 : Hid (z12 = ((xs ++ [wWhile, [60], t, jt, wOpen]) ++ al) ++ [wSet, t, [43], t, [49], wShut]) := Lib.hid (by rw [Z12.out, Z11.out, Z8.out])
        go_roundw
        case rel => exact ddNext hH.out HK.out (by rw [E12.out]; simp only [List.length_append, lA.out, List.length_cons, List.length_nil]; omega) (by omega) (by go_num) rfl o12 c12 q12 (by rw [E12.out]; exact upTo_app (upTo_app (upTo_app hu (by intro a ha; simp only [List.mem_cons, List.not_mem_nil, or_false] at ha; rcases ha with rfl | rfl | rfl | rfl | rfl; decide; decide; exact ht'; exact hjl'; decide)) ua) (by intro a ha; simp only [List.mem_cons, List.not_mem_nil, or_false] at ha; rcases ha with rfl | rfl | rfl | rfl | rfl | rfl; decide; exact ht'; decide; exact ht'; decide; decide)) (by rw [E12.out]; exact brk_while (D := 1) (by omega) hb hbr hjb ba)
        case measure => first | (simp [intOf]; done) | (simp [intOf]; omega)
      · have HK := Lib.hid (HF.out.trans (kind_stop _ _ st2))
        have HX := Lib.hid (fun w h => l1Once_x bs g st2 4 (by decide) (by decide) w h)
        generalize (nextB bs st2).2 = st3 at HK HX
        by_cases hq : (nextB bs st2).1 % 4 = 0
        · rw [if_pos hq] at HK
          rw [decide_eq_true hq] at HX
          clear hq
          go_wp2_with fail
          refine (HX.out _ c4).mono ?_
          rintro e w5 ⟨rfl, c5, g5⟩
          have o5 := o4.apart g5 (fun j hj => by cases hj; exact hgw)
          have q5 := grown_trans q4 g5
          have hq5 := q5.size
          clear o4 c4 q4 g5
          go_wp2_with first
            |
(at_builtin; refine wpList_append_own _ rfl _ _ 24 rfl w.heap.size 9 i0 (.string ⟨#[]⟩) 1 16 Tryz.underlying24 hi hz0 hz1 hz2 rfl (by decide) _ _ _ rfl ((o5).alloc _) ⟨w5.heap.size, 0, none⟩ 1 1 (([wStop]).map str) rfl rfl (World.news_of_block (heap_alloc_new _ _)) (fun u hu => str_one u _ hu) (by unfold maxLen; simp; omega) (by simp; omega) (by simp; omega) ?_; intro v9 w9 hown9 hgr9 hnil9; obtain ⟨z6, gz6, kz6, Z6, lz6, rfl, o6, c6, q6, hq6⟩ := draw_moreZ (ys := [wStop]) hgw ((o5).alloc _) (c5.alloc _) (grown_alloc7 q5 _) rfl hown9 hgr9 hnil9; clear hown9 hgr9 hnil9)
          obtain ⟨w6, rfl⟩ : ∃ x, x = w9 := ⟨_, rfl⟩
          rw [show ([wStop] : List Txt).length = 1 from rfl] at lz6
          go_roundw
          case rel => exact ddNext hH.out HK.out (by rw [Z6.out, List.length_append]; rfl) (by omega) (by go_num) rfl o6 c6 q6 (by rw [Z6.out]; exact upTo_app hu (by intro a ha; simp only [List.mem_cons, List.not_mem_nil, or_false] at ha; rcases ha with rfl; decide)) (by rw [Z6.out]; exact hb.app (Brk.no (by omega) (by intro a ha; simp only [List.mem_cons, List.not_mem_nil, or_false] at ha; rcases ha with rfl; exact ⟨by decide, by decide⟩)))
          case measure => first | (simp [intOf]; done) | (simp [intOf]; omega)
        · rw [if_neg hq] at HK
          rw [decide_eq_false hq] at HX
          clear hq
          go_wp2_with fail
          refine (HX.out _ c4).mono ?_
          rintro e w5 ⟨rfl, c5, g5⟩
          have o5 := o4.apart g5 (fun j hj => by cases hj; exact hgw)
          have q5 := grown_trans q4 g5
          have hq5 := q5.size
          clear o4 c4 q4 g5
          go_wp2_with fail
          go_roundw
          case rel => exact ddNext hH.out HK.out (by simp) (by omega) (by go_num) rfl o5 c5 q5 hu hb
          case measure => first | (simp [intOf]; done) | (simp [intOf]; omega)
      · have HK := Lib.hid (HF.out.trans (kind_set _ _ hkd st2))
        have HY := Lib.hid (fun w h => l5DrawName_x bs g st2 w h)
        have HX := Lib.hid (fun w h => l6DrawSum_x bs g (nextB bs st2).2 w h)
        have hs7 := (sum_len2 (nextB bs) (nextB bs st2).2).2.2
        generalize (sumG (nextB bs) 2 (nextB bs st2).2).1 = ns at HK HX hs7
        generalize (sumG (nextB bs) 2 (nextB bs st2).2).2 = st4 at HK HX
        generalize (nextB bs st2).2 = st3 at HX HY
        rcases hkd with rfl | rfl
        · skip
          go_wp2_with fail
          refine (HY.out _ c4).mono ?_
          rintro e w5 ⟨t, rfl, ht, hbr, c5, g5⟩
          have ht' : t.length ≤ 30 := by omega
          have o5 := o4.apart g5 (fun j hj => by cases hj; exact hgw)
          have q5 := grown_trans q4 g5
          have hq5 := q5.size
          clear o4 c4 q4 g5
          go_wp2_with first
            |
(at_builtin; refine wpList_append_own _ rfl _ _ 24 rfl w.heap.size 9 i0 (.string ⟨#[]⟩) 1 16 Tryz.underlying24 hi hz0 hz1 hz2 rfl (by decide) _ _ _ rfl ((o5).alloc _) ⟨w5.heap.size, 0, none⟩ 2 2 (([wSet, t]).map str) rfl rfl (World.news_of_block (heap_alloc_new _ _)) (fun u hu => str_one u _ hu) (by unfold maxLen; simp; omega) (by simp; omega) (by simp; omega) ?_; intro v9 w9 hown9 hgr9 hnil9; obtain ⟨z6, gz6, kz6, Z6, lz6, rfl, o6, c6, q6, hq6⟩ := draw_moreZ (ys := [wSet, t]) hgw ((o5).alloc _) (c5.alloc _) (grown_alloc7 q5 _) rfl hown9 hgr9 hnil9; clear hown9 hgr9 hnil9)
          obtain ⟨w6, rfl⟩ : ∃ x, x = w9 := ⟨_, rfl⟩
          rw [show ([wSet, t] : List Txt).length = 2 from rfl] at lz6
          clear o5 c5 q5
          refine (HX.out _ c6).mono ?_
          rintro e w7 ⟨gy, cy, ys, rfl, oy, ly, uy, ny, c7, g7⟩
          have ly' : ys.length ≤ 7 := by have := ly.out; omega
          have o7 := o6.apart g7 (fun j hj => by cases hj; exact hgw)
          have q7 := grown_trans q6 g7
          have hq7 := q7.size
          clear o6 c6 q6 g7
          go_wp2_with first
            |
(at_builtin; refine wpList_append_own _ rfl _ _ 24 rfl w.heap.size 9 i0 (.string ⟨#[]⟩) 1 16 Tryz.underlying24 hi hz0 hz1 hz2 rfl (by decide) _ _ _ rfl o7 ⟨gy, 0, none⟩ ys.length cy (ys.map str) rfl (by simp) (news_of oy.see) (fun u hu => str_one u _ hu) (by unfold maxLen; simp; omega) (by simp; omega) (by omega) ?_; intro v9 w9 hown9 hgr9 hnil9; obtain ⟨z8, gz8, kz8, Z8, lz8, rfl, o8, c8, q8, hq8⟩ := draw_moreZ hgw o7 c7 q7 rfl hown9 hgr9 hnil9; clear hown9 hgr9 hnil9)
          obtain ⟨w8, rfl⟩ : ∃ x, x = w9 := ⟨_, rfl⟩
          go_roundw
          case rel => exact ddNext hH.out HK.out (by rw [Z8.out, List.length_append, Z6.out, List.length_append, ly.out]; show _ + 2 + _ = _; omega) (by omega) (by go_num) rfl o8 c8 q8 (by rw [Z8.out, Z6.out]; exact upTo_app (upTo_app hu (by intro a ha; simp only [List.mem_cons, List.not_mem_nil, or_false] at ha; rcases ha with rfl | rfl; decide; exact ht')) uy) (by rw [Z8.out, Z6.out]; exact (hb.app (Brk.no (by omega) (by intro a ha; simp only [List.mem_cons, List.not_mem_nil, or_false] at ha; rcases ha with rfl | rfl; exact ⟨by decide, by decide⟩; exact hbr))).app (Brk.no (by omega) ny))
          case measure => first | (simp [intOf]; done) | (simp [intOf]; omega)
        · skip
          go_wp2_with fail
          refine (HY.out _ c4).mono ?_
          rintro e w5 ⟨t, rfl, ht, hbr, c5, g5⟩
          have ht' : t.length ≤ 30 := by omega
          have o5 := o4.apart g5 (fun j hj => by cases hj; exact hgw)
          have q5 := grown_trans q4 g5
          have hq5 := q5.size
          clear o4 c4 q4 g5
          go_wp2_with first
            |
(at_builtin; refine wpList_append_own _ rfl _ _ 24 rfl w.heap.size 9 i0 (.string ⟨#[]⟩) 1 16 Tryz.underlying24 hi hz0 hz1 hz2 rfl (by decide) _ _ _ rfl ((o5).alloc _) ⟨w5.heap.size, 0, none⟩ 2 2 (([wSet, t]).map str) rfl rfl (World.news_of_block (heap_alloc_new _ _)) (fun u hu => str_one u _ hu) (by unfold maxLen; simp; omega) (by simp; omega) (by simp; omega) ?_; intro v9 w9 hown9 hgr9 hnil9; obtain ⟨z6, gz6, kz6, Z6, lz6, rfl, o6, c6, q6, hq6⟩ := draw_moreZ (ys := [wSet, t]) hgw ((o5).alloc _) (c5.alloc _) (grown_alloc7 q5 _) rfl hown9 hgr9 hnil9; clear hown9 hgr9 hnil9)
          obtain ⟨w6, rfl⟩ : ∃ x, x = w9 := ⟨_, rfl⟩
          rw [show ([wSet, t] : List Txt).length = 2 from rfl] at lz6
          clear o5 c5 q5
          refine (HX.out _ c6).mono ?_
          rintro e w7 ⟨gy, cy, ys, rfl, oy, ly, uy, ny, c7, g7⟩
          have ly' : ys.length ≤ 7 := by have := ly.out; omega
          have o7 := o6.apart g7 (fun j hj => by cases hj; exact hgw)
          have q7 := grown_trans q6 g7
          have hq7 := q7.size
          clear o6 c6 q6 g7
          go_wp2_with first
            |
(at_builtin; refine wpList_append_own _ rfl _ _ 24 rfl w.heap.size 9 i0 (.string ⟨#[]⟩) 1 16 Tryz.underlying24 hi hz0 hz1 hz2 rfl (by decide) _ _ _ rfl o7 ⟨gy, 0, none⟩ ys.length cy (ys.map str) rfl (by simp) (news_of oy.see) (fun u hu => str_one u _ hu) (by unfold maxLen; simp; omega) (by simp; omega) (by omega) ?_; intro v9 w9 hown9 hgr9 hnil9; obtain ⟨z8, gz8, kz8, Z8, lz8, rfl, o8, c8, q8, hq8⟩ := draw_moreZ hgw o7 c7 q7 rfl hown9 hgr9 hnil9; clear hown9 hgr9 hnil9)
          obtain ⟨w8, rfl⟩ : ∃ x, x = w9 := ⟨_, rfl⟩
          go_roundw
          case rel => exact ddNext hH.out HK.out (by rw [Z8.out, List.length_append, Z6.out, List.length_append, ly.out]; show _ + 2 + _ = _; omega) (by omega) (by go_num) rfl o8 c8 q8 (by rw [Z8.out, Z6.out]; exact upTo_app (upTo_app hu (by intro a ha; simp only [List.mem_cons, List.not_mem_nil, or_false] at ha; rcases ha with rfl | rfl; decide; exact ht')) uy) (by rw [Z8.out, Z6.out]; exact (hb.app (Brk.no (by omega) (by intro a ha; simp only [List.mem_cons, List.not_mem_nil, or_false] at ha; rcases ha with rfl | rfl; exact ⟨by decide, by decide⟩; exact hbr))).app (Brk.no (by omega) ny))
          case measure => first | (simp [intOf]; done) | (simp [intOf]; omega)

end Go.Proofs.YtjcmfdgphhonhaaGreatDoor
