/- Contract of the reference model's mirrored term. -/
import Derived.Test.YtmcdfbjmbelklaaMirror
import Derived.Test.YtmcdfbjmbelklaaMarksS
namespace Go.Proofs.Ytmcdfbjmbelklaa
open Go.RowKit Go.Joins
set_option maxRecDepth 100000 in
set_option maxHeartbeats 2000000 in
theorem specMirrorTerm (p : Int) (ms : List (Int × Int)) (B : Nat) (v : Value) (w : World) (hr : RdMarks w B v ms) (hB : B ≤ w.heap.size) :
    Calls Try.prog 24 #[.int .i64 p, v] w (MirOut p ms w) := by
  obtain ⟨im, hmi, hmz0, hmz1, hmz2⟩ := info_parts Try.infoM
  have Mi := Lib.hid hmi; clear hmi
  have Mz0 := Lib.hid hmz0; clear hmz0
  have Mz1 := Lib.hid hmz1; clear hmz1
  have Mz2 := Lib.hid hmz2; clear hmz2
  by_cases hok : termOk p ms = true
  case neg =>
    have Hok : Hid (termOk p ms = false) := by simpa [Hid] using hok
    clear hok
    go_enter Try.func24, Try.ntmps24
    go_wp2_with fail
    refine (specTermOk _ _ _ _ _ (hr.below (fun k hk => Below.heap_alloc _ _ _ (by omega)))).mono ?_
    rintro e w' ⟨rfl, rfl⟩
    rw [Hok.out]
    go_wp2
    go_ret2
    obtain ⟨h1, h2⟩ := mir_no Hok.out
    exact ⟨_, by rw [h1]; rfl, by rw [h2]; exact World.ownsRow_made _ _ 0 (Nat.le_refl _) (Nat.zero_le _) rfl, (Below.refl _ _).alloc (Nat.le_refl _) _⟩
  have Hok := Lib.hid hok; clear hok
  obtain ⟨⟨hp1, hp4⟩, hlen15, _⟩ := termOk_iff.1 Hok.out
  obtain ⟨wo, rfl⟩ : ∃ wo : World, wo = w := ⟨_, rfl⟩
  have Hr := Lib.hid (hr.below (w' := wo.alloc (.cells #[] TM)) (fun k hk => Below.heap_alloc _ _ _ (by omega)))
  obtain ⟨ao, cap, rfl, hal, ham, hi0, hac0⟩ := hr
  have hac := Lib.hid hac0; clear hac0 hi0
  unfold maxLen at ham
  go_enter Try.func24, Try.ntmps24
  go_wp2_with fail
  refine (specTermOk _ _ _ _ _ Hr.out).mono ?_
  rintro e w1 ⟨rfl, rfl⟩
  rw [Hok.out]
  go_wp2_with fail
  go_loopw [6, 7] (fun v i wr => ∃ k : Nat, k ≤ ms.length ∧ i = .int .i64 k ∧ wr.ownsRow wo.heap.size TM 2 v (mirN p (ms.take k)).length (mcells (mirN p (ms.take k))) ∧ Below wo.heap.size wo wr)
    (fun _ i _ => ms.length - (intOf i).toNat)
  case atStart => exact ⟨0, Nat.zero_le _, rfl, by rw [List.take_zero, mirN_nil]; exact World.ownsRow_made _ _ 0 (Nat.le_refl _) (Nat.zero_le _) rfl, (Below.refl _ _).alloc (Nat.le_refl _) _⟩
  case round =>
    obtain ⟨k, hk, rfl, hown, hbel⟩ := hrel
    by_cases hlt : k < ms.length
    · obtain ⟨b, off, rfl, hb, hc1, hc2⟩ := hac.out k hlt
      rw [← hbel.cell (p := ⟨b, _, none⟩) (show b < _ by omega)] at hc1 hc2
      have hmk := termOk_get Hok.out hlt
      have hL := mirN_len p (ms.take k)
      have hLk : (ms.take k).length ≤ k := List.length_take_le _ _
      have Hsucc := Lib.hid (mirN_take p ms k hlt)
      generalize hxs : mirN p (ms.take k) = xs at *
      have Hxs := Lib.hid hxs; clear hxs
      generalize hl : xs.length = L at *
      have Hl := Lib.hid hl; clear hl
      have hL30 : L ≤ 30 := by omega
      generalize ms.getD k (0, 0) = m at *
      obtain ⟨kd, x⟩ := m
      dsimp only at hc1 hc2 hmk
      have hkd : kd = 0 ∨ kd = 1 ∨ (2 ≤ kd ∧ kd ≤ 5) := by unfold mkOk at hmk; rw [decide_eq_true_eq] at hmk; omega
      rcases hkd with rfl | rfl | hkd
      · have Hm : Hid (mirM p (0, x) = [(0, x), (2, 0)]) := mirM0 p x
        clear hmk
        go_wp2_with (first
          | (at_builtin
             refine wpList_append_own _ rfl (.tmp 34) (.tmp 40) 35 rfl wo.heap.size TM im (.agg #[.int .i64 0, .int .i64 0]) 2 16 Try.underlying35 Mi.out Mz0.out Mz1.out Mz2.out rfl (by decide) u6 L (mcells xs) rfl (hown.alloc _) ⟨wr.heap.size, 0, none⟩ 2 _ (mcells [(0, x), (2, 0)]) rfl rfl (news4 _ _ rfl _ _ _ _ _) (mcells_one _) (by unfold maxLen; omega) (by omega) ?_ ?_
             go_must (have := hbel.size; simp; omega)
             go_must (intro v6 w6 hown6 hgr6 _
                      have Hb6 := Lib.hid ((hbel.alloc hbel.size _).grown hgr6 (by have := hbel.size; simp; omega) (fun k hk => (hown.lt k hk).1))
                      have Hown6 := Lib.hid hown6
                      clear hown6 hgr6))
          | fail)
        go_roundw
        case rel => exact ⟨k + 1, by omega, by go_num, by rw [Hsucc.out, Hm.out]; exact own_cat3 Hl.out Hown6.out, Hb6.out⟩
        case measure => simp [intOf]; omega
      · have Hm : Hid (mirM p (1, x) = [(1, p + 1 - x), (2, 0)]) := mirM1 p x
        have hx : 0 ≤ x ∧ x ≤ 5 := by unfold mkOk at hmk; rw [decide_eq_true_eq] at hmk; omega
        clear hmk
        go_wp2_with (first
          | (at_builtin
             refine wpList_append_own _ rfl (.tmp 44) (.tmp 55) 35 rfl wo.heap.size TM im (.agg #[.int .i64 0, .int .i64 0]) 2 16 Try.underlying35 Mi.out Mz0.out Mz1.out Mz2.out rfl (by decide) u6 L (mcells xs) rfl (hown.alloc _) ⟨wr.heap.size, 0, none⟩ 2 _ (mcells [(1, p + 1 - x), (2, 0)]) rfl rfl (news4 _ _ rfl _ _ _ _ _) (mcells_one _) (by unfold maxLen; omega) (by omega) ?_ ?_
             go_must (have := hbel.size; simp; omega)
             go_must (intro v6 w6 hown6 hgr6 _
                      have Hb6 := Lib.hid ((hbel.alloc hbel.size _).grown hgr6 (by have := hbel.size; simp; omega) (fun k hk => (hown.lt k hk).1))
                      have Hown6 := Lib.hid hown6
                      clear hown6 hgr6))
          | fail)
        go_roundw
        case rel => exact ⟨k + 1, by omega, by go_num, by rw [Hsucc.out, Hm.out]; exact own_cat3 Hl.out Hown6.out, Hb6.out⟩
        case measure => simp [intOf]; omega
      · have Hm : Hid (mirM p (kd, x) = [(kd, x)]) := mirMe hkd.1
        have hn0 : (kd == 0) = false := by rw [beq_eq_false_iff_ne]; omega
        have hn1 : (kd == 1) = false := by rw [beq_eq_false_iff_ne]; omega
        clear hmk
        go_wp2_with (first
          | (at_builtin
             refine wpList_append_own _ rfl (.tmp 25) (.tmp 30) 35 rfl wo.heap.size TM im (.agg #[.int .i64 0, .int .i64 0]) 2 16 Try.underlying35 Mi.out Mz0.out Mz1.out Mz2.out rfl (by decide) u6 L (mcells xs) rfl (hown.alloc _) ⟨wr.heap.size, 0, none⟩ 1 _ (mcells [(kd, x)]) rfl rfl (news2 _ _ rfl _ _ _) (mcells_one _) (by unfold maxLen; omega) (by omega) ?_ ?_
             go_must (have := hbel.size; simp; omega)
             go_must (intro v6 w6 hown6 hgr6 _
                      have Hb6 := Lib.hid ((hbel.alloc hbel.size _).grown hgr6 (by have := hbel.size; simp; omega) (fun k hk => (hown.lt k hk).1))
                      have Hown6 := Lib.hid hown6
                      clear hown6 hgr6))
          | fail)
        go_roundw
        case rel => exact ⟨k + 1, by omega, by go_num, by rw [Hsucc.out, Hm.out]; exact own_cat1 Hl.out Hown6.out, Hb6.out⟩
        case measure => simp [intOf]; omega
    · obtain rfl : k = ms.length := by omega
      rw [List.take_length] at hown
      have hL := mirN_len p ms
      by_cases h15 : (mirN p ms).length ≤ 15
      · have Hy := Lib.hid (mir_yes Hok.out h15)
        have Hown := Lib.hid hown; clear hown
        generalize hLL : (mirN p ms).length = L at *
        have HLL := Lib.hid hLL; clear hLL
        have hlc : (L : Int) ≤ 15 := by omega
        obtain ⟨rfl, rfl⟩ | ⟨gv, cv, rfl⟩ := ownsRow_forms Hown.out
        all_goals
          go_wp2
          go_ret2
          exact ⟨_, by rw [Hy.out.1]; rfl, by rw [Hy.out.2, HLL.out]; exact Hown.out, hbel⟩
      · have Hy := Lib.hid (mir_long h15)
        have Hown := Lib.hid hown; clear hown
        generalize hLL : (mirN p ms).length = L at *
        have HLL := Lib.hid hLL; clear hLL
        have hlc : (15 : Int) < (L : Int) := by omega
        obtain ⟨gv, cv, rfl⟩ := ownsRow_form Hown.out (by omega)
        go_wp2
        go_ret2
        exact ⟨_, by rw [Hy.out.1]; rfl, by rw [Hy.out.2]; exact World.ownsRow_made _ _ 0 hbel.size (Nat.zero_le _) rfl, hbel.alloc hbel.size _⟩
end Go.Proofs.Ytmcdfbjmbelklaa
