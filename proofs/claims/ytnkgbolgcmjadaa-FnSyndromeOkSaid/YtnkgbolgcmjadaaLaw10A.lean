/- A law of stage 10: all right is a syndrome. It answers true, whatever the code. No condition. -/
import Derived.Test.YtnkgbolgcmjadaaDrawY
import Derived.Test.YtnkgbolgcmjadaaFaultI
import Derived.Test.YtnkgbolgcmjadaaFaultL
import Derived.Test.YtnkgbolgcmjadaaLawsA
import Derived.Deep.RegionHeld3
import Derived.Deep.Cut
namespace Go.Proofs.Ytnkgbolgcmjadaa
open Go.RowKit Go.Joins
theorem back_none10 (s : List (List Int)) : backR (s.take 0) = [] := rfl
theorem back_succ10 {rs : List RW} {k : Nat} (hk : k < rs.length) : backR ((rs.map (·.2)).take (k + 1)) = (rs.getD k rw0).2.reverse :: backR ((rs.map (·.2)).take k) := by
  rw [List.take_succ_eq_append_getElem (by simpa using hk)]
  unfold backR
  simp [List.getD, hk]
theorem back_all10 (rs : List RW) : backR ((rs.map (·.2)).take rs.length) = backR (rs.map (·.2)) := by
  rw [List.take_of_length_le (by simp)]
theorem rev_take10 {zs : List Int} {k : Nat} (hk : k < zs.length) : (zs.take (k + 1)).reverse = zs.getD k 0 :: (zs.take k).reverse := by
  have e : zs.getD k 0 = zs[k] := by simp [List.getD, hk]
  rw [List.take_succ_eq_append_getElem hk, e]; simp
theorem own_newI10 (w : World) (z : Int) : (w.alloc (.cells #[.int .i64 z] 3)).ownsRow w.heap.size 3 1 (.slice (some ⟨w.heap.size, 0, none⟩) 1 1) 1 [.int .i64 z] :=
  ⟨rfl, .inr ⟨w.heap.size, 1, _, rfl, Nat.le_refl _, heap_alloc_new w _, Nat.le_refl _, by unfold maxLen; omega, rfl, rfl⟩⟩
theorem own_newR10 (w : World) (u : Value) : (w.alloc (.cells #[u] 26)).ownsRow w.heap.size 26 1 (.slice (some ⟨w.heap.size, 0, none⟩) 1 1) 1 [u] :=
  ⟨rfl, .inr ⟨w.heap.size, 1, _, rfl, Nat.le_refl _, heap_alloc_new w _, Nat.le_refl _, by unfold maxLen; omega, rfl, rfl⟩⟩
theorem ints_one10 (zs : List Int) : ∀ u ∈ ints zs, u.oneCell' = true := by
  intro u hu
  obtain ⟨z, _, rfl⟩ := List.mem_map.1 hu
  rfl
theorem rows_one10 {w : World} {base : Nat} {v : Value} {bs : List RW} (h : RowsIn w base v bs) : ∀ u ∈ bs.map (·.1), u.oneCell' = true := by
  intro u hu
  obtain ⟨r, hr, rfl⟩ := List.mem_map.1 hu
  rcases (h.2 r hr).2 with ⟨h1, _⟩ | ⟨_, _, _, h1, _⟩
  · rw [h1]; rfl
  · rw [h1]; rfl
theorem below_none10 {a w : World} (h : a.grownBy w none) : Below a.heap.size a w := ⟨h.os, h.tape, h.output, h.size, fun i hi => h.block i hi (by simp)⟩
/-- two units that tell that both are right -/
theorem rd_zero10 (w : World) : RdRows (((w.alloc (.cells #[.int .i64 0, .int .i64 0] 3)).alloc (.cells #[.int .i64 0, .int .i64 0] 3)).alloc (.cells #[.slice (some ⟨w.heap.size, 0, none⟩) 2 2, .slice (some ⟨w.heap.size + 1, 0, none⟩) 2 2] 26)) (w.heap.size + 3) (.slice (some ⟨w.heap.size + 1 + 1, 0, none⟩) 2 2)
    [(.slice (some ⟨w.heap.size, 0, none⟩) 2 2, [0, 0]), (.slice (some ⟨w.heap.size + 1, 0, none⟩) 2 2, [0, 0])] := by
  refine ⟨_, 2, rfl, Nat.le_refl _, by unfold maxLen; omega, fun r hr => ?_, fun j hj => ?_⟩
  · rcases List.mem_cons.1 hr with rfl | hr
    · refine ⟨_, 2, rfl, Nat.le_refl _, by unfold maxLen; simp, fun j hj => ?_⟩
      have : j = 0 ∨ j = 1 := by simp at hj; omega
      rcases this with rfl | rfl
      · exact ⟨_, 0, rfl, by omega, by go_simp⟩
      · exact ⟨_, 0, rfl, by omega, by go_simp⟩
    · rw [List.mem_singleton] at hr
      subst hr
      refine ⟨_, 2, rfl, Nat.le_refl _, by unfold maxLen; simp, fun j hj => ?_⟩
      have : j = 0 ∨ j = 1 := by simp at hj; omega
      rcases this with rfl | rfl
      · exact ⟨_, 0, rfl, by omega, by go_simp⟩
      · exact ⟨_, 0, rfl, by omega, by go_simp⟩
  · have : j = 0 ∨ j = 1 := by simp at hj; omega
    rcases this with rfl | rfl
    · exact ⟨_, 0, rfl, by omega, by go_simp⟩
    · exact ⟨_, 0, rfl, by omega, by go_simp⟩
theorem rd_none10 (w : World) (B g : Nat) : RdRows w B (.slice (some ⟨g, 0, none⟩) 0 0) [] := ⟨_, 0, rfl, Nat.le_refl _, Nat.zero_le _, fun r hr => by simp at hr, fun j hj => by simp at hj⟩
end Go.Proofs.Ytnkgbolgcmjadaa
namespace Go.Proofs.Ytnkgbolgcmjadaa.fnSyndromeOk
open Go.ChangeShapes Go.WideShapes Go.ChangeAt Go.RowKit Go.Joins
attribute [local irreducible] synOk rowOk entOk fitsN fitsK toldE bitI fitsV setsN setsF votesF votesN heads madeE madeRow madeL madeV madeOk sureN onlyFN onlyFOk nums
open Go.ChangeMaps (open_string shut_string)
set_option linter.unusedVariables false
set_option maxRecDepth 100000 in
set_option maxHeartbeats 8000000 in
theorem walk (a0 : Value) (n0 : Nat) (w : World) (w0 : RdBytes w w.heap.size a0 n0) :
    Calls Try.prog 3 #[a0] w fun e w' => e = .returned (.bool true) ∧ Below w.heap.size w w' := by
  have hr := w0
  by_cases hbig : n0 ≤ 1048576
  case neg =>
    obtain ⟨ao, cap, rfl, hl, hm, hc⟩ := w0
    have hbig' := code_big hbig
    unfold maxLen at hm
    clear hc hr hbig
    go_enter Try.func3, Try.ntmps3
    go_wp2
    go_ret
    exact ⟨rfl, Below.refl _ _⟩
  have hbig' : (n0 : Int) ≤ 1048576 := by omega
  clear hbig
  obtain ⟨ao, cap, rfl, hl, hm, hc⟩ := w0
  have Hr := Lib.hid hr
  clear hc hr hl hm
  go_enter Try.func3, Try.ntmps3
  go_wp2_with fail
  refine (drawSyndromeOk _ _ _ Hr.out).mono ?_
  rintro e w1 ⟨v, rs, rfl, hri, hsp, hB1⟩
  obtain ⟨so, sc, rfl⟩ := own_len9 hri.1
  have HR1 := Lib.hid hri.rd
  have HB1 := Lib.hid hB1
  have hrl := drewS_small hsp
  have Hrz := Lib.hid (fun j (hj : j < rs.length) => hsp.2 _ (show rs.getD j rw0 ∈ rs by rw [rw_at hj]; exact List.getElem_mem hj))
  clear hri hB1 hsp
  obtain ⟨i0, hi0, hz0, hz1, hz2⟩ := info_parts Try.info3
  have H0 := Lib.hid hi0; clear hi0
  have Hz0 := Lib.hid hz0; clear hz0
  have Hz1 := Lib.hid hz1; clear hz1
  have Hz2 := Lib.hid hz2; clear hz2
  obtain ⟨j0, hj0, hy0, hy1, hy2⟩ := info_parts Try.infoI
  have Hj := Lib.hid hj0; clear hj0
  have Hy0 := Lib.hid hy0; clear hy0
  have Hy1 := Lib.hid hy1; clear hy1
  have Hy2 := Lib.hid hy2; clear hy2
  have His := Lib.hid (fun rs B v w h h2 => implSyndromeOk rs B v w h h2)
  have HisR := Lib.hid (fun w h h2 => implSyndromeOk rs w.heap.size (.slice so rs.length sc) w h h2)
  have Hsp := Lib.hid (fun B w h => specSyndromeOk rs B (.slice so rs.length sc) w h)
  have Hba := Lib.hid (backR_ok (rs.map (·.2)))
  have Hbs := Lib.hid (fun k hk => back_succ10 (rs := rs) (k := k) hk)
  have Hbn : Hid (backR ((rs.map (·.2)).take 0) = []) := rfl
  have Hball := Lib.hid (back_all10 rs)
  generalize synOk (rs.map (·.2)) = o at *
  go_wp2_with fail
  refine (HisR.out _ HR1.out (Nat.le_refl _)).mono ?_
  rintro e w2 ⟨rfl, hb2⟩
  have HR2 := Lib.hid (HR1.out.kept hb2)
  have HB2 := Lib.hid (HB1.out.trans (hb2.mono HB1.out.size))
  clear hb2
  go_wp2_with fail
  refine (Hsp.out _ _ HR2.out).mono ?_
  rintro e w' ⟨rfl, rfl⟩
  have hrd := HR2.out
  obtain ⟨sa, sc', hsv, hsl, hsm, _, hsc⟩ := hrd
  obtain ⟨rfl, rfl⟩ : so = sa ∧ sc = sc' := by simpa using hsv
  have Hsc := Lib.hid hsc
  unfold maxLen at hsm
  clear hsc hsv
  obtain ⟨wo, rfl⟩ : ∃ wo : World, wo = w2 := ⟨_, rfl⟩
  go_wp2
  go_loopw [5, 6, 7, 8] (fun vb i _ _ wr => ∃ (k : Nat) (bs : List RW) (gb cb : Nat), k ≤ rs.length ∧ i = .int .i64 k ∧ vb = .slice (some ⟨gb, 0, none⟩) k cb ∧ Hid (bs.length = k) ∧ Hid (bs.map (·.2) = backR ((rs.map (·.2)).take k)) ∧ RowsIn wr wo.heap.size vb bs ∧ Below wo.heap.size wo wr) (fun _ i _ _ _ => rs.length - (intOf i).toNat)
  case atStart => exact ⟨0, [], _, _, Nat.zero_le _, rfl, rfl, rfl, by rw [Hbn.out]; rfl, RowsIn.empty _ _ (Nat.le_refl _), (Below.refl _ _).alloc (Nat.le_refl _) _⟩
  case round =>
    obtain ⟨k, bs, gb, cb, hk, rfl, rfl, hbl, hbs, hri, hbr⟩ := hrel
    have Hri := Lib.hid hri
    have Hbr := Lib.hid hbr
    have hsr := hbr.size
    clear hri hbr
    by_cases hlt : k < rs.length
    · obtain ⟨b1, o1, rfl, hb1, hc1⟩ := Hsc.out k hlt
      rw [← Hbr.out.cell (p := ⟨b1, _, none⟩) (show b1 < _ by omega)] at hc1
      have hrow := HR2.out.get hlt
      have hzl := Hrz.out k hlt
      have hbk := Hbs.out k hlt
      generalize rs.getD k rw0 = q at *
      obtain ⟨u, zs⟩ := q
      dsimp only at hrow hzl hbk hc1
      obtain ⟨ua, uc, hu, hul, hum, hucell⟩ := hrow
      subst hu
      have Huc : Hid (∀ j, j < zs.length → ∃ b off, ua = some ⟨b, off, none⟩ ∧ b < wo.heap.size ∧ wr.cell? ⟨b, off + j, none⟩ = some (.int .i64 (zs.getD j 0))) := fun j hj => by
        obtain ⟨b, off, h1, h2, h3⟩ := hucell j hj
        exact ⟨b, off, h1, h2, by rw [← h3]; exact Hbr.out.cell (p := ⟨b, off + j, none⟩) h2⟩
      have Hrt := Lib.hid (fun j hj => rev_take10 (zs := zs) (k := j) hj)
      have Hrv : Hid (zs.take zs.length = zs) := List.take_length
      have Hil : Hid (∀ j, j ≤ zs.length → (ints (zs.take j).reverse).length = j * 1) := fun j hj => by simp [ints, Nat.min_eq_left hj]
      have Hbk := Lib.hid hbk
      have Hzl : Hid (zs.reverse.length = zs.length) := List.length_reverse
      unfold maxLen at hum
      clear hucell hbk
      generalize hm : zs.length = m at *
      have Hm := Lib.hid hm
      clear hm
      obtain ⟨wk, rfl⟩ : ∃ wk : World, wk = wr := ⟨_, rfl⟩
      go_wp2
      go_loopw [7, 8] (fun vr i wr => ∃ (j gr cr : Nat), j ≤ m ∧ i = .int .i64 j ∧ vr = .slice (some ⟨gr, 0, none⟩) j cr ∧ wr.ownsRow wk.heap.size 3 1 vr j (ints (zs.take j).reverse) ∧ Below wk.heap.size wk wr) (fun _ i _ => m - (intOf i).toNat)
      case atStart => exact ⟨0, _, _, Nat.zero_le _, rfl, rfl, World.ownsRow_made _ _ 0 (Nat.le_refl _) (Nat.zero_le _) rfl, (Below.refl _ _).alloc (Nat.le_refl _) _⟩
      case round =>
        obtain ⟨j, gr, cr, hj, rfl, rfl, hown, hbi⟩ := hrel
        have hsi := hbi.size
        rw [← hbi.cell (p := ⟨b1, _, none⟩) (show b1 < _ by omega)] at hc1
        by_cases hjl : j < m
        · obtain ⟨b2, o2, rfl, hb2, hc2⟩ := Huc.out j hjl
          rw [← hbi.cell (p := ⟨b2, _, none⟩) (show b2 < _ by omega)] at hc2
          have hrt := Hrt.out j hjl
          have hil := Hil.out j hj
          generalize zs.getD j 0 = z at *
          have Hrt1 := Lib.hid hrt
          have Hbi := Lib.hid hbi
          clear hrt hbi
          go_wp2_with (first
            | (at_builtin
               refine wpList_append_own _ rfl (.tmp 44) (.tmp 45) 26 rfl wr.heap.size 3 i0 (.int .i64 0) 1 8 Try.underlying26 H0.out Hz0.out Hz1.out Hz2.out rfl (by decide) (.slice (some ⟨wr.heap.size, 0, none⟩) 1 1) 1 [.int .i64 z] rfl (own_newI10 wr z) ⟨gr, 0, none⟩ j cr (ints (zs.take j).reverse) rfl hil ((hown.alloc _).cells (g := gr) rfl) (ints_one10 _) (by unfold maxLen; omega) (by omega) (by simp) ?_
               go_must (intro v6 w6 hown6 hgr6 _
                        obtain ⟨g6, c6, rfl⟩ := ownsRow_form hown6 (by omega)
                        have hg6 : wr.grownBy w6 none := grown_own9 (only_alloc9 (World.grownBy.refl _ _) _) hgr6 (fun k hk => by simp [Value.ownBlock] at hk; omega)
                        have Hb6 := Lib.hid (Hbi.out.trans ((below_none10 hg6).mono hsi))
                        have Hown6 : Hid (w6.ownsRow wk.heap.size 3 1 (.slice (some ⟨g6, 0, none⟩) (j + 1) c6) (j + 1) (ints (zs.take (j + 1)).reverse)) := by
                          unfold Hid
                          rw [Hrt1.out, show ints (z :: (zs.take j).reverse) = .int .i64 z :: ints (zs.take j).reverse from rfl, Nat.add_comm j 1]
                          exact own_mono9 hown6 (by omega)
                        clear hg6 hgr6 hown6
                        rw [Nat.add_comm 1 j]))
            | fail)
          go_roundw
          case rel => exact ⟨j + 1, g6, c6, by omega, by go_num, rfl, Hown6.out, Hb6.out⟩
          case measure => simp [intOf]; omega
        · obtain rfl : j = m := Nat.le_antisymm hj (Nat.le_of_not_lt hjl)
          rw [Hrv.out] at hown
          have Hrow : Hid (wr.ownsRow wo.heap.size 3 1 (.slice (some ⟨gr, 0, none⟩) j cr) zs.reverse.length (ints zs.reverse)) := by
            unfold Hid; rw [Hzl.out]; exact own_mono9 hown (by omega)
          have hri2 := Hri.out.below hbi
          have hbo := hri2.1
          rw [hbl.out] at hbo
          have hone := rows_one10 hri2
          have hlen1 : (bs.map (·.1)).length = k * 1 := by rw [List.length_map, hbl.out]; omega
          have Hri2 := Lib.hid hri2
          have Hbi := Lib.hid (Hbr.out.trans (hbi.mono hsr))
          have hso : wo.heap.size ≤ wr.heap.size := by omega
          clear hown hri2 hbi
          go_wp2_with (first
            | (at_builtin
               refine wpList_append_own _ rfl (.tmp 48) (.tmp 49) 23 rfl wr.heap.size 26 j0 (.slice none 0 0) 1 24 Try.underlying23 Hj.out Hy0.out Hy1.out Hy2.out rfl (by decide) (.slice (some ⟨wr.heap.size, 0, none⟩) 1 1) 1 [.slice (some ⟨gr, 0, none⟩) j cr] rfl (own_newR10 wr _) ⟨gb, 0, none⟩ k cb (bs.map (·.1)) rfl hlen1 ((hbo.alloc _).cells (g := gb) rfl) hone (by unfold maxLen; omega) (by omega) (by simp) ?_
               go_must (intro v6 w6 hown6 hgr6 _
                        obtain ⟨g6, c6, rfl⟩ := ownsRow_form hown6 (by omega)
                        have hg6 : wr.grownBy w6 none := grown_own9 (only_alloc9 (World.grownBy.refl _ _) _) hgr6 (fun k hk => by simp [Value.ownBlock] at hk; omega)
                        have hb6 := below_none10 hg6
                        have Hb6 := Lib.hid (Hbi.out.trans (hb6.mono hso))
                        have Hin6 : Hid (RowsIn w6 wo.heap.size (.slice (some ⟨g6, 0, none⟩) (k + 1) c6) ((Value.slice (some ⟨gr, 0, none⟩) j cr, zs.reverse) :: bs)) := by
                          refine ⟨?_, fun r hr => ?_⟩
                          · rw [List.length_cons, hbl.out, Nat.add_comm k 1]
                            exact own_mono9 hown6 hso
                          · rcases List.mem_cons.1 hr with rfl | hr
                            · exact own_below9 Hrow.out hb6
                            · exact own_below9 (Hri2.out.2 r hr) hb6
                        clear hg6 hgr6 hown6 hb6
                        rw [Nat.add_comm 1 k]))
            | fail)
          go_roundw
          case rel => exact ⟨k + 1, (Value.slice (some ⟨gr, 0, none⟩) j cr, zs.reverse) :: bs, g6, c6, by omega, by go_num, rfl, by unfold Hid; rw [List.length_cons, hbl.out], by unfold Hid; rw [Hbk.out, ← hbs.out]; rfl, Hin6.out, Hb6.out⟩
          case measure => simp [intOf]; omega
    · obtain rfl : k = rs.length := Nat.le_antisymm hk (Nat.le_of_not_lt hlt)
      have Hv : Hid (synOk (bs.map (·.2)) = o) := by unfold Hid; rw [hbs.out, Hball.out, Hba.out]
      have Hrd : Hid (RdRows wr wr.heap.size (.slice (some ⟨gb, 0, none⟩) rs.length cb) bs) := Hri.out.rd
      have HB := Lib.hid (HB2.out.trans (Hbr.out.mono HB2.out.size))
      clear Hri Hbr
      go_wp2_with fail
      have hz := rd_zero10 wr
      have hbz : Below wr.heap.size wr (((wr.alloc (.cells #[.int .i64 0, .int .i64 0] 3)).alloc (.cells #[.int .i64 0, .int .i64 0] 3)).alloc (.cells #[.slice (some ⟨wr.heap.size, 0, none⟩) 2 2, .slice (some ⟨wr.heap.size + 1, 0, none⟩) 2 2] 26)) := (((Below.refl _ _).alloc (Nat.le_refl _) _).alloc (by simp) _).alloc (by simp; omega) _
      have hzs : (((wr.alloc (.cells #[.int .i64 0, .int .i64 0] 3)).alloc (.cells #[.int .i64 0, .int .i64 0] 3)).alloc (.cells #[.slice (some ⟨wr.heap.size, 0, none⟩) 2 2, .slice (some ⟨wr.heap.size + 1, 0, none⟩) 2 2] 26)).heap.size = wr.heap.size + 3 := by simp
      generalize ((wr.alloc (.cells #[.int .i64 0, .int .i64 0] 3)).alloc (.cells #[.int .i64 0, .int .i64 0] 3)).alloc (.cells #[.slice (some ⟨wr.heap.size, 0, none⟩) 2 2, .slice (some ⟨wr.heap.size + 1, 0, none⟩) 2 2] 26) = wz at *
      have Hz := Lib.hid (His.out _ _ _ _ hz (by omega))
      rw [show synOk ([((Value.slice (some ⟨wr.heap.size, 0, none⟩) 2 2, [0, 0]) : RW), (.slice (some ⟨wr.heap.size + 1, 0, none⟩) 2 2, [0, 0])].map (·.2)) = true from syn_zero2] at Hz
      have Hbz := Lib.hid hbz
      clear hz hbz
      refine Hz.out.mono ?_
      rintro e w3 ⟨rfl, hb3⟩
      have Hb3 := Lib.hid (Hbz.out.trans (hb3.mono (by omega)))
      clear hb3
      go_wp2_with fail
      have He := Lib.hid (His.out [] _ _ _ (rd_none10 (w3.alloc (.cells #[] 26)) 0 w3.heap.size) (Nat.zero_le _))
      rw [show synOk (([] : List RW).map (·.2)) = false from syn_none] at He
      refine He.out.mono ?_
      rintro e w4 ⟨rfl, hb4⟩
      have Hb4 := Lib.hid ((Hb3.out.alloc Hb3.out.size (.cells #[] 26)).trans (hb4.mono (by have := Hb3.out.size; simp; omega)))
      clear hb4
      have Hk := Lib.hid (His.out bs _ _ w4 (Hrd.out.kept Hb4.out) (Nat.le_refl _))
      rw [Hv.out] at Hk
      go_wp2_with fail
      refine Hk.out.mono ?_
      rintro e w5 ⟨rfl, hb5⟩
      have HB5 := Lib.hid ((HB.out.trans (Hb4.out.mono HB.out.size)).trans (hb5.mono (by have := HB.out.size; have := Hb4.out.size; omega)))
      clear hb5
      cases o
      all_goals
        go_wp2
        go_ret
        exact ⟨rfl, HB5.out⟩

set_option maxRecDepth 100000 in
theorem lifted (os : Os) (started : os.Started) (H : Type) (enc : TypeId × Value → H) :
    ReturnsInHanded {} Try.checked os 3 .any (Rows.fnSyndromeOkSpec.pre6 enc Try.prog Try.f3 Rows.fnSyndromeOkRow.domain false) (Rows.fnSyndromeOkSpec.post enc Try.prog Try.f3 false true false false) := by
  refine returnsInHanded_of_change (C := Try.checked) Try.own started (by kernel_rfl) Try.func3
    (ChangeSpec.witness6 (enc := enc) (C := Try.checked) false ⟨#[], #[.slice none 0 0], []⟩ 8 (by kernel_rfl) (by kernel_rfl) (by kernel_rfl) (by kernel_rfl)) ?_
  intro W base args ds gs before hval0 hW hcnd _
  have hval : ∀ (j : Nat) t v, Try.f3.params[j]? = some t → args[j]? = some v → Value.okWide Try.prog W .any base t v := hval0
  have hW' := hW
  obtain ⟨p, q, hA0, hV, rfl, hfz, hnd⟩ := hW
  have hA : DataW.TrodAll enc Try.prog W 0 (fun _ => true) true Try.f3.params.toList args.toList ds p := hA0
  rw [Try.params3] at hA hval
  obtain ⟨v0, vs0, d0, ds0, p0, q0, hargs, rfl, rfl, h0, r0⟩ := trodAll_cons hA
  obtain ⟨rfl, rfl, rfl⟩ := trodAll_nil r0
  obtain rfl : args = #[v0] := by cases args; simp_all
  obtain ⟨rfl, rfl⟩ := trodVars_none hV
  obtain ⟨a0, len0, cap0, rfl⟩ := okWide_slice Try.underlying22 (hval 0 22 v0 rfl rfl)
  have k0 := h0
  have lt0 : ∀ x ∈ p0, x.block < W.heap.size := by obtain ⟨m, hm⟩ := k0; exact DataW.trod_lt m _ _ _ hm
  obtain ⟨z0, w0⟩ : ∃ zs, IsRow .u8 W a0 len0 cap0 zs := by
    obtain ⟨fuel, hf⟩ := h0
    rcases open_ints Try.underlying22 Try.underlying5 (by kernel_rfl) hf with ⟨hcs, _⟩ | ⟨x, l, c, zs, hcs, _, hl, hm, hz, _, hcell, hwz⟩
    · simp [Value.cells] at hcs
      obtain ⟨rfl, rfl, rfl⟩ := hcs
      exact ⟨[], .inl ⟨rfl, rfl, rfl, rfl⟩⟩
    · simp [Value.cells] at hcs
      obtain ⟨rfl, rfl, rfl⟩ := hcs
      exact ⟨zs, .inr ⟨_, rfl, hl, hm, by simpa using hz, hcell, hwz⟩⟩
  clear hA0 hval0
  refine (walk _ _ W (RdBytes.of_row w0)).mono fun e W' ⟨he, bel⟩ => ?_
  subst he
  exact ⟨_, rfl, _, _, _, [], _, [], hW', trodAll_mk1 (shut_bool Try.underlying4 _), (trodAll_cons_mk (Below.trod Try.laidOut (by kernel_rfl) (of_decide_eq_true (by kernel_rfl)) k0 bel lt0) trodAll_mk0), rfl, bel.frame _, fun h => by cases h⟩

theorem closed : joinedFacts Try.pinned.checked.prog 3 Try.f3 Rows.fnSyndromeOkSpec Rows.fnSyndromeOkRow = true := by
  unfold joinedFacts
  exact (and_tt (and_tt (and_tt (and_tt (and_tt (and_tt (and_tt (and_tt (and_tt (and_tt (and_tt (and_tt (and_tt (and_tt (and_tt (and_tt (and_tt (and_tt (and_tt (and_tt (and_tt (and_tt (and_tt (and_tt (and_tt (and_tt (and_tt (and_tt (and_tt (and_tt (and_tt (by kernel_rfl) (by kernel_rfl)) (by kernel_rfl)) (by kernel_rfl)) (by kernel_rfl)) (by kernel_rfl)) (by kernel_rfl)) (by kernel_rfl)) (by kernel_rfl)) (by kernel_rfl)) (by kernel_rfl)) (by kernel_rfl)) (by kernel_rfl)) (by kernel_rfl)) (by kernel_rfl)) (by kernel_rfl)) (by kernel_rfl)) (by kernel_rfl)) (by kernel_rfl)) (by kernel_rfl)) (by kernel_rfl)) (by kernel_rfl)) (by kernel_rfl)) (by kernel_rfl)) (by kernel_rfl)) Try.mayEnter0) (lifted_tt Try.lifts0 rfl)) (make_tt Try.make0 rfl)) (by kernel_rfl)) (by kernel_rfl)) (by kernel_rfl)) (by kernel_rfl))
theorem over : Rows.fnSyndromeOkRow.holds Try.pinned (OpenSpec.ofChange Rows.fnSyndromeOkSpec) :=
  OpenClaim.holds_of_wide 3 Try.f3 rfl rfl rfl rfl rfl rfl rfl ⟨rfl, rfl, rfl, rfl, rfl⟩ rfl rfl rfl rfl rfl (by kernel_rfl) Try.func3 closed
    (of_decide_eq_true (by kernel_rfl)) (by unfold Func.isWrapper; first | (rw [if_pos (by decide +kernel)]; kernel_rfl) | (rw [if_neg (by decide +kernel)]; exact ⟨rfl, rfl⟩))
    (fun os started H enc _ => lifted os started H enc)

theorem proved : Rows.FnSyndromeOkSaid := over
end Go.Proofs.Ytnkgbolgcmjadaa.fnSyndromeOk

