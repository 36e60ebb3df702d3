/- Contracts of the reference's claims by kinds, and of rows of kinds. -/
import Derived.Test.YtobbbmcppmohoaaSpyS
namespace Go.Proofs.Ytobbbmcppmohoaa
open Go.RowKit Go.Joins
theorem spyV_no {zs : List Int} {s : List Cl} (h : kindsOk zs = false) : spyV zs s = false := by unfold spyV; rw [h]; rfl
theorem spyV_no2 {zs : List Int} {s : List Cl} (h : storyOk zs.length s = false) : spyV zs s = false := by unfold spyV; rw [h]; cases kindsOk zs <;> rfl
theorem says_take (zs : List Int) (qs : List QC) (j : Nat) (hj : j < qs.length) : ((qs.take (j + 1)).all fun q => saysT zs q.2) = (((qs.take j).all fun q => saysT zs q.2) && saysT zs (qs.getD j qc0).2) := by
  have e : qs.getD j qc0 = qs[j] := by simp [List.getD, hj]
  rw [List.take_succ_eq_append_getElem hj, List.all_append, e]; simp
theorem spyT_all (zs : List Int) (qs : List QC) : spyT zs (qs.map (·.2)) = ((qs.take qs.length).all fun q => saysT zs q.2) := by
  unfold spyT
  rw [List.take_length, List.all_map]; rfl
theorem spyT_bad {zs : List Int} {qs : List QC} {j : Nat} (hj : j < qs.length) (h : saysT zs (qs.getD j qc0).2 = false) : spyT zs (qs.map (·.2)) = false := by
  cases hs : spyT zs (qs.map (·.2)) with
  | false => rfl
  | true =>
    unfold spyT at hs
    rw [List.all_eq_true] at hs
    have e : qs.getD j qc0 = qs[j] := by simp [List.getD, hj]
    have := hs qs[j].2 (List.mem_map.2 ⟨_, List.getElem_mem hj, rfl⟩)
    rw [e, this] at h
    cases h
theorem story_at {p : Int} {qs : List QC} (h : storyOk p (qs.map (·.2)) = true) {j : Nat} (hj : j < qs.length) : claimOk p (qs.getD j qc0).2 = true := by
  have e : qs.getD j qc0 = qs[j] := by simp [List.getD, hj]
  rw [e]
  exact (storyOk_iff.1 h).1 _ (List.mem_map.2 ⟨_, List.getElem_mem hj, rfl⟩)
attribute [local irreducible] holds tabN tabV holdsV sameV followsV alwaysV matterV claimOk mayT mayV ctabV ctabN storyV storyOk storyN storyT ctermV ctermL saysT saysV spyT spyV kindsOk kwN kwV tabF kRow spiesN fewF rowsF
set_option maxRecDepth 100000 in
set_option maxHeartbeats 4000000 in
theorem specSpySays (zs : List Int) (k : Int) (ms : List (Int × Int)) (B : Nat) (a u : Value) (w : World) (hz : RdInts w B a zs) (hr : RdMarks w B u ms) (hB : B ≤ w.heap.size) :
    Calls Try.prog 27 #[a, .agg #[.int .i64 k, u]] w fun e w' => e = .returned (.bool (saysV zs (k, ms))) ∧ Below w.heap.size w w' := by
  obtain ⟨ao, cap, rfl, hal, ham, _⟩ : ∃ ao cap, a = .slice ao zs.length cap ∧ zs.length ≤ cap ∧ cap ≤ maxLen ∧ True := by
    obtain ⟨ao, cap, h1, h2, h3, _⟩ := hz; exact ⟨ao, cap, h1, h2, h3, trivial⟩
  unfold maxLen at ham
  have hk := fun w h => specKindsOk zs B (.slice ao zs.length cap) w h
  have hc := fun w h hB => specClaimOk (zs.length : Int) k ms B u w h hB
  cases hok : kindsOk zs with
  | false =>
    have Hf := Lib.hid (saysV_no (c := (k, ms)) hok)
    rw [hok] at hk
    have Hk := Lib.hid hk; clear hk hok hc
    go_enter Try.func27, Try.ntmps27
    go_upto_region 1 with fail
    obtain ⟨w1, hw1, n1, n2, hbw, hsz⟩ := new_two w (.int .i64 k) u TC
    rw [← hw1]
    have Hr1 := Lib.hid (hr.below (w' := w1) (fun q hq => hbw.block q (by omega)))
    have Hz1 := Lib.hid (hz.below (w' := w1) (fun q hq => hbw.block q (by omega)))
    have hB1 : B ≤ w1.heap.size := by omega
    have Hbw := Lib.hid hbw; clear hbw hw1 hr hz
    go_wp2_with fail
    refine (Hk.out _ Hz1.out).mono ?_
    rintro e w' ⟨rfl, rfl⟩
    go_wp2
    go_ret
    exact ⟨by rw [Hf.out]; rfl, Hbw.out⟩
  | true =>
  cases hcok : claimOk (zs.length : Int) (k, ms) with
  | false =>
    have Hf := Lib.hid (saysV_no2 (zs := zs) hcok)
    rw [hok] at hk
    rw [hcok] at hc
    have Hk := Lib.hid hk
    have Hc := Lib.hid hc
    clear hk hok hc hcok
    go_enter Try.func27, Try.ntmps27
    go_upto_region 1 with fail
    obtain ⟨w1, hw1, n1, n2, hbw, hsz⟩ := new_two w (.int .i64 k) u TC
    rw [← hw1]
    have Hr1 := Lib.hid (hr.below (w' := w1) (fun q hq => hbw.block q (by omega)))
    have Hz1 := Lib.hid (hz.below (w' := w1) (fun q hq => hbw.block q (by omega)))
    have hB1 : B ≤ w1.heap.size := by omega
    have Hbw := Lib.hid hbw; clear hbw hw1 hr hz
    go_wp2_with fail
    refine (Hk.out _ Hz1.out).mono ?_
    rintro e w' ⟨rfl, rfl⟩
    go_wp2_with fail
    refine (Hc.out _ Hr1.out hB1).mono ?_
    rintro e w2 ⟨rfl, hb2⟩
    have m1 := (hb2.cell (p := ⟨w.heap.size, 0, none⟩) hsz).trans n1
    have m2 := (hb2.cell (p := ⟨w.heap.size, 1, none⟩) hsz).trans n2
    have Hr2 := Lib.hid (Hr1.out.below (w' := w2) (fun q hq => hb2.block q (by omega)))
    have Hz2 := Lib.hid (Hz1.out.below (w' := w2) (fun q hq => hb2.block q (by omega)))
    have hB2 : B ≤ w2.heap.size := by have := hb2.size; omega
    have hsz2 : w.heap.size < w2.heap.size := by have := hb2.size; omega
    have Hb2 := Lib.hid (Hbw.out.trans (hb2.mono Hbw.out.size)); clear hb2 n1 n2
    go_wp2
    go_ret
    exact ⟨by rw [Hf.out]; rfl, Hb2.out⟩
  | true =>
    have Hf := Lib.hid (saysV_yes hok hcok)
    obtain ⟨K, rfl⟩ := Int.eq_ofNat_of_zero_le (claimOk_iff.1 hcok).1
    have hKl : K < zs.length := by have := (claimOk_iff.1 hcok).2.1; dsimp only at this; omega
    have hX : kwN zs < 2 ^ zs.length := kwN_lt zs
    have hX16 : kwN zs < 16 := Nat.lt_of_lt_of_le hX (two16 (kindsOk_iff.1 hok).2.2)
    have Hm := Lib.hid (fun w h hB => specMayT hcok (kwN zs) hX16 B u w h hB)
    have Hw := Lib.hid (fun w h => specKw zs (kindsOk_iff.1 hok).2.2 B (.slice ao zs.length cap) w h)
    rw [hok] at hk
    rw [hcok] at hc
    have Hk := Lib.hid hk
    have Hc := Lib.hid hc
    have hy2 : zs.getD K 0 = 2 → saysT zs ((K : Int), ms) = true := fun h => says_spy (c := ((K : Int), ms)) (by rw [Int.toNat_natCast]; exact h)
    have hn2 : zs.getD K 0 ≠ 2 → saysT zs ((K : Int), ms) = mayT zs.length ((K : Int), ms) (kwN zs) := fun h => says_else (c := ((K : Int), ms)) (by rw [Int.toNat_natCast]; exact h)
    clear hk hok hc hcok hX
    generalize saysT zs ((K : Int), ms) = o at *
    generalize mayT zs.length ((K : Int), ms) (kwN zs) = o2 at *
    generalize kwN zs = X at *
    go_enter Try.func27, Try.ntmps27
    go_upto_region 1 with fail
    obtain ⟨w1, hw1, n1, n2, hbw, hsz⟩ := new_two w (.int .i64 K) u TC
    rw [← hw1]
    have Hr1 := Lib.hid (hr.below (w' := w1) (fun q hq => hbw.block q (by omega)))
    have Hz1 := Lib.hid (hz.below (w' := w1) (fun q hq => hbw.block q (by omega)))
    have hB1 : B ≤ w1.heap.size := by omega
    have Hbw := Lib.hid hbw; clear hbw hw1 hr hz
    go_wp2_with fail
    refine (Hk.out _ Hz1.out).mono ?_
    rintro e w' ⟨rfl, rfl⟩
    go_wp2_with fail
    refine (Hc.out _ Hr1.out hB1).mono ?_
    rintro e w2 ⟨rfl, hb2⟩
    have m1 := (hb2.cell (p := ⟨w.heap.size, 0, none⟩) hsz).trans n1
    have m2 := (hb2.cell (p := ⟨w.heap.size, 1, none⟩) hsz).trans n2
    have Hr2 := Lib.hid (Hr1.out.below (w' := w2) (fun q hq => hb2.block q (by omega)))
    have Hz2 := Lib.hid (Hz1.out.below (w' := w2) (fun q hq => hb2.block q (by omega)))
    have hB2 : B ≤ w2.heap.size := by have := hb2.size; omega
    have hsz2 : w.heap.size < w2.heap.size := by have := hb2.size; omega
    have Hb2 := Lib.hid (Hbw.out.trans (hb2.mono Hbw.out.size)); clear hb2 n1 n2
    obtain ⟨b, off, hao, hb, hcell⟩ : ∃ b off, ao = some ⟨b, off, none⟩ ∧ b < B ∧ w2.cell? ⟨b, off + K, none⟩ = some (.int .i64 (zs.getD K 0)) := by
      obtain ⟨_, _, h1, _, _, h2⟩ := Hz2.out
      cases h1
      exact h2 K hKl
    subst hao
    by_cases hz : zs.getD K 0 = 2
    · have ho := hy2 hz
      subst ho
      rw [hz] at hcell
      clear hy2 hn2 hz
      go_upto_region 3 with fail
      first
        | go_region_with (fail)
        | go_quiet (fail)
        | fail
      all_goals go_wp2
      all_goals
        go_ret
        exact ⟨by rw [Hf.out]; rfl, by first | exact Hb2.out | exact below_drew1 Hb2.out | exact below_drewN Hb2.out _⟩
    · have ho := hn2 hz
      subst ho
      have hz2 : (zs.getD K 0 == 2) = false := by rw [beq_eq_false_iff_ne]; exact hz
      clear hy2 hn2 hz
      generalize zs.getD K 0 = z at *
      obtain ⟨au, cu, hu⟩ : ∃ ao cap, u = .slice ao ms.length cap := by obtain ⟨a, c, h, _⟩ := Hr2.out; exact ⟨a, c, h⟩
      subst hu
      go_upto_region 3 with fail
      go_region_held3 (fun w' => w'.cell? ⟨w.heap.size, 0, none⟩ = some (.int .i64 K) ∧ w'.cell? ⟨w.heap.size, 1, none⟩ = some (.slice au ms.length cu) ∧ w'.cell? ⟨b, off + K, none⟩ = some (.int .i64 z))
        (first | (refine ⟨?_, ?_, ?_⟩ <;> first | go_keep | assumption) | assumption)
        (first
          | (go_at_call 59
             (with_reducible refine (Hw.out _ ?_).mono ?_)
             · exact Hz2.out
             rintro e w' ⟨rfl, rfl⟩)
          | (go_at_call 64
             (with_reducible refine (Hm.out _ ?_ ?_).mono ?_)
             · exact Hr2.out
             · exact hB2
             rintro e w3 ⟨rfl, hb3'⟩
             go_must (have hb3 : Below w2.heap.size w2 w3 := by first | exact hb3' | exact below_undrewS hb3' | exact below_undrewN hb3'
                      clear hb3'
                      have q1 := (hb3.cell (p := ⟨w.heap.size, 0, none⟩) (by show w.heap.size < _; omega)).trans m1
                      have q2 := (hb3.cell (p := ⟨w.heap.size, 1, none⟩) (by show w.heap.size < _; omega)).trans m2
                      have q3 := (hb3.cell (p := ⟨b, off + K, none⟩) (by show b < _; omega)).trans hcell
                      have Hb3 := Lib.hid (Hb2.out.trans (hb3.mono Hb2.out.size))
                      clear hb3))
          | fail)
      all_goals go_wp2
      all_goals
        go_ret
        exact ⟨by rw [Hf.out]; rfl, by first | exact Hb3.out | exact below_drew1 Hb3.out | exact below_drewN Hb3.out _⟩
set_option maxRecDepth 100000 in
set_option maxHeartbeats 4000000 in
theorem specSpyStory (zs : List Int) (qs : List QC) (B : Nat) (a v : Value) (w : World) (hz : RdInts w B a zs) (hr : RdStory w B v qs) (hB : B ≤ w.heap.size) :
    Calls Try.prog 33 #[a, v] w fun e w' => e = .returned (.bool (spyV zs (qs.map (·.2)))) ∧ Below w.heap.size w w' := by
  obtain ⟨zo, zc, rfl, hzl, hzm, _⟩ : ∃ ao cap, a = .slice ao zs.length cap ∧ zs.length ≤ cap ∧ cap ≤ maxLen ∧ True := by
    obtain ⟨ao, cap, h1, h2, h3, _⟩ := hz; exact ⟨ao, cap, h1, h2, h3, trivial⟩
  have Hr := Lib.hid hr
  have Hz := Lib.hid hz
  obtain ⟨ao, cap, rfl, hal, ham, _, hac0⟩ := hr
  have hac := Lib.hid hac0; clear hac0
  unfold maxLen at ham hzm
  have hk := fun w h => specKindsOk zs B (.slice zo zs.length zc) w h
  have hs := fun w h hB => specStoryOk (zs.length : Int) qs B (.slice ao qs.length cap) w h hB
  cases hok : kindsOk zs with
  | false =>
    have Hf := Lib.hid (spyV_no (s := qs.map (·.2)) hok)
    rw [hok] at hk
    have Hk := Lib.hid hk; clear hk hok hs
    go_enter Try.func33, Try.ntmps33
    go_wp2_with fail
    refine (Hk.out _ Hz.out).mono ?_
    rintro e w' ⟨rfl, rfl⟩
    go_wp2
    go_ret
    exact ⟨by rw [Hf.out]; rfl, Below.refl _ _⟩
  | true =>
  cases hsok : storyOk (zs.length : Int) (qs.map (·.2)) with
  | false =>
    have Hf := Lib.hid (spyV_no2 (zs := zs) hsok)
    rw [hok] at hk
    rw [hsok] at hs
    have Hk := Lib.hid hk
    have Hs := Lib.hid hs
    clear hk hok hs hsok
    go_enter Try.func33, Try.ntmps33
    go_wp2_with fail
    refine (Hk.out _ Hz.out).mono ?_
    rintro e w' ⟨rfl, rfl⟩
    go_wp2_with fail
    refine (Hs.out _ Hr.out hB).mono ?_
    rintro e w2 ⟨rfl, hb2⟩
    have Hb2 := Lib.hid hb2; clear hb2
    go_wp2
    go_ret
    exact ⟨by rw [Hf.out]; rfl, Hb2.out⟩
  | true =>
    have Hf := Lib.hid (spyV_of hok hsok)
    have Hall := Lib.hid (spyT_all zs qs)
    have Hbad := Lib.hid (fun j hj h => spyT_bad (zs := zs) (qs := qs) (j := j) hj h)
    have Htake := Lib.hid (says_take zs qs)
    have Hsay := Lib.hid (fun j (hj : j < qs.length) => saysV_yes hok (story_at hsok hj))
    rw [hok] at hk
    rw [hsok] at hs
    have Hk := Lib.hid hk
    have Hs := Lib.hid hs
    clear hk hok hs hsok
    obtain ⟨wo, rfl⟩ : ∃ wo : World, wo = w := ⟨_, rfl⟩
    go_enter Try.func33, Try.ntmps33
    go_wp2_with fail
    refine (Hk.out _ Hz.out).mono ?_
    rintro e w' ⟨rfl, rfl⟩
    go_wp2_with fail
    refine (Hs.out _ Hr.out hB).mono ?_
    rintro e w2 ⟨rfl, hb2⟩
    have hs2 := hb2.size
    have Hb2 := Lib.hid hb2; clear hb2
    go_wp2_with fail
    go_loopw [5] (fun i wr => ∃ j : Nat, j ≤ qs.length ∧ i = .int .i64 j ∧ Hid (((qs.take j).all fun q => saysT zs q.2) = true) ∧ Below wo.heap.size wo wr) (fun i _ => qs.length - (intOf i).toNat)
    case atStart => exact ⟨0, Nat.zero_le _, rfl, rfl, Hb2.out⟩
    case round =>
      obtain ⟨j, hj, rfl, hall, hbr⟩ := hrel
      by_cases hlt : j < qs.length
      · obtain ⟨b, off, rfl, hb, hc1, hc2⟩ := hac.out j hlt
        rw [← hbr.cell (p := ⟨b, _, none⟩) (show b < _ by omega)] at hc1 hc2
        have hBr : B ≤ wr.heap.size := by have := hbr.size; omega
        have Hm := Lib.hid ((Hr.out.get hlt).1.below (w' := wr) (fun q hq => hbr.block q (by omega)))
        have Hzr := Lib.hid (Hz.out.below (w' := wr) (fun q hq => hbr.block q (by omega)))
        have Hsucc := Lib.hid (Htake.out j hlt)
        have Hno := Lib.hid (fun h => Hbad.out j hlt h)
        have hsv := Hsay.out j hlt
        generalize qs.getD j qc0 = q at *
        obtain ⟨u, k, ms⟩ := q
        have hcl := fun w hz h hB => specSpySays zs k ms B (.slice zo zs.length zc) u w hz h hB
        have Hbr := Lib.hid hbr
        clear hbr
        dsimp only at hc1 hc2
        have Hm' : Hid (RdMarks wr B u ms) := Hm.out
        have Hsucc' : Hid (((qs.take (j + 1)).all fun q => saysT zs q.2) = (((qs.take j).all fun q => saysT zs q.2) && saysT zs (k, ms))) := Hsucc.out
        have Hno' : Hid (saysT zs (k, ms) = false → spyT zs (qs.map (·.2)) = false) := Hno.out
        have hsv' : saysV zs (k, ms) = saysT zs (k, ms) := hsv
        rw [hsv'] at hcl
        clear Hm Hsucc Hno hsv hsv'
        cases hok : saysT zs (k, ms) with
        | false =>
          have Hf2 := Lib.hid (Hno'.out hok)
          rw [hok] at hcl
          have Hc := Lib.hid hcl; clear hcl hok
          go_wp2_with fail
          refine (Hc.out _ Hzr.out Hm'.out hBr).mono ?_
          rintro e w3 ⟨rfl, hb3⟩
          have Hb3 := Lib.hid (Hbr.out.trans (hb3.mono Hbr.out.size)); clear hb3
          go_wp2
          go_ret
          exact ⟨by rw [Hf.out, Hf2.out]; rfl, Hb3.out⟩
        | true =>
          have Hs1 : Hid (((qs.take (j + 1)).all fun q => saysT zs q.2) = true) := by
            unfold Hid
            rw [Hsucc'.out, hall.out, hok]; rfl
          rw [hok] at hcl
          have Hc := Lib.hid hcl; clear hcl hok
          go_wp2_with fail
          refine (Hc.out _ Hzr.out Hm'.out hBr).mono ?_
          rintro e w3 ⟨rfl, hb3⟩
          have Hb3 := Lib.hid (Hbr.out.trans (hb3.mono Hbr.out.size)); clear hb3
          go_wp2
          go_roundw
          case rel => exact ⟨j + 1, by omega, by go_num, Hs1, Hb3.out⟩
          case measure => simp [intOf]; omega
      · obtain rfl : j = qs.length := by omega
        have Hbr := Lib.hid hbr; clear hbr
        go_wp2
        go_ret
        exact ⟨by rw [Hf.out, Hall.out, hall.out]; rfl, Hbr.out⟩
set_option maxRecDepth 100000 in
set_option maxHeartbeats 4000000 in
theorem specRows (P : Nat) (h4 : P ≤ 4) (w : World) :
    Calls Try.prog 73 #[.int .i64 P] w fun e w' => e = .returned (.int .i64 ((3 ^ P : Nat) : Int)) ∧ w = w' := by
  have hP : P = 0 ∨ P = 1 ∨ P = 2 ∨ P = 3 ∨ P = 4 := by omega
  go_enter Try.func73, Try.ntmps73
  go_wp2
  go_loop [3, 4] (fun t i => ∃ k : Nat, k ≤ P ∧ i = .int .i64 k ∧ t = .int .i64 ((3 ^ k : Nat) : Int)) (fun _ i => P - (intOf i).toNat)
  case atStart => exact ⟨0, Nat.zero_le _, rfl, rfl⟩
  case round =>
    obtain ⟨k, hk, rfl, rfl⟩ := hrel
    by_cases hlt : k < P
    · have hs : (3 ^ (k + 1) : Nat) = 3 ^ k * 3 := Nat.pow_succ ..
      have hb : 3 ^ k ≤ 81 := Nat.le_trans (Nat.pow_le_pow_right (by decide) (show k ≤ 4 by omega)) (by decide)
      have Hs := Lib.hid hs
      clear hs
      generalize 3 ^ k = T at *
      go_wp2
      go_round
      case rel => exact ⟨k + 1, by omega, by go_num, by rw [Hs.out]; go_num⟩
      case measure => simp [intOf]; omega
    · obtain rfl : k = P := by omega
      go_wp2
      go_ret
      exact ⟨rfl, rfl⟩
/-- how many spies there are among the first kinds -/
def spK (zs : List Int) (k : Nat) : Nat := spiesN (zs.take k)
theorem spK_succ {zs : List Int} {k : Nat} (hk : k < zs.length) : spK zs (k + 1) = if zs.getD k 0 = 2 then spK zs k + 1 else spK zs k := by
  have e : zs.getD k 0 = zs[k] := by simp [List.getD, hk]
  unfold spK spiesN
  rw [List.take_succ_eq_append_getElem hk, List.countP_append, e]
  by_cases h : zs[k] = 2
  · rw [if_pos h]; simp [h]
  · rw [if_neg h]; simp [h]
theorem spK_le (zs : List Int) (k : Nat) : spK zs k ≤ k := by
  unfold spK spiesN
  have := List.countP_le_length (p := fun z => decide (z = (2 : Int))) (l := zs.take k)
  rw [List.length_take] at this
  omega
theorem spK_zero (zs : List Int) : spK zs 0 = 0 := by unfold spK spiesN; rfl
theorem spK_all (zs : List Int) : spK zs zs.length = spiesN zs := by unfold spK; rw [List.take_length]
attribute [local irreducible] spK
set_option maxRecDepth 100000 in
set_option maxHeartbeats 4000000 in
theorem specSpies (zs : List Int) (_h4 : zs.length ≤ 4) (B : Nat) (v : Value) (w : World) (hr : RdInts w B v zs) :
    Calls Try.prog 75 #[v] w fun e w' => e = .returned (.int .i64 (spiesN zs)) ∧ w = w' := by
  obtain ⟨ao, cap, rfl, hl, hm, hc0⟩ := hr
  have hc := Lib.hid hc0; clear hc0
  unfold maxLen at hm
  have Hend := Lib.hid (spK_all zs)
  go_enter Try.func75, Try.ntmps75
  go_wp2
  go_loop [3, 4] (fun t i => ∃ k : Nat, k ≤ zs.length ∧ i = .int .i64 k ∧ t = .int .i64 (spK zs k)) (fun _ i => zs.length - (intOf i).toNat)
  case atStart => exact ⟨0, Nat.zero_le _, rfl, by rw [spK_zero]; rfl⟩
  case round =>
    obtain ⟨k, hk, rfl, rfl⟩ := hrel
    by_cases hlt : k < zs.length
    · obtain ⟨b, off, rfl, hb, hcell⟩ := hc.out k hlt
      have hs := spK_succ hlt
      have hle := spK_le zs k
      generalize spK zs k = T at *
      by_cases hz : zs.getD k 0 = 2
      · rw [if_pos hz] at hs
        rw [hz] at hcell
        have Hs := Lib.hid hs
        clear hs hz
        go_wp2
        go_round
        case rel => exact ⟨k + 1, by omega, by go_num, by rw [Hs.out]; go_num⟩
        case measure => simp [intOf]; omega
      · rw [if_neg hz] at hs
        have Hs := Lib.hid hs
        have hz1 : (zs.getD k 0 == 2) = false := by rw [beq_eq_false_iff_ne]; exact hz
        clear hs hz
        generalize zs.getD k 0 = z at *
        go_wp2
        go_round
        case rel => exact ⟨k + 1, by omega, by go_num, by rw [Hs.out]⟩
        case measure => simp [intOf]; omega
    · obtain rfl : k = zs.length := by omega
      go_wp2
      go_ret
      exact ⟨by rw [← Hend.out]; rfl, rfl⟩
set_option maxRecDepth 100000 in
set_option maxHeartbeats 4000000 in
theorem specKinds (P n : Nat) (h4 : P ≤ 4) (hn : n ≤ 1000) (w : World) :
    Calls Try.prog 74 #[.int .i64 P, .int .i64 n] w fun e w' => ∃ g cap, e = .returned (.slice (some ⟨g, 0, none⟩) P cap) ∧ w'.ownsRow w.heap.size 3 1 (.slice (some ⟨g, 0, none⟩) P cap) P (ints (kRow P n)) ∧ Below w.heap.size w w' := by
  obtain ⟨i0, hi, hz0, hz1, hz2⟩ := info_parts Try.info3
  have Hi := Lib.hid hi; clear hi
  have Hz0 := Lib.hid hz0; clear hz0
  have Hz1 := Lib.hid hz1; clear hz1
  have Hz2 := Lib.hid hz2; clear hz2
  obtain ⟨wo, rfl⟩ : ∃ wo : World, wo = w := ⟨_, rfl⟩
  have hown0 : (wo.alloc (.cells #[] 3)).ownsRow wo.heap.size 3 1 (.slice (some ⟨wo.heap.size, 0, none⟩) 0 0) 0 (ints []) := World.ownsRow_made _ _ 0 (Nat.le_refl _) (Nat.zero_le _) rfl
  have hb0 : Below wo.heap.size wo (wo.alloc (.cells #[] 3)) := (Below.refl _ _).alloc (Nat.le_refl _) _
  go_enter Try.func74, Try.ntmps74
  go_wp2
  go_loopw [1, 5, 6] (fun x v i wr => ∃ (k g cap : Nat), k ≤ P ∧ i = .int .i64 k ∧ x = .int .i64 ((n / 3 ^ k : Nat) : Int) ∧ v = .slice (some ⟨g, 0, none⟩) k cap ∧ wr.ownsRow wo.heap.size 3 1 v k (ints (kRow k n)) ∧ Below wo.heap.size wo wr) (fun _ _ i _ => P - (intOf i).toNat)
  case atStart => exact ⟨0, _, _, Nat.zero_le _, rfl, by simp, rfl, by unfold kRow; exact hown0, hb0⟩
  case round =>
    clear hown0 hb0
    obtain ⟨k, g, cap, hk, rfl, rfl, rfl, hown, hbel⟩ := hrel
    by_cases hlt : k < P
    · have hs := kRow_succ k n
      have hd : n / 3 ^ (k + 1) = n / 3 ^ k / 3 := by rw [Nat.pow_succ, ← Nat.div_div_eq_div_mul]
      have hle : n / 3 ^ k ≤ 1000 := Nat.le_trans (Nat.div_le_self _ _) hn
      generalize n / 3 ^ k = m at *
      have hm1 : (m : Int).tmod 3 = ((m % 3 : Nat) : Int) := by rw [Int.tmod_eq_emod_of_nonneg (by omega)]; omega
      have hm2 : (m : Int).tdiv 3 = ((m / 3 : Nat) : Int) := by rw [Int.tdiv_eq_ediv_of_nonneg (by omega)]; omega
      have hm3 : (m : Int) % 3 = ((m % 3 : Nat) : Int) := by omega
      have hm4 : (m : Int) / 3 = ((m / 3 : Nat) : Int) := by omega
      have Hs : Hid (ints (kRow (k + 1) n) = ints (kRow k n) ++ [.int .i64 ((m % 3 : Nat) : Int)]) := by
        unfold Hid; rw [hs]; simp [ints]
      have Hd := Lib.hid hd
      have hr3 : m % 3 ≤ 2 := by omega
      have hq3 : m / 3 ≤ 1000 := by omega
      clear hs hd
      generalize m % 3 = r at *
      generalize m / 3 = q at *
      go_wp2_with (first
        | (at_builtin; refine wpList_append_own _ rfl _ _ 23 rfl wo.heap.size 3 i0 (.int .i64 0) 1 8 Try.underlying23 Hi.out Hz0.out Hz1.out Hz2.out rfl (by decide) _ _ _ rfl (hown.alloc _) ⟨wr.heap.size, 0, none⟩ 1 1 [.int .i64 (r : Int)] rfl rfl (news1 _ _ rfl _ _) (by simp [Value.oneCell']) (by unfold maxLen; omega) (by omega) (by have := hbel.size; simp; omega) ?_
           go_must (intro v6 w6 hown6 hgr6 _
                    obtain ⟨g6, c6, rfl⟩ := ownsRow_form hown6 (by omega)
                    have hb6 : Below wo.heap.size wo w6 := (hbel.alloc hbel.size _).grown hgr6 (by simp; have := hbel.size; omega) (fun k hk => (hown.lt k hk).1)
                    have Hb6 := Lib.hid hb6
                    have Hown6 := Lib.hid hown6
                    clear hb6 hown6 hgr6))
        | fail)
      go_roundw
      case rel => exact ⟨k + 1, g6, c6, by omega, by go_num, by rw [Hd.out], rfl, by rw [Hs.out]; exact Hown6.out, Hb6.out⟩
      case measure => simp [intOf]; omega
    · obtain rfl : k = P := by omega
      have Hbel := Lib.hid hbel
      have Hown := Lib.hid hown
      clear hbel hown
      go_wp2
      go_ret
      exact ⟨g, cap, rfl, Hown.out, Hbel.out⟩
theorem kRow_rd {w : World} {base g cap P n : Nat} (h : w.ownsRow base 3 1 (.slice (some ⟨g, 0, none⟩) P cap) P (ints (kRow P n))) : RdInts w w.heap.size (.slice (some ⟨g, 0, none⟩) P cap) (kRow P n) := by
  have e : (kRow P n).length = P := kRow_len P n
  refine RdInts.of_own (e := 3) (base := base) ?_
  rw [e]
  exact h
set_option maxRecDepth 100000 in
set_option maxHeartbeats 4000000 in
theorem specFewestSpies (p : Int) (qs : List QC) (B : Nat) (v : Value) (w : World) (hr : RdStory w B v qs) (hB : B ≤ w.heap.size) :
    Calls Try.prog 40 #[.int .i64 p, v] w fun e w' => e = .returned (.int .i64 (fewV p (qs.map (·.2)))) ∧ Below w.heap.size w w' := by
  obtain ⟨ao, cap, rfl, _⟩ : ∃ ao cap, v = .slice ao qs.length cap ∧ True := by
    obtain ⟨ao, cap, h1, _⟩ := hr; exact ⟨ao, cap, h1, trivial⟩
  have hs := fun w h hB => specStoryOk p qs B (.slice ao qs.length cap) w h hB
  cases hsok : storyOk p (qs.map (·.2)) with
  | false =>
    have Hf : Hid (fewV p (qs.map (·.2)) = -1) := by unfold Hid fewV; rw [hsok]; rfl
    rw [hsok] at hs
    have Hs := Lib.hid hs
    clear hs hsok
    go_enter Try.func40, Try.ntmps40
    go_wp2_with fail
    refine (Hs.out _ hr hB).mono ?_
    rintro e w2 ⟨rfl, hb2⟩
    have Hb2 := Lib.hid hb2; clear hb2
    go_wp2
    go_ret
    exact ⟨by rw [Hf.out]; rfl, Hb2.out⟩
  | true =>
    obtain ⟨_, hp, _⟩ := storyOk_iff.1 hsok
    obtain ⟨h1, h4⟩ : 1 ≤ p ∧ p ≤ 4 := by simpa [pOk] using hp
    obtain ⟨P, rfl⟩ := Int.eq_ofNat_of_zero_le (show 0 ≤ p by omega)
    obtain ⟨F, hF⟩ : ∃ F : List Int → Bool, F = fun zs => spyV zs (qs.map (·.2)) := ⟨_, rfl⟩
    have Hf : Hid (fewV (P : Int) (qs.map (·.2)) = (fewF P F (3 ^ P) : Int)) := by unfold Hid fewV; rw [hsok, hF]; rfl
    have HF : Hid (∀ zs, spyV zs (qs.map (·.2)) = F zs) := fun zs => by rw [hF]
    have hN : 3 ^ P ≤ 81 := Nat.le_trans (Nat.pow_le_pow_right (by decide) (show P ≤ 4 by omega)) (by decide)
    have Hrows := Lib.hid (fun w => specRows P (by omega) w)
    have Hkin := Lib.hid (fun n hn w => specKinds P n (by omega) hn w)
    have hP4 : P ≤ 4 := by omega
    rw [hsok] at hs
    have Hs := Lib.hid hs
    have Hr := Lib.hid hr
    clear hs hsok hF hp hr h1 h4
    generalize 3 ^ P = N at *
    obtain ⟨wo, rfl⟩ : ∃ wo : World, wo = w := ⟨_, rfl⟩
    go_enter Try.func40, Try.ntmps40
    go_wp2_with fail
    refine (Hs.out _ Hr.out hB).mono ?_
    rintro e w2 ⟨rfl, hb2⟩
    have Hb2 := Lib.hid hb2; clear hb2
    go_wp2_with fail
    go_loopw [5, 6, 7] (fun b i _ wr => ∃ j : Nat, j ≤ N ∧ i = .int .i64 j ∧ b = .int .i64 (fewF P F j) ∧ Below wo.heap.size wo wr) (fun _ i _ _ => N - (intOf i).toNat)
    case atStart => exact ⟨0, Nat.zero_le _, rfl, by unfold fewF; rfl, Hb2.out⟩
    case round =>
      obtain ⟨j, hj, rfl, rfl, hbr⟩ := hrel
      have hsr := hbr.size
      have Hbr := Lib.hid hbr
      clear hbr
      go_wp2_with fail
      refine (Hrows.out _).mono ?_
      rintro e w' ⟨rfl, rfl⟩
      by_cases hlt : j < N
      · have hstep : fewF P F (j + 1) = if F (kRow P j) then min (fewF P F j) (spiesN (kRow P j)) else fewF P F j := by rw [fewF]
        have hle := few_le_p P F j
        have hsl : spiesN (kRow P j) ≤ P := by
          have := List.countP_le_length (p := fun z => decide (z = (2 : Int))) (l := kRow P j)
          rw [kRow_len] at this
          unfold spiesN; exact this
        go_wp2_with fail
        refine (Hkin.out j (by omega) _).mono ?_
        rintro e w3 ⟨g, c, rfl, hown, hb3⟩
        have Hz3 := Lib.hid (kRow_rd hown)
        have hlk := kRow_len P j
        have Hr3 := Lib.hid ((Hr.out.mono hB).below (w' := w3) (fun q hq => (hb3.block q (by omega)).trans (Hbr.out.block q hq)))
        have Hb3 := Lib.hid (Hbr.out.trans (hb3.mono hsr))
        have hs3 := hb3.size
        have hsp := specSpyStory (kRow P j) qs w3.heap.size _ _ w3 Hz3.out (Hr3.out.mono (by omega)) (Nat.le_refl _)
        have Hsp2 := Lib.hid (fun w h => specSpies (kRow P j) (by rw [hlk]; exact hP4) w3.heap.size (.slice (some ⟨g, 0, none⟩) P c) w h)
        rw [HF.out] at hsp
        have Hsp := Lib.hid hsp
        clear hown hb3 hsp hlk
        generalize fewF P F j = T at *
        generalize spiesN (kRow P j) = S at *
        cases hFj : F (kRow P j) with
        | false =>
          rw [hFj] at Hsp hstep
          have Hst := Lib.hid hstep
          clear hstep hFj
          go_wp2_with fail
          refine Hsp.out.mono ?_
          rintro e w4 ⟨rfl, hb4⟩
          have Hb4 := Lib.hid (Hb3.out.trans (hb4.mono Hb3.out.size))
          clear hb4
          go_wp2
          go_roundw
          case rel => exact ⟨j + 1, by omega, by go_num, by rw [Hst.out, if_neg (by simp)], Hb4.out⟩
          case measure => simp [intOf]; omega
        | true =>
          rw [hFj, if_pos rfl] at hstep
          rw [hFj] at Hsp
          have Hst := Lib.hid hstep
          clear hstep hFj
          go_wp2_with fail
          refine Hsp.out.mono ?_
          rintro e w4 ⟨rfl, hb4⟩
          have Hz4 := Lib.hid (Hz3.out.below (w' := w4) (fun q hq => hb4.block q (by omega)))
          have Hb4 := Lib.hid (Hb3.out.trans (hb4.mono Hb3.out.size))
          clear hb4
          go_wp2_with fail
          refine (Hsp2.out _ Hz4.out).mono ?_
          rintro e w' ⟨rfl, rfl⟩
          go_wp2
          go_roundw
          case rel => exact ⟨j + 1, by omega, by go_num, by rw [Hst.out]; go_num, Hb4.out⟩
          case measure => simp [intOf]; omega
      · obtain rfl : j = N := by omega
        go_wp2
        go_ret
        exact ⟨by rw [Hf.out]; rfl, Hbr.out⟩
set_option maxRecDepth 100000 in
set_option maxHeartbeats 4000000 in
theorem specSpyRows (p q : Int) (qs : List QC) (B : Nat) (v : Value) (w : World) (hr : RdStory w B v qs) (hB : B ≤ w.heap.size) :
    Calls Try.prog 45 #[.int .i64 p, v, .int .i64 q] w fun e w' => e = .returned (.int .i64 (rowsV p (qs.map (·.2)) q)) ∧ Below w.heap.size w w' := by
  obtain ⟨ao, cap, rfl, _⟩ : ∃ ao cap, v = .slice ao qs.length cap ∧ True := by
    obtain ⟨ao, cap, h1, _⟩ := hr; exact ⟨ao, cap, h1, trivial⟩
  have hs := fun w h hB => specStoryOk p qs B (.slice ao qs.length cap) w h hB
  cases hsok : storyOk p (qs.map (·.2)) with
  | false =>
    have Hf : Hid (rowsV p (qs.map (·.2)) q = -1) := by unfold Hid rowsV; rw [hsok]; rfl
    rw [hsok] at hs
    have Hs := Lib.hid hs
    clear hs hsok
    go_enter Try.func45, Try.ntmps45
    go_wp2_with fail
    refine (Hs.out _ hr hB).mono ?_
    rintro e w2 ⟨rfl, hb2⟩
    have Hb2 := Lib.hid hb2; clear hb2
    go_wp2
    go_ret
    exact ⟨by rw [Hf.out]; rfl, Hb2.out⟩
  | true =>
  have H1 : Hid (decide (0 ≤ q ∧ q ≤ p) = decide (0 ≤ q ∧ q ≤ p)) := rfl
  cases hq : decide (0 ≤ q ∧ q ≤ p) with
  | false =>
    have Hf : Hid (rowsV p (qs.map (·.2)) q = -1) := by unfold Hid rowsV; rw [hsok, hq]; rfl
    have Hq := Lib.hid hq.symm
    rw [hsok] at hs
    have Hs := Lib.hid hs
    clear hs hsok H1 hq
    go_enter Try.func45, Try.ntmps45
    go_wp2_with fail
    refine (Hs.out _ hr hB).mono ?_
    rintro e w2 ⟨rfl, hb2⟩
    have Hb2 := Lib.hid hb2; clear hb2
    go_wp2_with fail
    refine (specL1In _ _ _ false Hq _).mono ?_
    rintro e w' ⟨rfl, rfl⟩
    go_wp2
    go_ret
    exact ⟨by rw [Hf.out]; rfl, Hb2.out⟩
  | true =>
    obtain ⟨_, hp, _⟩ := storyOk_iff.1 hsok
    obtain ⟨h1, h4⟩ : 1 ≤ p ∧ p ≤ 4 := by simpa [pOk] using hp
    obtain ⟨hq0, hqp⟩ := of_decide_eq_true hq
    obtain ⟨P, rfl⟩ := Int.eq_ofNat_of_zero_le (show 0 ≤ p by omega)
    obtain ⟨Q, rfl⟩ := Int.eq_ofNat_of_zero_le hq0
    obtain ⟨F, hF⟩ : ∃ F : List Int → Bool, F = fun zs => spyV zs (qs.map (·.2)) := ⟨_, rfl⟩
    have Hf : Hid (rowsV (P : Int) (qs.map (·.2)) (Q : Int) = (rowsF P F Q (3 ^ P) : Int)) := by unfold Hid rowsV; rw [hsok, hF, hq]; rfl
    have HF : Hid (∀ zs, spyV zs (qs.map (·.2)) = F zs) := fun zs => by rw [hF]
    have hN : 3 ^ P ≤ 81 := Nat.le_trans (Nat.pow_le_pow_right (by decide) (show P ≤ 4 by omega)) (by decide)
    have Hrows := Lib.hid (fun w => specRows P (by omega) w)
    have Hkin := Lib.hid (fun n hn w => specKinds P n (by omega) hn w)
    have hP4 : P ≤ 4 := by omega
    have Hq := Lib.hid hq.symm
    rw [hsok] at hs
    have Hs := Lib.hid hs
    have Hr := Lib.hid hr
    clear hs hsok hF hp hr h1 h4 H1 hq hq0
    have hQ4 : Q ≤ 4 := by omega
    generalize 3 ^ P = N at *
    obtain ⟨wo, rfl⟩ : ∃ wo : World, wo = w := ⟨_, rfl⟩
    go_enter Try.func45, Try.ntmps45
    go_wp2_with fail
    refine (Hs.out _ Hr.out hB).mono ?_
    rintro e w2 ⟨rfl, hb2⟩
    have Hb2 := Lib.hid hb2; clear hb2
    go_wp2_with fail
    refine (specL1In _ _ _ true Hq _).mono ?_
    rintro e w' ⟨rfl, rfl⟩
    go_wp2_with fail
    go_loopw [7, 8, 9] (fun b i _ wr => ∃ j : Nat, j ≤ N ∧ i = .int .i64 j ∧ b = .int .i64 (rowsF P F Q j) ∧ rowsF P F Q j ≤ j ∧ Below wo.heap.size wo wr) (fun _ i _ _ => N - (intOf i).toNat)
    case atStart => exact ⟨0, Nat.zero_le _, rfl, by unfold rowsF; rfl, by unfold rowsF; exact Nat.le_refl _, Hb2.out⟩
    case round =>
      obtain ⟨j, hj, rfl, rfl, hrj, hbr⟩ := hrel
      have hsr := hbr.size
      have Hbr := Lib.hid hbr
      clear hbr
      go_wp2_with fail
      refine (Hrows.out _).mono ?_
      rintro e w' ⟨rfl, rfl⟩
      by_cases hlt : j < N
      · have hstep : rowsF P F Q (j + 1) = rowsF P F Q j + if spiesN (kRow P j) = Q ∧ F (kRow P j) = true then 1 else 0 := by rw [rowsF]
        have hsl : spiesN (kRow P j) ≤ P := by
          have := List.countP_le_length (p := fun z => decide (z = (2 : Int))) (l := kRow P j)
          rw [kRow_len] at this
          unfold spiesN; exact this
        go_wp2_with fail
        refine (Hkin.out j (by omega) _).mono ?_
        rintro e w3 ⟨g, c, rfl, hown, hb3⟩
        have Hz3 := Lib.hid (kRow_rd hown)
        have hlk := kRow_len P j
        have Hr3 := Lib.hid ((Hr.out.mono hB).below (w' := w3) (fun q hq => (hb3.block q (by omega)).trans (Hbr.out.block q hq)))
        have Hb3 := Lib.hid (Hbr.out.trans (hb3.mono hsr))
        have hs3 := hb3.size
        have hsp := specSpyStory (kRow P j) qs w3.heap.size _ _ w3 Hz3.out (Hr3.out.mono (by omega)) (Nat.le_refl _)
        have Hsp2 := Lib.hid (fun w h => specSpies (kRow P j) (by rw [hlk]; exact hP4) w3.heap.size (.slice (some ⟨g, 0, none⟩) P c) w h)
        rw [HF.out] at hsp
        have Hsp := Lib.hid hsp
        clear hown hb3 hsp hlk
        generalize hT : rowsF P F Q j = T at *
        clear hT
        generalize spiesN (kRow P j) = S at *
        generalize F (kRow P j) = fj at *
        go_wp2_with fail
        refine (Hsp2.out _ Hz3.out).mono ?_
        rintro e w' ⟨rfl, rfl⟩
        by_cases hSQ : S = Q
        · subst hSQ
          cases fj with
          | false =>
            rw [if_neg (fun h => by cases h.2)] at hstep
            have Hst := Lib.hid hstep
            clear hstep
            go_wp2_with fail
            refine Hsp.out.mono ?_
            rintro e w4 ⟨rfl, hb4⟩
            have Hb4 := Lib.hid (Hb3.out.trans (hb4.mono Hb3.out.size))
            clear hb4
            go_wp2
            go_roundw
            case rel => exact ⟨j + 1, by omega, by go_num, by rw [Hst.out, Nat.add_zero], by rw [Hst.out]; omega, Hb4.out⟩
            case measure => simp [intOf]; omega
          | true =>
            rw [if_pos ⟨rfl, rfl⟩] at hstep
            have Hst := Lib.hid hstep
            clear hstep
            go_wp2_with fail
            refine Hsp.out.mono ?_
            rintro e w4 ⟨rfl, hb4⟩
            have Hb4 := Lib.hid (Hb3.out.trans (hb4.mono Hb3.out.size))
            clear hb4
            go_wp2
            go_roundw
            case rel => exact ⟨j + 1, by omega, by go_num, by rw [Hst.out]; go_num, by rw [Hst.out]; omega, Hb4.out⟩
            case measure => simp [intOf]; omega
        · rw [if_neg (fun h => hSQ h.1)] at hstep
          have Hst := Lib.hid hstep
          have hne : ((S : Int) == (Q : Int)) = false := by rw [beq_eq_false_iff_ne]; omega
          clear hstep hSQ
          go_wp2
          go_roundw
          case rel => exact ⟨j + 1, by omega, by go_num, by rw [Hst.out, Nat.add_zero], by rw [Hst.out]; omega, Hb3.out⟩
          case measure => simp [intOf]; omega
      · obtain rfl : j = N := by omega
        go_wp2
        go_ret
        exact ⟨by rw [Hf.out]; rfl, Hbr.out⟩
end Go.Proofs.Ytobbbmcppmohoaa
