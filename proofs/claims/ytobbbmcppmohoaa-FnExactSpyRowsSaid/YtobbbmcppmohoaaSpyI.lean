/- Contracts of the program's functions of spies. -/
import Derived.Test.YtobbbmcppmohoaaSpyT
import Derived.Test.YtobbbmcppmohoaaClaimI
import Derived.Deep.OwnRows
namespace Go.Proofs.Ytobbbmcppmohoaa
open Go.RowKit Go.Joins
theorem kinds_pre {zs : List Int} (h : pOk zs.length = false) : kindsOk zs = false := by
  cases hk : kindsOk zs with
  | false => rfl
  | true =>
    obtain ⟨_, h1, h2⟩ := kindsOk_iff.1 hk
    rw [show pOk (zs.length : Int) = true by simp [pOk]; omega] at h
    cases h
theorem kinds_post {zs : List Int} (h : pOk zs.length = true) (ha : ∀ j, j < zs.length → decide (0 ≤ zs.getD j 0 ∧ zs.getD j 0 ≤ 2) = true) : kindsOk zs = true := by
  rw [kinds_all ha]
  simpa [pOk] using h
theorem kRow_ints {P n q : Nat} (hq : q < P) : (ints (kRow P n))[q]? = some (.int .i64 ((n / 3 ^ q % 3 : Nat) : Int)) := by simp [ints, kRow, hq]
/-- a row of numbers just made, and filled, is of one's own -/
theorem own_of_rowIsF {w : World} {base g n T : Nat} {f : Nat → Value} {xs : List Value} (h : w.rowIs g T n f) (hb : base ≤ g) (hn : n ≤ maxLen) (hl : xs.length = n) (hx : ∀ j, j < n → xs[j]? = some (f j)) : w.ownsRow base T 1 (.slice (some ⟨g, 0, none⟩) n n) n xs := by
  obtain ⟨c, hc, hs, hf⟩ := h
  refine ⟨by omega, .inr ⟨g, n, c, rfl, hb, hc, Nat.le_refl _, hn, by omega, ?_⟩⟩
  refine List.ext_getElem? fun j => ?_
  by_cases hj : j < n
  · rw [List.getElem?_take, if_pos (by omega), hx j hj]
    simpa using hf j hj
  · rw [List.getElem?_eq_none (by simp; omega), List.getElem?_eq_none (by omega)]
theorem row_nextF {w : World} {g P k T : Nat} {f : Nat → Int} {x : Int} (h : w.rowIs g T P (fun q => if q < k then .int .i64 (f q) else .int .i64 0)) (hx : f k = x) : (w.setCell ⟨g, k, none⟩ (.int .i64 x)).rowIs g T P (fun q => if q < k + 1 then .int .i64 (f q) else .int .i64 0) :=
  (h.set k (.int .i64 x)).congr fun q _ => by
    by_cases e : q = k
    · subst e; simp [hx]
    · rw [if_neg e]
      by_cases h1 : q < k
      · rw [if_pos h1, if_pos (by omega)]
      · rw [if_neg h1, if_neg (by omega)]
attribute [local irreducible] holds tabN tabV holdsV sameV followsV alwaysV matterV claimOk mayT mayV ctabV ctabN storyV storyOk storyN storyT ctermV ctermL saysT saysV spyT spyV kindsOk kwN kwV tabF kRow spiesN fewF rowsF kwK
set_option maxRecDepth 100000 in
set_option maxHeartbeats 2000000 in
theorem implKindsOk (zs : List Int) (B : Nat) (v : Value) (w : World) (hr : RdInts w B v zs) :
    Calls Try.prog 17 #[v] w fun e w' => e = .returned (.bool (kindsOk zs)) ∧ w = w' := by
  obtain ⟨ao, cap, rfl, hl, hm, hc0⟩ := hr
  have hc := Lib.hid hc0; clear hc0
  unfold maxLen at hm
  have hin := fun w => implPeopleOk (zs.length : Int) w
  cases hp : pOk (zs.length : Int) with
  | false =>
    have Hf := Lib.hid (kinds_pre hp)
    rw [hp] at hin
    have Hin := Lib.hid hin; clear hin hp
    go_enter Try.func17, Try.ntmps17
    go_wp2_with fail
    refine (Hin.out _).mono ?_
    rintro e w' ⟨rfl, rfl⟩
    go_wp2
    go_ret
    exact ⟨by rw [Hf.out]; rfl, rfl⟩
  | true =>
    have Hall := Lib.hid (fun h => kinds_post (zs := zs) hp h)
    rw [hp] at hin
    have Hin := Lib.hid hin; clear hin hp
    go_enter Try.func17, Try.ntmps17
    go_wp2_with fail
    refine (Hin.out _).mono ?_
    rintro e w' ⟨rfl, rfl⟩
    go_wp2
    go_loop [4, 11] (fun _ i => ∃ k : Nat, k ≤ zs.length ∧ i = .int .i64 k ∧ Hid (∀ j, j < k → decide (0 ≤ zs.getD j 0 ∧ zs.getD j 0 ≤ 2) = true)) (fun _ i => zs.length - (intOf i).toNat)
    case atStart => exact ⟨0, Nat.zero_le _, rfl, fun j hj => by omega⟩
    case round =>
      obtain ⟨k, hk, rfl, hall⟩ := hrel
      by_cases hlt : k < zs.length
      · obtain ⟨b, off, rfl, hb, hcell⟩ := hc.out k hlt
        cases hw : decide (0 ≤ zs.getD k 0 ∧ zs.getD k 0 ≤ 2) with
        | true =>
          have Hall2 : Hid (∀ j, j < k + 1 → decide (0 ≤ zs.getD j 0 ∧ zs.getD j 0 ≤ 2) = true) := fun j hj => by
            by_cases hjk : j < k
            · exact hall.out j hjk
            · obtain rfl : j = k := by omega
              exact hw
          obtain ⟨hz0, hz2⟩ := of_decide_eq_true hw
          clear hw
          generalize zs.getD k 0 = z at *
          have hz3 : z < 3 := by omega
          go_wp2
          go_round
          case rel => exact ⟨k + 1, by omega, by go_num, Hall2⟩
          case measure => simp [intOf]; omega
        | false =>
          have Hbad := Lib.hid (kinds_bad hlt hw)
          have hno := of_decide_eq_false hw
          clear hw
          generalize zs.getD k 0 = z at *
          by_cases hz0 : z < 0
          · clear hno
            go_wp2
            go_ret
            exact ⟨by rw [Hbad.out]; rfl, rfl⟩
          · have hz3 : 3 ≤ z := by omega
            clear hno
            go_wp2
            go_ret
            exact ⟨by rw [Hbad.out]; rfl, rfl⟩
      · obtain rfl : k = zs.length := by omega
        have Hv := Lib.hid (Hall.out hall.out)
        go_wp2
        go_ret
        exact ⟨by rw [Hv.out]; rfl, rfl⟩
set_option maxRecDepth 100000 in
set_option maxHeartbeats 2000000 in
theorem implWorldOfKinds (zs : List Int) (B : Nat) (v : Value) (w : World) (hr : RdInts w B v zs) :
    Calls Try.prog 20 #[v] w fun e w' => e = .returned (.int .i64 (kwV zs)) ∧ w = w' := by
  have hk := fun w h => implKindsOk zs B v w h
  have Hr := Lib.hid hr
  obtain ⟨ao, cap, rfl, hl, hm, hc0⟩ := hr
  have hc := Lib.hid hc0; clear hc0
  unfold maxLen at hm
  cases hok : kindsOk zs with
  | false =>
    have Hf := Lib.hid (kwV_no hok)
    rw [hok] at hk
    have Hk := Lib.hid hk; clear hk hok
    go_enter Try.func20, Try.ntmps20
    go_wp2_with fail
    refine (Hk.out _ Hr.out).mono ?_
    rintro e w' ⟨rfl, rfl⟩
    go_wp2
    go_ret
    exact ⟨by rw [Hf.out]; rfl, rfl⟩
  | true =>
    have Hf := Lib.hid (kwV_yes hok)
    have h4 := (kindsOk_iff.1 hok).2.2
    have Hend := Lib.hid (kwK_all zs)
    rw [hok] at hk
    have Hk := Lib.hid hk; clear hk hok
    go_enter Try.func20, Try.ntmps20
    go_wp2_with fail
    refine (Hk.out _ Hr.out).mono ?_
    rintro e w' ⟨rfl, rfl⟩
    go_wp2
    go_loop [3, 4, 5, 11] (fun t _ _ i => ∃ k : Nat, k ≤ zs.length ∧ i = .int .i64 k ∧ t = .int .i64 (kwK zs k)) (fun _ _ _ i => zs.length - (intOf i).toNat)
    case atStart => exact ⟨0, Nat.zero_le _, rfl, by unfold kwK tabF; rfl⟩
    case round =>
      obtain ⟨k, hk, rfl, rfl⟩ := hrel
      by_cases hlt : k < zs.length
      · obtain ⟨b, off, rfl, hb, hcell⟩ := hc.out k hlt
        have hs := kwK_succ zs k
        have hor := or_shlN (t := kwK zs k) (x := k) (N := 4) (Nat.lt_of_lt_of_le (kwK_lt zs k) (Nat.pow_le_pow_right (by decide) (by omega))) (by decide) (by omega)
        rw [Nat.min_eq_left (by omega)] at hor
        generalize kwK zs k = T at *
        by_cases hz : zs.getD k 0 = 1
        · rw [if_pos hz] at hs
          rw [hz] at hcell
          have Hs := Lib.hid hs
          clear hs hz
          go_wp2
          go_round
          case rel => exact ⟨k + 1, by omega, by go_num, by rw [Hs.out, ← hor]⟩
          case measure => simp [intOf]; omega
        · rw [if_neg hz] at hs
          have Hs := Lib.hid hs
          have hz1 : (zs.getD k 0 == 1) = false := by rw [beq_eq_false_iff_ne]; exact hz
          clear hs hz hor
          generalize zs.getD k 0 = z at *
          go_wp2
          go_round
          case rel => exact ⟨k + 1, by omega, by go_num, by rw [Hs.out]⟩
          case measure => simp [intOf]; omega
      · obtain rfl : k = zs.length := by omega
        go_wp2
        go_ret
        exact ⟨by rw [Hf.out, ← Hend.out]; rfl, rfl⟩
theorem kinds_w {zs : List Int} (h : kindsOk zs = true) : wOk zs.length (kwN zs : Int) = true := by
  obtain ⟨_, h1, h2⟩ := kindsOk_iff.1 h
  have := kwN_lt zs
  rw [wOk_iff, Int.toNat_natCast]
  refine ⟨by omega, by omega, by omega, ?_⟩
  exact_mod_cast this
set_option maxRecDepth 100000 in
set_option maxHeartbeats 4000000 in
theorem implSpySays (zs : List Int) (k : Int) (ms : List (Int × Int)) (B : Nat) (a u : Value) (w : World) (hz : RdInts w B a zs) (hr : RdMarks w B u ms) (hB : B ≤ w.heap.size) :
    Calls Try.prog 26 #[a, .agg #[.int .i64 k, u]] w fun e w' => e = .returned (.bool (saysV zs (k, ms))) ∧ Below w.heap.size w w' := by
  obtain ⟨ao, cap, rfl, hal, ham, _⟩ : ∃ ao cap, a = .slice ao zs.length cap ∧ zs.length ≤ cap ∧ cap ≤ maxLen ∧ True := by
    obtain ⟨ao, cap, h1, h2, h3, _⟩ := hz; exact ⟨ao, cap, h1, h2, h3, trivial⟩
  unfold maxLen at ham
  have hk := fun w h => implKindsOk zs B (.slice ao zs.length cap) w h
  have hc := fun w h hB => implClaimOk (zs.length : Int) k ms B u w h hB
  cases hok : kindsOk zs with
  | false =>
    have Hf := Lib.hid (saysV_no (c := (k, ms)) hok)
    rw [hok] at hk
    have Hk := Lib.hid hk; clear hk hok hc
    go_enter Try.func26, Try.ntmps26
    go_upto_region 1 with fail
    obtain ⟨w1, hw1, n1, n2, hbw, hsz⟩ := new_two w (.int .i64 k) u TC
    rw [← hw1]
    have Hr1 := Lib.hid (hr.below (w' := w1) (fun q hq => hbw.block q (by omega)))
    have Hz1 := Lib.hid (hz.below (w' := w1) (fun q hq => hbw.block q (by omega)))
    have hB1 : B ≤ w1.heap.size := by omega
    have Hbw := Lib.hid hbw; clear hbw hw1 hr hz
    go_wp2_with fail
    refine (Hk.out _ Hz1.out).mono ?_
    rintro e w' ⟨rfl, rfl⟩
    go_wp2
    go_ret
    exact ⟨by rw [Hf.out]; rfl, Hbw.out⟩
  | true =>
  cases hcok : claimOk (zs.length : Int) (k, ms) with
  | false =>
    have Hf := Lib.hid (saysV_no2 (zs := zs) hcok)
    rw [hok] at hk
    rw [hcok] at hc
    have Hk := Lib.hid hk
    have Hc := Lib.hid hc
    clear hk hok hc hcok
    go_enter Try.func26, Try.ntmps26
    go_upto_region 1 with fail
    obtain ⟨w1, hw1, n1, n2, hbw, hsz⟩ := new_two w (.int .i64 k) u TC
    rw [← hw1]
    have Hr1 := Lib.hid (hr.below (w' := w1) (fun q hq => hbw.block q (by omega)))
    have Hz1 := Lib.hid (hz.below (w' := w1) (fun q hq => hbw.block q (by omega)))
    have hB1 : B ≤ w1.heap.size := by omega
    have Hbw := Lib.hid hbw; clear hbw hw1 hr hz
    go_wp2_with fail
    refine (Hk.out _ Hz1.out).mono ?_
    rintro e w' ⟨rfl, rfl⟩
    go_wp2_with fail
    refine (Hc.out _ Hr1.out hB1).mono ?_
    rintro e w2 ⟨rfl, hb2⟩
    have m1 := (hb2.cell (p := ⟨w.heap.size, 0, none⟩) hsz).trans n1
    have m2 := (hb2.cell (p := ⟨w.heap.size, 1, none⟩) hsz).trans n2
    have Hr2 := Lib.hid (Hr1.out.below (w' := w2) (fun q hq => hb2.block q (by omega)))
    have Hz2 := Lib.hid (Hz1.out.below (w' := w2) (fun q hq => hb2.block q (by omega)))
    have hB2 : B ≤ w2.heap.size := by have := hb2.size; omega
    have hsz2 : w.heap.size < w2.heap.size := by have := hb2.size; omega
    have Hb2 := Lib.hid (Hbw.out.trans (hb2.mono Hbw.out.size)); clear hb2 n1 n2
    go_wp2
    go_ret
    exact ⟨by rw [Hf.out]; rfl, Hb2.out⟩
  | true =>
    have Hf := Lib.hid (saysV_yes hok hcok)
    obtain ⟨K, rfl⟩ := Int.eq_ofNat_of_zero_le (claimOk_iff.1 hcok).1
    have hKl : K < zs.length := by have := (claimOk_iff.1 hcok).2.1; dsimp only at this; omega
    have hX : kwN zs < 2 ^ zs.length := kwN_lt zs
    have hX16 : kwN zs < 16 := Nat.lt_of_lt_of_le hX (two16 (kindsOk_iff.1 hok).2.2)
    have hmv : mayV zs.length ((K : Int), ms) (kwN zs : Int) = mayT zs.length ((K : Int), ms) (kwN zs) := by
      rw [mayV_yes hcok (kinds_w hok), Int.toNat_natCast]
    have hm0 := fun w h hB => implMaySay (zs.length : Int) (K : Int) (kwN zs : Int) ms B u w h hB
    have hw0 := fun w h => implWorldOfKinds zs B (.slice ao zs.length cap) w h
    rw [hmv] at hm0
    rw [kwV_yes hok] at hw0
    have Hm := Lib.hid hm0
    have Hw := Lib.hid hw0
    clear hm0 hw0 hmv
    rw [hok] at hk
    rw [hcok] at hc
    have Hk := Lib.hid hk
    have Hc := Lib.hid hc
    have hy2 : zs.getD K 0 = 2 → saysT zs ((K : Int), ms) = true := fun h => says_spy (c := ((K : Int), ms)) (by rw [Int.toNat_natCast]; exact h)
    have hn2 : zs.getD K 0 ≠ 2 → saysT zs ((K : Int), ms) = mayT zs.length ((K : Int), ms) (kwN zs) := fun h => says_else (c := ((K : Int), ms)) (by rw [Int.toNat_natCast]; exact h)
    clear hk hok hc hcok hX
    generalize saysT zs ((K : Int), ms) = o at *
    generalize mayT zs.length ((K : Int), ms) (kwN zs) = o2 at *
    generalize kwN zs = X at *
    go_enter Try.func26, Try.ntmps26
    go_upto_region 1 with fail
    obtain ⟨w1, hw1, n1, n2, hbw, hsz⟩ := new_two w (.int .i64 K) u TC
    rw [← hw1]
    have Hr1 := Lib.hid (hr.below (w' := w1) (fun q hq => hbw.block q (by omega)))
    have Hz1 := Lib.hid (hz.below (w' := w1) (fun q hq => hbw.block q (by omega)))
    have hB1 : B ≤ w1.heap.size := by omega
    have Hbw := Lib.hid hbw; clear hbw hw1 hr hz
    go_wp2_with fail
    refine (Hk.out _ Hz1.out).mono ?_
    rintro e w' ⟨rfl, rfl⟩
    go_wp2_with fail
    refine (Hc.out _ Hr1.out hB1).mono ?_
    rintro e w2 ⟨rfl, hb2⟩
    have m1 := (hb2.cell (p := ⟨w.heap.size, 0, none⟩) hsz).trans n1
    have m2 := (hb2.cell (p := ⟨w.heap.size, 1, none⟩) hsz).trans n2
    have Hr2 := Lib.hid (Hr1.out.below (w' := w2) (fun q hq => hb2.block q (by omega)))
    have Hz2 := Lib.hid (Hz1.out.below (w' := w2) (fun q hq => hb2.block q (by omega)))
    have hB2 : B ≤ w2.heap.size := by have := hb2.size; omega
    have hsz2 : w.heap.size < w2.heap.size := by have := hb2.size; omega
    have Hb2 := Lib.hid (Hbw.out.trans (hb2.mono Hbw.out.size)); clear hb2 n1 n2
    obtain ⟨b, off, hao, hb, hcell⟩ : ∃ b off, ao = some ⟨b, off, none⟩ ∧ b < B ∧ w2.cell? ⟨b, off + K, none⟩ = some (.int .i64 (zs.getD K 0)) := by
      obtain ⟨_, _, h1, _, _, h2⟩ := Hz2.out
      cases h1
      exact h2 K hKl
    subst hao
    by_cases hz : zs.getD K 0 = 2
    · have ho := hy2 hz
      subst ho
      rw [hz] at hcell
      clear hy2 hn2 hz
      go_upto_region 4 with fail
      first
        | go_region_with (fail)
        | go_quiet (fail)
        | fail
      all_goals go_wp2
      all_goals
        go_ret
        exact ⟨by rw [Hf.out]; rfl, by first | exact Hb2.out | exact below_drew1 Hb2.out | exact below_drewN Hb2.out _⟩
    · have ho := hn2 hz
      subst ho
      have hz2 : (zs.getD K 0 == 2) = false := by rw [beq_eq_false_iff_ne]; exact hz
      clear hy2 hn2 hz
      generalize zs.getD K 0 = z at *
      obtain ⟨au, cu, hu⟩ : ∃ ao cap, u = .slice ao ms.length cap := by obtain ⟨a, c, h, _⟩ := Hr2.out; exact ⟨a, c, h⟩
      subst hu
      go_upto_region 4 with fail
      go_region_held3 (fun w' => w'.cell? ⟨w.heap.size, 0, none⟩ = some (.int .i64 K) ∧ w'.cell? ⟨w.heap.size, 1, none⟩ = some (.slice au ms.length cu) ∧ w'.cell? ⟨b, off + K, none⟩ = some (.int .i64 z))
        (first | (refine ⟨?_, ?_, ?_⟩ <;> first | go_keep | assumption) | assumption)
        (first
          | (go_at_call 20
             (with_reducible refine (Hw.out _ ?_).mono ?_)
             · exact Hz2.out
             rintro e w' ⟨rfl, rfl⟩)
          | (go_at_call 30
             (with_reducible refine (Hm.out _ ?_ ?_).mono ?_)
             · exact Hr2.out
             · exact hB2
             rintro e w3 ⟨rfl, hb3'⟩
             go_must (have hb3 : Below w2.heap.size w2 w3 := by first | exact hb3' | exact below_undrewS hb3' | exact below_undrewN hb3'
                      clear hb3'
                      have q1 := (hb3.cell (p := ⟨w.heap.size, 0, none⟩) (by show w.heap.size < _; omega)).trans m1
                      have q2 := (hb3.cell (p := ⟨w.heap.size, 1, none⟩) (by show w.heap.size < _; omega)).trans m2
                      have q3 := (hb3.cell (p := ⟨b, off + K, none⟩) (by show b < _; omega)).trans hcell
                      have Hb3 := Lib.hid (Hb2.out.trans (hb3.mono Hb2.out.size))
                      clear hb3))
          | fail)
      all_goals go_wp2
      all_goals
        go_ret
        exact ⟨by rw [Hf.out]; rfl, by first | exact Hb3.out | exact below_drew1 Hb3.out | exact below_drewN Hb3.out _⟩
set_option maxRecDepth 100000 in
set_option maxHeartbeats 4000000 in
theorem implSpyStory (zs : List Int) (qs : List QC) (B : Nat) (a v : Value) (w : World) (hz : RdInts w B a zs) (hr : RdStory w B v qs) (hB : B ≤ w.heap.size) :
    Calls Try.prog 32 #[a, v] w fun e w' => e = .returned (.bool (spyV zs (qs.map (·.2)))) ∧ Below w.heap.size w w' := by
  obtain ⟨zo, zc, rfl, hzl, hzm, _⟩ : ∃ ao cap, a = .slice ao zs.length cap ∧ zs.length ≤ cap ∧ cap ≤ maxLen ∧ True := by
    obtain ⟨ao, cap, h1, h2, h3, _⟩ := hz; exact ⟨ao, cap, h1, h2, h3, trivial⟩
  have Hr := Lib.hid hr
  have Hz := Lib.hid hz
  obtain ⟨ao, cap, rfl, hal, ham, _, hac0⟩ := hr
  have hac := Lib.hid hac0; clear hac0
  unfold maxLen at ham hzm
  have hk := fun w h => implKindsOk zs B (.slice zo zs.length zc) w h
  have hs := fun w h hB => implStoryOk (zs.length : Int) qs B (.slice ao qs.length cap) w h hB
  cases hok : kindsOk zs with
  | false =>
    have Hf := Lib.hid (spyV_no (s := qs.map (·.2)) hok)
    rw [hok] at hk
    have Hk := Lib.hid hk; clear hk hok hs
    go_enter Try.func32, Try.ntmps32
    go_wp2_with fail
    refine (Hk.out _ Hz.out).mono ?_
    rintro e w' ⟨rfl, rfl⟩
    go_wp2
    go_ret
    exact ⟨by rw [Hf.out]; rfl, Below.refl _ _⟩
  | true =>
  cases hsok : storyOk (zs.length : Int) (qs.map (·.2)) with
  | false =>
    have Hf := Lib.hid (spyV_no2 (zs := zs) hsok)
    rw [hok] at hk
    rw [hsok] at hs
    have Hk := Lib.hid hk
    have Hs := Lib.hid hs
    clear hk hok hs hsok
    go_enter Try.func32, Try.ntmps32
    go_wp2_with fail
    refine (Hk.out _ Hz.out).mono ?_
    rintro e w' ⟨rfl, rfl⟩
    go_wp2_with fail
    refine (Hs.out _ Hr.out hB).mono ?_
    rintro e w2 ⟨rfl, hb2⟩
    have Hb2 := Lib.hid hb2; clear hb2
    go_wp2
    go_ret
    exact ⟨by rw [Hf.out]; rfl, Hb2.out⟩
  | true =>
    have Hf := Lib.hid (spyV_of hok hsok)
    have Hall := Lib.hid (spyT_all zs qs)
    have Hbad := Lib.hid (fun j hj h => spyT_bad (zs := zs) (qs := qs) (j := j) hj h)
    have Htake := Lib.hid (says_take zs qs)
    have Hsay := Lib.hid (fun j (hj : j < qs.length) => saysV_yes hok (story_at hsok hj))
    rw [hok] at hk
    rw [hsok] at hs
    have Hk := Lib.hid hk
    have Hs := Lib.hid hs
    clear hk hok hs hsok
    obtain ⟨wo, rfl⟩ : ∃ wo : World, wo = w := ⟨_, rfl⟩
    go_enter Try.func32, Try.ntmps32
    go_wp2_with fail
    refine (Hk.out _ Hz.out).mono ?_
    rintro e w' ⟨rfl, rfl⟩
    go_wp2_with fail
    refine (Hs.out _ Hr.out hB).mono ?_
    rintro e w2 ⟨rfl, hb2⟩
    have hs2 := hb2.size
    have Hb2 := Lib.hid hb2; clear hb2
    go_wp2_with fail
    go_loopw [6, 19] (fun _ i wr => ∃ j : Nat, j ≤ qs.length ∧ i = .int .i64 j ∧ Hid (((qs.take j).all fun q => saysT zs q.2) = true) ∧ Below wo.heap.size wo wr) (fun _ i _ => qs.length - (intOf i).toNat)
    case atStart => exact ⟨0, Nat.zero_le _, rfl, rfl, Hb2.out⟩
    case round =>
      obtain ⟨j, hj, rfl, hall, hbr⟩ := hrel
      by_cases hlt : j < qs.length
      · obtain ⟨b, off, rfl, hb, hc1, hc2⟩ := hac.out j hlt
        rw [← hbr.cell (p := ⟨b, _, none⟩) (show b < _ by omega)] at hc1 hc2
        have hBr : B ≤ wr.heap.size := by have := hbr.size; omega
        have Hm := Lib.hid ((Hr.out.get hlt).1.below (w' := wr) (fun q hq => hbr.block q (by omega)))
        have Hzr := Lib.hid (Hz.out.below (w' := wr) (fun q hq => hbr.block q (by omega)))
        have Hsucc := Lib.hid (Htake.out j hlt)
        have Hno := Lib.hid (fun h => Hbad.out j hlt h)
        have hsv := Hsay.out j hlt
        generalize qs.getD j qc0 = q at *
        obtain ⟨u, k, ms⟩ := q
        have hcl := fun w hz h hB => implSpySays zs k ms B (.slice zo zs.length zc) u w hz h hB
        have Hbr := Lib.hid hbr
        clear hbr
        dsimp only at hc1 hc2
        have Hm' : Hid (RdMarks wr B u ms) := Hm.out
        have Hsucc' : Hid (((qs.take (j + 1)).all fun q => saysT zs q.2) = (((qs.take j).all fun q => saysT zs q.2) && saysT zs (k, ms))) := Hsucc.out
        have Hno' : Hid (saysT zs (k, ms) = false → spyT zs (qs.map (·.2)) = false) := Hno.out
        have hsv' : saysV zs (k, ms) = saysT zs (k, ms) := hsv
        rw [hsv'] at hcl
        clear Hm Hsucc Hno hsv hsv'
        obtain ⟨ao1, cap1, rfl⟩ : ∃ ao1 cap1, u = .slice ao1 ms.length cap1 := by
          obtain ⟨a, c, h, _⟩ := Hm'.out
          exact ⟨a, c, h⟩
        go_upto_region 6 with fail
        obtain ⟨w1, hw1, n1, n2, hbw, hsz⟩ := new_two wr (.int .i64 k) (.slice ao1 ms.length cap1) TC
        rw [← hw1]
        have Hr1 := Lib.hid (Hm'.out.below (w' := w1) (fun q hq => hbw.block q (by omega)))
        have Hz1 := Lib.hid (Hzr.out.below (w' := w1) (fun q hq => hbw.block q (by omega)))
        have hB1 : B ≤ w1.heap.size := by omega
        have Hbw := Lib.hid (Hbr.out.trans (hbw.mono Hbr.out.size)); clear hbw hw1 hc1 hc2
        cases hok : saysT zs (k, ms) with
        | false =>
          have Hf2 := Lib.hid (Hno'.out hok)
          rw [hok] at hcl
          have Hc := Lib.hid hcl; clear hcl hok
          go_wp2_with fail
          refine (Hc.out _ Hz1.out Hr1.out hB1).mono ?_
          rintro e w3 ⟨rfl, hb3⟩
          have Hb3 := Lib.hid (Hbw.out.trans (hb3.mono Hbw.out.size)); clear hb3
          go_wp2
          go_ret
          exact ⟨by rw [Hf.out, Hf2.out]; rfl, Hb3.out⟩
        | true =>
          have Hs1 : Hid (((qs.take (j + 1)).all fun q => saysT zs q.2) = true) := by
            unfold Hid
            rw [Hsucc'.out, hall.out, hok]; rfl
          rw [hok] at hcl
          have Hc := Lib.hid hcl; clear hcl hok
          go_wp2_with fail
          refine (Hc.out _ Hz1.out Hr1.out hB1).mono ?_
          rintro e w3 ⟨rfl, hb3⟩
          have Hb3 := Lib.hid (Hbw.out.trans (hb3.mono Hbw.out.size)); clear hb3
          go_wp2
          go_roundw
          case rel => exact ⟨j + 1, by omega, by go_num, Hs1, Hb3.out⟩
          case measure => simp [intOf]; omega
      · obtain rfl : j = qs.length := by omega
        have Hbr := Lib.hid hbr; clear hbr
        go_wp2
        go_ret
        exact ⟨by rw [Hf.out, Hall.out, hall.out]; rfl, Hbr.out⟩
set_option maxRecDepth 100000 in
set_option maxHeartbeats 4000000 in
theorem implRowCount (P : Nat) (h4 : P ≤ 4) (w : World) :
    Calls Try.prog 76 #[.int .i64 P] w fun e w' => e = .returned (.int .i64 ((3 ^ P : Nat) : Int)) ∧ w = w' := by
  have hP : P = 0 ∨ P = 1 ∨ P = 2 ∨ P = 3 ∨ P = 4 := by omega
  go_enter Try.func76, Try.ntmps76
  go_wp2
  go_loop [3, 5] (fun t i => ∃ k : Nat, k ≤ P ∧ i = .int .i64 k ∧ t = .int .i64 ((3 ^ k : Nat) : Int)) (fun _ i => P - (intOf i).toNat)
  case atStart => exact ⟨0, Nat.zero_le _, rfl, rfl⟩
  case round =>
    obtain ⟨k, hk, rfl, rfl⟩ := hrel
    by_cases hlt : k < P
    · have hs : (3 ^ (k + 1) : Nat) = 3 ^ k * 3 := Nat.pow_succ ..
      have hb : 3 ^ k ≤ 81 := Nat.le_trans (Nat.pow_le_pow_right (by decide) (show k ≤ 4 by omega)) (by decide)
      have Hs := Lib.hid hs
      clear hs
      generalize 3 ^ k = T at *
      go_wp2
      go_round
      case rel => exact ⟨k + 1, by omega, by go_num, by rw [Hs.out]; go_num⟩
      case measure => simp [intOf]; omega
    · obtain rfl : k = P := by omega
      go_wp2
      go_ret
      exact ⟨rfl, rfl⟩
set_option maxRecDepth 100000 in
set_option maxHeartbeats 4000000 in
theorem implSpiesIn (zs : List Int) (_h4 : zs.length ≤ 4) (B : Nat) (v : Value) (w : World) (hr : RdInts w B v zs) :
    Calls Try.prog 78 #[v] w fun e w' => e = .returned (.int .i64 (spiesN zs)) ∧ w = w' := by
  obtain ⟨ao, cap, rfl, hl, hm, hc0⟩ := hr
  have hc := Lib.hid hc0; clear hc0
  unfold maxLen at hm
  have Hend := Lib.hid (spK_all zs)
  go_enter Try.func78, Try.ntmps78
  go_wp2
  go_loop [3, 5, 8] (fun t _ i => ∃ k : Nat, k ≤ zs.length ∧ i = .int .i64 k ∧ t = .int .i64 (spK zs k)) (fun _ _ i => zs.length - (intOf i).toNat)
  case atStart => exact ⟨0, Nat.zero_le _, rfl, by rw [spK_zero]; rfl⟩
  case round =>
    obtain ⟨k, hk, rfl, rfl⟩ := hrel
    by_cases hlt : k < zs.length
    · obtain ⟨b, off, rfl, hb, hcell⟩ := hc.out k hlt
      have hs := spK_succ hlt
      have hle := spK_le zs k
      generalize spK zs k = T at *
      by_cases hz : zs.getD k 0 = 2
      · rw [if_pos hz] at hs
        rw [hz] at hcell
        have Hs := Lib.hid hs
        clear hs hz
        go_wp2
        go_round
        case rel => exact ⟨k + 1, by omega, by go_num, by rw [Hs.out]; go_num⟩
        case measure => simp [intOf]; omega
      · rw [if_neg hz] at hs
        have Hs := Lib.hid hs
        have hz1 : (zs.getD k 0 == 2) = false := by rw [beq_eq_false_iff_ne]; exact hz
        clear hs hz
        generalize zs.getD k 0 = z at *
        go_wp2
        go_round
        case rel => exact ⟨k + 1, by omega, by go_num, by rw [Hs.out]⟩
        case measure => simp [intOf]; omega
    · obtain rfl : k = zs.length := by omega
      go_wp2
      go_ret
      exact ⟨by rw [← Hend.out]; rfl, rfl⟩
set_option maxRecDepth 100000 in
set_option maxHeartbeats 4000000 in
theorem implKinds (P n : Nat) (h4 : P ≤ 4) (hn : n ≤ 1000) (w : World) :
    Calls Try.prog 77 #[.int .i64 P, .int .i64 n] w fun e w' => ∃ g cap, e = .returned (.slice (some ⟨g, 0, none⟩) P cap) ∧ w'.ownsRow w.heap.size 3 1 (.slice (some ⟨g, 0, none⟩) P cap) P (ints (kRow P n)) ∧ Below w.heap.size w w' := by
  obtain ⟨wo, rfl⟩ : ∃ wo : World, wo = w := ⟨_, rfl⟩
  have hmk := run_make_row' (P := Try.prog) 23 3 (.int .i64 0) 8 Try.underlying23 Try.info3 rfl .i64 .i64 P (by omega) (by omega)
  have Hlen := Lib.hid (kRow_len P n)
  go_enter Try.func77, Try.ntmps77
  go_upto_region 2 with fail
  obtain ⟨w4, hw4⟩ : ∃ w4 : World, w4 = wo.alloc (.cells (madeCells #[.int .i64 0] P) 3) := ⟨_, rfl⟩
  have hrow := World.rowIs_made wo (.int .i64 0) P 3
  have hb4 : Below wo.heap.size wo w4 := by rw [hw4]; exact (Below.refl _ _).alloc (Nat.le_refl _) _
  rw [← hw4] at hrow
  rw [← hw4]
  clear hmk hw4
  have Hrow := Lib.hid hrow
  have Hb4 := Lib.hid hb4
  clear hrow hb4
  go_wp2
  go_loopw [1, 6, 11] (fun x _ i wr => ∃ k : Nat, k ≤ P ∧ i = .int .i64 k ∧ x = .int .i64 ((n / 3 ^ k : Nat) : Int) ∧ wr.rowIs wo.heap.size 3 P (fun q => if q < k then .int .i64 ((n / 3 ^ q % 3 : Nat) : Int) else .int .i64 0) ∧ Below wo.heap.size wo wr) (fun _ _ i _ => P - (intOf i).toNat)
  case atStart => exact ⟨0, Nat.zero_le _, rfl, by simp, Hrow.out.congr fun q _ => by simp, Hb4.out⟩
  case round =>
    obtain ⟨k, hk, rfl, rfl, hrow, hbr⟩ := hrel
    have Hrow1 := Lib.hid hrow
    have Hbr := Lib.hid hbr
    by_cases hlt : k < P
    · have hrc := hrow.cell hlt
      have hrf := hrow.frozen k
      rw [if_neg (Nat.lt_irrefl k)] at hrc
      have hd : n / 3 ^ (k + 1) = n / 3 ^ k / 3 := by rw [Nat.pow_succ, ← Nat.div_div_eq_div_mul]
      have hle : n / 3 ^ k ≤ 1000 := Nat.le_trans (Nat.div_le_self _ _) hn
      obtain ⟨m, hmd⟩ : ∃ m, m = n / 3 ^ k := ⟨_, rfl⟩
      have Hv : Hid (((n / 3 ^ k % 3 : Nat) : Int) = ((m % 3 : Nat) : Int)) := by rw [hmd]; rfl
      rw [← hmd] at hd hle
      rw [← hmd]
      clear hmd
      have hm1 : (m : Int).tmod 3 = ((m % 3 : Nat) : Int) := by rw [Int.tmod_eq_emod_of_nonneg (by omega)]; omega
      have hm2 : (m : Int).tdiv 3 = ((m / 3 : Nat) : Int) := by rw [Int.tdiv_eq_ediv_of_nonneg (by omega)]; omega
      have hm3 : (m : Int) % 3 = ((m % 3 : Nat) : Int) := by omega
      have hm4 : (m : Int) / 3 = ((m / 3 : Nat) : Int) := by omega
      have Hd := Lib.hid hd
      have hr3 : m % 3 ≤ 2 := by omega
      have hq3 : m / 3 ≤ 1000 := by omega
      clear hd hrow hbr Hrow Hb4
      generalize m % 3 = r at *
      generalize m / 3 = q at *
      go_wp2
      go_roundw
      case rel => exact ⟨k + 1, by omega, by go_num, by rw [Hd.out], row_nextF (f := fun q => ((n / 3 ^ q % 3 : Nat) : Int)) Hrow1.out Hv.out, Hbr.out.setCell (by simp) _⟩
      case measure => simp [intOf]; omega
    · obtain rfl : k = P := by omega
      clear hrow hbr
      go_wp2
      go_ret
      refine ⟨_, _, rfl, ?_, Hbr.out⟩
      refine own_of_rowIsF (Hrow1.out.congr (g := fun q => .int .i64 ((n / 3 ^ q % 3 : Nat) : Int)) fun q hq => if_pos hq) (by omega) (by unfold maxLen; omega) (by simp [ints, Hlen.out]) (fun q hq => kRow_ints hq)
set_option maxRecDepth 100000 in
set_option maxHeartbeats 4000000 in
theorem implSpyRows (p q : Int) (qs : List QC) (B : Nat) (v : Value) (w : World) (hr : RdStory w B v qs) (hB : B ≤ w.heap.size) :
    Calls Try.prog 44 #[.int .i64 p, v, .int .i64 q] w fun e w' => e = .returned (.int .i64 (rowsV p (qs.map (·.2)) q)) ∧ Below w.heap.size w w' := by
  obtain ⟨ao, cap, rfl, _⟩ : ∃ ao cap, v = .slice ao qs.length cap ∧ True := by
    obtain ⟨ao, cap, h1, _⟩ := hr; exact ⟨ao, cap, h1, trivial⟩
  have hs := fun w h hB => implStoryOk p qs B (.slice ao qs.length cap) w h hB
  cases hsok : storyOk p (qs.map (·.2)) with
  | false =>
    have Hf : Hid (rowsV p (qs.map (·.2)) q = -1) := by unfold Hid rowsV; rw [hsok]; rfl
    rw [hsok] at hs
    have Hs := Lib.hid hs
    clear hs hsok
    go_enter Try.func44, Try.ntmps44
    go_wp2_with fail
    refine (Hs.out _ hr hB).mono ?_
    rintro e w2 ⟨rfl, hb2⟩
    have Hb2 := Lib.hid hb2; clear hb2
    go_wp2
    go_ret
    exact ⟨by rw [Hf.out]; rfl, Hb2.out⟩
  | true =>
  have H1 : Hid (decide (0 ≤ q ∧ q ≤ p) = decide (0 ≤ q ∧ q ≤ p)) := rfl
  cases hq : decide (0 ≤ q ∧ q ≤ p) with
  | false =>
    have Hf : Hid (rowsV p (qs.map (·.2)) q = -1) := by unfold Hid rowsV; rw [hsok, hq]; rfl
    have Hq := Lib.hid hq.symm
    rw [hsok] at hs
    have Hs := Lib.hid hs
    clear hs hsok H1 hq
    go_enter Try.func44, Try.ntmps44
    go_wp2_with fail
    refine (Hs.out _ hr hB).mono ?_
    rintro e w2 ⟨rfl, hb2⟩
    have Hb2 := Lib.hid hb2; clear hb2
    have hq2 := of_decide_eq_false Hq.out.symm
    by_cases hq0 : q < 0
    · clear hq2
      go_wp2
      go_ret
      exact ⟨by rw [Hf.out]; rfl, Hb2.out⟩
    · have hq3 : p < q := by omega
      clear hq2
      go_wp2
      go_ret
      exact ⟨by rw [Hf.out]; rfl, Hb2.out⟩
  | true =>
    obtain ⟨_, hp, _⟩ := storyOk_iff.1 hsok
    obtain ⟨h1, h4⟩ : 1 ≤ p ∧ p ≤ 4 := by simpa [pOk] using hp
    obtain ⟨hq0, hqp⟩ := of_decide_eq_true hq
    obtain ⟨P, rfl⟩ := Int.eq_ofNat_of_zero_le (show 0 ≤ p by omega)
    obtain ⟨Q, rfl⟩ := Int.eq_ofNat_of_zero_le hq0
    obtain ⟨F, hF⟩ : ∃ F : List Int → Bool, F = fun zs => spyV zs (qs.map (·.2)) := ⟨_, rfl⟩
    have Hf : Hid (rowsV (P : Int) (qs.map (·.2)) (Q : Int) = (rowsF P F Q (3 ^ P) : Int)) := by unfold Hid rowsV; rw [hsok, hF, hq]; rfl
    have HF : Hid (∀ zs, spyV zs (qs.map (·.2)) = F zs) := fun zs => by rw [hF]
    have hN : 3 ^ P ≤ 81 := Nat.le_trans (Nat.pow_le_pow_right (by decide) (show P ≤ 4 by omega)) (by decide)
    have Hrows := Lib.hid (fun w => implRowCount P (by omega) w)
    have Hkin := Lib.hid (fun n hn w => implKinds P n (by omega) hn w)
    have hP4 : P ≤ 4 := by omega
    have Hq := Lib.hid hq.symm
    rw [hsok] at hs
    have Hs := Lib.hid hs
    have Hr := Lib.hid hr
    clear hs hsok hF hp hr h1 h4 H1 hq hq0
    have hQ4 : Q ≤ 4 := by omega
    generalize 3 ^ P = N at *
    obtain ⟨wo, rfl⟩ : ∃ wo : World, wo = w := ⟨_, rfl⟩
    go_enter Try.func44, Try.ntmps44
    go_wp2_with fail
    refine (Hs.out _ Hr.out hB).mono ?_
    rintro e w2 ⟨rfl, hb2⟩
    have Hb2 := Lib.hid hb2; clear hb2
    go_wp2_with fail
    refine (Hrows.out _).mono ?_
    rintro e w' ⟨rfl, rfl⟩
    go_wp2_with fail
    go_loopw [7, 8, 9, 25] (fun b _ _ i wr => ∃ j : Nat, j ≤ N ∧ i = .int .i64 j ∧ b = .int .i64 (rowsF P F Q j) ∧ rowsF P F Q j ≤ j ∧ Below wo.heap.size wo wr) (fun _ _ _ i _ => N - (intOf i).toNat)
    case atStart => exact ⟨0, Nat.zero_le _, rfl, by unfold rowsF; rfl, by unfold rowsF; exact Nat.le_refl _, Hb2.out⟩
    case round =>
      obtain ⟨j, hj, rfl, rfl, hrj, hbr⟩ := hrel
      have hsr := hbr.size
      have Hbr := Lib.hid hbr
      clear hbr
      by_cases hlt : j < N
      · have hstep : rowsF P F Q (j + 1) = rowsF P F Q j + if spiesN (kRow P j) = Q ∧ F (kRow P j) = true then 1 else 0 := by rw [rowsF]
        have hsl : spiesN (kRow P j) ≤ P := by
          have := List.countP_le_length (p := fun z => decide (z = (2 : Int))) (l := kRow P j)
          rw [kRow_len] at this
          unfold spiesN; exact this
        go_wp2_with fail
        refine (Hkin.out j (by omega) _).mono ?_
        rintro e w3 ⟨g, c, rfl, hown, hb3⟩
        have Hz3 := Lib.hid (kRow_rd hown)
        have hlk := kRow_len P j
        have Hr3 := Lib.hid ((Hr.out.mono hB).below (w' := w3) (fun q hq => (hb3.block q (by omega)).trans (Hbr.out.block q hq)))
        have Hb3 := Lib.hid (Hbr.out.trans (hb3.mono hsr))
        have hs3 := hb3.size
        have hsp := implSpyStory (kRow P j) qs w3.heap.size _ _ w3 Hz3.out (Hr3.out.mono (by omega)) (Nat.le_refl _)
        have Hsp2 := Lib.hid (fun w h => implSpiesIn (kRow P j) (by rw [hlk]; exact hP4) w3.heap.size (.slice (some ⟨g, 0, none⟩) P c) w h)
        rw [HF.out] at hsp
        have Hsp := Lib.hid hsp
        clear hown hb3 hsp hlk
        generalize hT : rowsF P F Q j = T at *
        clear hT
        generalize spiesN (kRow P j) = S at *
        generalize F (kRow P j) = fj at *
        go_wp2_with fail
        refine (Hsp2.out _ Hz3.out).mono ?_
        rintro e w' ⟨rfl, rfl⟩
        by_cases hSQ : S = Q
        · subst hSQ
          cases fj with
          | false =>
            rw [if_neg (fun h => by cases h.2)] at hstep
            have Hst := Lib.hid hstep
            clear hstep
            go_wp2_with fail
            refine Hsp.out.mono ?_
            rintro e w4 ⟨rfl, hb4⟩
            have Hb4 := Lib.hid (Hb3.out.trans (hb4.mono Hb3.out.size))
            clear hb4
            go_wp2
            go_roundw
            case rel => exact ⟨j + 1, by omega, by go_num, by rw [Hst.out, Nat.add_zero], by rw [Hst.out]; omega, Hb4.out⟩
            case measure => simp [intOf]; omega
          | true =>
            rw [if_pos ⟨rfl, rfl⟩] at hstep
            have Hst := Lib.hid hstep
            clear hstep
            go_wp2_with fail
            refine Hsp.out.mono ?_
            rintro e w4 ⟨rfl, hb4⟩
            have Hb4 := Lib.hid (Hb3.out.trans (hb4.mono Hb3.out.size))
            clear hb4
            go_wp2
            go_roundw
            case rel => exact ⟨j + 1, by omega, by go_num, by rw [Hst.out]; go_num, by rw [Hst.out]; omega, Hb4.out⟩
            case measure => simp [intOf]; omega
        · rw [if_neg (fun h => hSQ h.1)] at hstep
          have Hst := Lib.hid hstep
          have hne : ((S : Int) == (Q : Int)) = false := by rw [beq_eq_false_iff_ne]; omega
          clear hstep hSQ
          go_wp2
          go_roundw
          case rel => exact ⟨j + 1, by omega, by go_num, by rw [Hst.out, Nat.add_zero], by rw [Hst.out]; omega, Hb3.out⟩
          case measure => simp [intOf]; omega
      · obtain rfl : j = N := by omega
        go_wp2
        go_ret
        exact ⟨by rw [Hf.out]; rfl, Hbr.out⟩
set_option maxRecDepth 100000 in
set_option maxHeartbeats 4000000 in
theorem implFewestSpies (p : Int) (qs : List QC) (B : Nat) (v : Value) (w : World) (hr : RdStory w B v qs) (hB : B ≤ w.heap.size) :
    Calls Try.prog 39 #[.int .i64 p, v] w fun e w' => e = .returned (.int .i64 (fewV p (qs.map (·.2)))) ∧ Below w.heap.size w w' := by
  obtain ⟨ao, cap, rfl, _⟩ : ∃ ao cap, v = .slice ao qs.length cap ∧ True := by
    obtain ⟨ao, cap, h1, _⟩ := hr; exact ⟨ao, cap, h1, trivial⟩
  have hs := fun w h hB => implStoryOk p qs B (.slice ao qs.length cap) w h hB
  cases hsok : storyOk p (qs.map (·.2)) with
  | false =>
    have Hf : Hid (fewV p (qs.map (·.2)) = -1) := by unfold Hid fewV; rw [hsok]; rfl
    rw [hsok] at hs
    have Hs := Lib.hid hs
    clear hs hsok
    go_enter Try.func39, Try.ntmps39
    go_wp2_with fail
    refine (Hs.out _ hr hB).mono ?_
    rintro e w2 ⟨rfl, hb2⟩
    have Hb2 := Lib.hid hb2; clear hb2
    go_wp2
    go_ret
    exact ⟨by rw [Hf.out]; rfl, Hb2.out⟩
  | true =>
    obtain ⟨_, hp, _⟩ := storyOk_iff.1 hsok
    obtain ⟨h1, h4⟩ : 1 ≤ p ∧ p ≤ 4 := by simpa [pOk] using hp
    obtain ⟨P, rfl⟩ := Int.eq_ofNat_of_zero_le (show 0 ≤ p by omega)
    obtain ⟨E, hE⟩ : ∃ E, E = fewF P (fun zs => spyV zs (qs.map (·.2))) (3 ^ P) := ⟨_, rfl⟩
    have Hf : Hid (fewV (P : Int) (qs.map (·.2)) = (E : Int)) := by unfold Hid fewV; rw [hsok, hE]; rfl
    have hEP : E ≤ P := by rw [hE]; exact few_le_p _ _ _
    obtain ⟨R, hR⟩ : ∃ R : Nat → Nat, R = fun s => rowsF P (fun zs => spyV zs (qs.map (·.2))) s (3 ^ P) := ⟨_, rfl⟩
    have HR : Hid (∀ s : Nat, s ≤ P → rowsV (P : Int) (qs.map (·.2)) (s : Int) = (R s : Int)) := fun s hsP => by
      unfold rowsV
      rw [hsok, decide_eq_true (show 0 ≤ (s : Int) ∧ (s : Int) ≤ (P : Int) by omega), hR]; rfl
    have Hless : Hid (∀ s, s < E → R s = 0) := fun s hs => by rw [hR]; rw [hE] at hs; exact (rows_few (by omega) (by omega) hsok s).1 hs
    have Hat : Hid (0 < R E) := by rw [hR, hE]; exact (rows_few (by omega) (by omega) hsok _).2 rfl
    have Hrows := Lib.hid (fun (s : Nat) w h hB => implSpyRows (P : Int) (s : Int) qs B (.slice ao qs.length cap) w h hB)
    have hP4 : P ≤ 4 := by omega
    rw [hsok] at hs
    have Hs := Lib.hid hs
    have Hr := Lib.hid hr
    clear hs hsok hp hr h1 h4 hR hE
    obtain ⟨wo, rfl⟩ : ∃ wo : World, wo = w := ⟨_, rfl⟩
    go_enter Try.func39, Try.ntmps39
    go_wp2_with fail
    refine (Hs.out _ Hr.out hB).mono ?_
    rintro e w2 ⟨rfl, hb2⟩
    have Hb2 := Lib.hid hb2; clear hb2
    go_wp2_with fail
    go_loopw [5] (fun i wr => ∃ s : Nat, s ≤ E ∧ i = .int .i64 s ∧ Below wo.heap.size wo wr) (fun i _ => E - (intOf i).toNat)
    case atStart => exact ⟨0, Nat.zero_le _, rfl, Hb2.out⟩
    case round =>
      obtain ⟨s, hs, rfl, hbr⟩ := hrel
      have Hrr := Lib.hid (Hr.out.below (w' := wr) (fun q hq => hbr.block q (by omega)))
      have hBr : B ≤ wr.heap.size := by have := hbr.size; omega
      have Hbr := Lib.hid hbr
      have hrs := Hrows.out s wr Hrr.out hBr
      rw [HR.out s (by omega)] at hrs
      have hl := Hless.out s
      have ha := Hat.out
      by_cases hlt : s < E
      · rw [hl hlt] at hrs
        have Hrs := Lib.hid hrs
        clear hrs hl ha hbr
        go_wp2_with fail
        refine Hrs.out.mono ?_
        rintro e w4 ⟨rfl, hb4⟩
        have Hb4 := Lib.hid (Hbr.out.trans (hb4.mono Hbr.out.size))
        clear hb4
        go_wp2
        go_roundw
        case rel => exact ⟨s + 1, by omega, by go_num, Hb4.out⟩
        case measure => simp [intOf]; omega
      · obtain rfl : s = E := by omega
        generalize R s = T at *
        have Hrs := Lib.hid hrs
        have hT : ((T : Int) == 0) = false := by rw [beq_eq_false_iff_ne]; omega
        clear hrs hl ha hbr
        go_wp2_with fail
        refine Hrs.out.mono ?_
        rintro e w4 ⟨rfl, hb4⟩
        have Hb4 := Lib.hid (Hbr.out.trans (hb4.mono Hbr.out.size))
        clear hb4
        go_wp2
        go_ret
        exact ⟨by rw [Hf.out]; rfl, Hb4.out⟩
end Go.Proofs.Ytobbbmcppmohoaa
