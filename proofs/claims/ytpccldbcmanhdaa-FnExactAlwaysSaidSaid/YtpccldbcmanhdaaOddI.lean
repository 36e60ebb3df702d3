/- Contracts of the program's functions of chapter 6. -/
import Derived.Test.YtpccldbcmanhdaaOddK
namespace Go.Proofs.Ytpccldbcmanhdaa
open Go.RowKit Go.Joins
theorem wl_len_step (T : Nat) : ∀ k, (wl T (k + 1)).length = T % 2 + (wl (T / 2) k).length := by
  intro k
  induction k with
  | zero =>
    rw [wl_succ, List.length_append]
    have h := bit_mod T 0
    rw [Nat.shiftRight_zero] at h
    rw [h]
    cases T.testBit 0 <;> rfl
  | succ k ih =>
    rw [wl_succ, List.length_append, ih, wl_succ (T / 2) k, List.length_append, Nat.testBit_succ]
    cases (T / 2).testBit k <;> simp <;> omega
theorem wl_heads : ∀ (N T : Nat), N ≤ 32 → T < 2 ^ N → (wl T N).length = heads T := by
  intro N
  induction N with
  | zero =>
    intro T _ h
    obtain rfl : T = 0 := by simpa using h
    rw [heads_nil]; rfl
  | succ N ih =>
    intro T hN h
    have h32 : 2 ^ (N + 1) ≤ 2 ^ 32 := Nat.pow_le_pow_right (by omega) hN
    rw [wl_len_step, heads_step T (by omega), ih (T / 2) (by omega) (by rw [Nat.pow_succ] at h; omega)]
theorem nest_term {p kw k : Int} {ms : List (Int × Int)} : claimOk p (kw, ctermV p (k, ms)) = nestOk p kw (k, ms) := by
  cases hok : claimOk p (k, ms) with
  | false =>
    rw [(nest_no (kw := kw) hok).1, ctermV_no hok]
    cases h : claimOk p (kw, []) with
    | false => rfl
    | true =>
      obtain ⟨_, _, t, _, he⟩ := termOk_iff.1 (claimOk_iff.1 h).2.2.1
      have := congrArg List.length he
      cases t <;> simp [Tm.post] at this
  | true =>
    rw [ctermV_yes hok]
    unfold nestOk nestL
    rw [hok]; rfl
theorem nestV_term {p kw k : Int} {ms : List (Int × Int)} (h : nestOk p kw (k, ms) = true) : nestV p kw (k, ms) = (kw, ctermV p (k, ms)) := by
  have h1 := (nest_both h).1
  rw [ctermV_yes h1]
  unfold nestV nestL
  rw [h]; rfl
theorem nestV_none {p kw k : Int} {ms : List (Int × Int)} (h : nestOk p kw (k, ms) = false) : nestV p kw (k, ms) = (0, []) := by
  unfold nestV; rw [h]; rfl
/-- the result's variable, and the marks of what is said -/
theorem kind_laid2 (w : World) (l : Int) : ∃ w2 : World, w2 = (w.alloc (.cells #[.int .i64 0, .slice none 0 0] TC)).alloc (.cells #[.int .i64 0, .int .i64 l] TM) ∧
    Box w2 w.heap.size (.int .i64 0) (.slice none 0 0) ∧ w2.ownsRow (w.heap.size + 1) TM 2 (.slice (some ⟨w.heap.size + 1, 0, none⟩) 1 1) 1 (mcells [(0, l)]) ∧ Below w.heap.size w w2 ∧ w2.heap.size = w.heap.size + 2 := by
  obtain ⟨w1, e1, h1, b1, s1⟩ := Box.new w (.int .i64 0) (.slice none 0 0) TC
  have z1 : w1.heap.size = w.heap.size + 1 := by rw [e1]; simp
  obtain ⟨w2, e2⟩ : ∃ w2, w2 = w1.alloc (.cells #[.int .i64 0, .int .i64 l] TM) := ⟨_, rfl⟩
  have z2 : w2.heap.size = w.heap.size + 2 := by rw [e2]; simp [z1]
  have ho2 : w2.ownsRow (w.heap.size + 1) TM 2 (.slice (some ⟨w.heap.size + 1, 0, none⟩) 1 1) 1 (mcells [(0, l)]) := by
    have h := own_new w1 (w.heap.size + 1) 0 l (by omega)
    rw [z1] at h
    rw [e2]; exact h
  have b2 : Below w1.heap.size w1 w2 := by rw [e2]; exact (Below.refl _ _).alloc (Nat.le_refl _) _
  exact ⟨w2, by rw [e2, e1], h1.below b2, ho2, b1.trans (b2.mono (by omega)), z2⟩
attribute [local irreducible] holds tabN tabV holdsV sameV followsV alwaysV matterV claimOk mayT mayV ctabV ctabN storyV storyOk storyN storyT ctermV ctermL sayV neverV alwsV nestOk nestV kindOk kindV denyV denyOk allV
set_option maxRecDepth 100000 in
set_option maxHeartbeats 4000000 in
theorem implSayCount (p k : Int) (ms : List (Int × Int)) (B : Nat) (u : Value) (w : World) (hr : RdMarks w B u ms) (hB : B ≤ w.heap.size) :
    Calls Try.prog 18 #[.int .i64 p, .agg #[.int .i64 k, u]] w fun e w' => e = .returned (.int .i64 (sayV p (k, ms))) ∧ Below w.heap.size w w' := by
  have hc := fun w h hB => implClaimOk p k ms B u w h hB
  cases hok : claimOk p (k, ms) with
  | false =>
    have Hf := Lib.hid (sayV_no hok)
    rw [hok] at hc
    have Hc := Lib.hid hc; clear hc hok
    go_enter Try.func18, Try.ntmps18
    go_upto_region 1 with fail
    obtain ⟨w1, hw1, n1, n2, hbw, hsz⟩ := new_two w (.int .i64 k) u TC
    rw [← hw1]
    have Hr1 := Lib.hid (hr.below (w' := w1) (fun q hq => hbw.block q (by omega)))
    have hB1 : B ≤ w1.heap.size := by omega
    have Hbw := Lib.hid hbw; clear hbw hw1 hr
    go_wp2_with fail
    refine (Hc.out _ Hr1.out hB1).mono ?_
    rintro e w2 ⟨rfl, hb2⟩
    have Hb2 := Lib.hid (Hbw.out.trans (hb2.mono Hbw.out.size)); clear hb2
    go_wp2
    go_ret
    exact ⟨by rw [Hf.out]; rfl, Hb2.out⟩
  | true =>
    obtain ⟨h1, h4⟩ := p_of_claim hok
    have hf := sayV_yes hok
    have hm := fun w h hB => implClaimTable p k ms B u w h hB
    rw [ctabV_yes hok] at hm
    have Hm := Lib.hid hm
    have hlt := ctabN_lt (p := p) (c := (k, ms)) h1 h4
    rw [← wl_heads _ _ (p_pow h1 h4) (ctabN_pow (p := p) (k, ms))] at hf
    obtain ⟨N, hN⟩ : ∃ N : Nat, N = 2 ^ p.toNat := ⟨_, rfl⟩
    have hN16 : N ≤ 16 := by rw [hN]; exact two16 (by omega)
    have Hcnt := Lib.hid (fun w => implWorldCount p N (by rw [hN]; exact cnt_of p) h1 h4 w)
    rw [← hN] at hf
    have Hf := Lib.hid hf
    rw [hok] at hc
    have Hc := Lib.hid hc; clear hc hok hm hf h1 h4 hN
    generalize ctabN p (k, ms) = TT at *
    have Hlt := Lib.hid hlt; clear hlt
    go_enter Try.func18, Try.ntmps18
    go_upto_region 1 with fail
    obtain ⟨w1, hw1, n1, n2, hbw, hsz⟩ := new_two w (.int .i64 k) u TC
    rw [← hw1]
    have Hr1 := Lib.hid (hr.below (w' := w1) (fun q hq => hbw.block q (by omega)))
    have hB1 : B ≤ w1.heap.size := by omega
    have Hbw := Lib.hid hbw; clear hbw hw1 hr
    go_wp2_with fail
    refine (Hc.out _ Hr1.out hB1).mono ?_
    rintro e w2 ⟨rfl, hb2⟩
    have m1 := (hb2.cell (p := ⟨w.heap.size, 0, none⟩) hsz).trans n1
    have m2 := (hb2.cell (p := ⟨w.heap.size, 1, none⟩) hsz).trans n2
    have Hr2 := Lib.hid (Hr1.out.below (w' := w2) (fun q hq => hb2.block q (by omega)))
    have hB2 : B ≤ w2.heap.size := by have := hb2.size; omega
    have Hb2 := Lib.hid (Hbw.out.trans (hb2.mono Hbw.out.size)); clear hb2 n1 n2
    go_wp2_with fail
    refine (Hm.out _ Hr2.out hB2).mono ?_
    rintro e w3 ⟨rfl, hb3⟩
    have Hb3 := Lib.hid (Hb2.out.trans (hb3.mono Hb2.out.size)); clear hb3
    go_wp2_with fail
    refine (Hcnt.out _).mono ?_
    rintro e w' ⟨rfl, rfl⟩
    go_wp2_with fail
    obtain ⟨wo, hwo⟩ : ∃ wo : World, wo = w := ⟨_, rfl⟩
    go_loopw [6, 7, 17] (fun c _ i wr => ∃ k : Nat, k ≤ N ∧ i = .int .i64 k ∧ c = .int .i64 ((wl TT k).length : Nat) ∧ w3 = wr) (fun _ _ i _ => N - (intOf i).toNat)
    case atStart => exact ⟨0, Nat.zero_le _, rfl, rfl, rfl⟩
    case round =>
      obtain ⟨j, hj, rfl, rfl, rfl⟩ := hrel
      by_cases hlt : j < N
      · have hs := wl_succ TT j
        have hv := and_one_val (T := TT) (k := j) (by have := Hlt.out; omega)
        have hle := wl_le TT j
        have Hs : Hid ((wl TT (j + 1)).length = (wl TT j).length + (if TT.testBit j then 1 else 0)) := by
          unfold Hid
          rw [hs, List.length_append]
          cases TT.testBit j <;> rfl
        have hmn : min j 64 = j := by omega
        clear hs
        generalize (wl TT j).length = c at *
        cases hb : TT.testBit j with
        | true =>
          rw [hb, if_pos rfl] at hv
          have Hs1 : Hid ((wl TT (j + 1)).length = c + 1) := by unfold Hid; rw [Hs.out, hb]; rfl
          clear Hs hb
          go_wp2
          go_roundw
          case rel => exact ⟨j + 1, by omega, by go_num, by rw [Hs1.out]; try go_num, trivial⟩
          case measure => simp [intOf]; omega
        | false =>
          rw [hb, if_neg (by simp)] at hv
          have Hs1 : Hid ((wl TT (j + 1)).length = c) := by unfold Hid; rw [Hs.out, hb]; rfl
          clear Hs hb
          go_wp2
          go_roundw
          case rel => exact ⟨j + 1, by omega, by go_num, by rw [Hs1.out]; try go_num, trivial⟩
          case measure => simp [intOf]; omega
      · obtain rfl : j = N := by omega
        go_wp2
        go_ret
        exact ⟨by rw [Hf.out]; rfl, Hb3.out⟩
set_option maxRecDepth 100000 in
set_option maxHeartbeats 4000000 in
theorem implNeverSaid (p k : Int) (ms : List (Int × Int)) (B : Nat) (u : Value) (w : World) (hr : RdMarks w B u ms) (hB : B ≤ w.heap.size) :
    Calls Try.prog 23 #[.int .i64 p, .agg #[.int .i64 k, u]] w fun e w' => e = .returned (.bool (neverV p (k, ms))) ∧ Below w.heap.size w w' := by
  have Hm := Lib.hid (fun w h hB => implClaimTable p k ms B u w h hB)
  have Hf : Hid (neverV p (k, ms) = decide (ctabV p (k, ms) = 0)) := by
    unfold Hid
    cases hok : claimOk p (k, ms) with
    | false => rw [neverV_no hok, ctabV_no hok]; rfl
    | true =>
      rw [neverV_yes hok, ctabV_yes hok, decide_eq_decide]
      omega
  generalize ctabV p (k, ms) = V at *
  go_enter Try.func23, Try.ntmps23
  go_upto_region 1 with fail
  obtain ⟨w1, hw1, n1, n2, hbw, hsz⟩ := new_two w (.int .i64 k) u TC
  rw [← hw1]
  have Hr1 := Lib.hid (hr.below (w' := w1) (fun q hq => hbw.block q (by omega)))
  have hB1 : B ≤ w1.heap.size := by omega
  have Hbw := Lib.hid hbw; clear hbw hw1 hr
  go_wp2_with fail
  refine (Hm.out _ Hr1.out hB1).mono ?_
  rintro e w2 ⟨rfl, hb2⟩
  have Hb2 := Lib.hid (Hbw.out.trans (hb2.mono Hbw.out.size)); clear hb2
  go_wp2
  go_ret
  exact ⟨ret_bool (by rw [Hf.out]; first | rfl | (rw [Bool.eq_iff_iff]; simp)), Hb2.out⟩
set_option maxRecDepth 100000 in
set_option maxHeartbeats 4000000 in
theorem implAlwaysSaid (p k : Int) (ms : List (Int × Int)) (B : Nat) (u : Value) (w : World) (hr : RdMarks w B u ms) (hB : B ≤ w.heap.size) :
    Calls Try.prog 24 #[.int .i64 p, .agg #[.int .i64 k, u]] w fun e w' => e = .returned (.bool (alwsV p (k, ms))) ∧ Below w.heap.size w w' := by
  have hc := fun w h hB => implClaimOk p k ms B u w h hB
  cases hok : claimOk p (k, ms) with
  | false =>
    have Hf := Lib.hid (alwsV_no hok)
    rw [hok] at hc
    have Hc := Lib.hid hc; clear hc hok
    go_enter Try.func24, Try.ntmps24
    go_upto_region 1 with fail
    obtain ⟨w1, hw1, n1, n2, hbw, hsz⟩ := new_two w (.int .i64 k) u TC
    rw [← hw1]
    have Hr1 := Lib.hid (hr.below (w' := w1) (fun q hq => hbw.block q (by omega)))
    have hB1 : B ≤ w1.heap.size := by omega
    have Hbw := Lib.hid hbw; clear hbw hw1 hr
    go_wp2_with fail
    refine (Hc.out _ Hr1.out hB1).mono ?_
    rintro e w2 ⟨rfl, hb2⟩
    have Hb2 := Lib.hid (Hbw.out.trans (hb2.mono Hbw.out.size)); clear hb2
    go_wp2
    go_ret
    exact ⟨by rw [Hf.out]; rfl, Hb2.out⟩
  | true =>
    obtain ⟨h1, h4⟩ := p_of_claim hok
    have hm := fun w h hB => implClaimTable p k ms B u w h hB
    rw [ctabV_yes hok] at hm
    have Hm := Lib.hid hm
    have Haw := Lib.hid (fun w => implAllWorlds p h1 h4 w)
    have Hf : Hid (alwsV p (k, ms) = ((ctabN p (k, ms) : Int) == allV p)) := by
      unfold Hid
      rw [alwsV_yes hok]
      unfold allV
      have h2 : 1 ≤ 2 ^ 2 ^ p.toNat := Nat.one_le_two_pow
      rw [Bool.eq_iff_iff, decide_eq_true_eq, beq_iff_eq]
      omega
    rw [hok] at hc
    have Hc := Lib.hid hc; clear hc hok hm h1 h4
    generalize ctabN p (k, ms) = TT at *
    generalize allV p = F at *
    go_enter Try.func24, Try.ntmps24
    go_upto_region 1 with fail
    obtain ⟨w1, hw1, n1, n2, hbw, hsz⟩ := new_two w (.int .i64 k) u TC
    rw [← hw1]
    have Hr1 := Lib.hid (hr.below (w' := w1) (fun q hq => hbw.block q (by omega)))
    have hB1 : B ≤ w1.heap.size := by omega
    have Hbw := Lib.hid hbw; clear hbw hw1 hr
    go_wp2_with fail
    refine (Hc.out _ Hr1.out hB1).mono ?_
    rintro e w2 ⟨rfl, hb2⟩
    have m1 := (hb2.cell (p := ⟨w.heap.size, 0, none⟩) hsz).trans n1
    have m2 := (hb2.cell (p := ⟨w.heap.size, 1, none⟩) hsz).trans n2
    have Hr2 := Lib.hid (Hr1.out.below (w' := w2) (fun q hq => hb2.block q (by omega)))
    have hB2 : B ≤ w2.heap.size := by have := hb2.size; omega
    have Hb2 := Lib.hid (Hbw.out.trans (hb2.mono Hbw.out.size)); clear hb2 n1 n2
    go_wp2_with fail
    refine (Hm.out _ Hr2.out hB2).mono ?_
    rintro e w3 ⟨rfl, hb3⟩
    have Hb3 := Lib.hid (Hb2.out.trans (hb3.mono Hb2.out.size)); clear hb3
    go_wp2_with fail
    refine (Haw.out _).mono ?_
    rintro e w' ⟨rfl, rfl⟩
    go_wp2
    go_ret
    exact ⟨ret_bool (by rw [Hf.out]), Hb3.out⟩
set_option maxRecDepth 100000 in
set_option maxHeartbeats 4000000 in
theorem implNestedClaim (p kw k : Int) (ms : List (Int × Int)) (B : Nat) (u : Value) (w : World) (hr : RdMarks w B u ms) (hB : B ≤ w.heap.size) :
    Calls Try.prog 33 #[.int .i64 p, .int .i64 kw, .agg #[.int .i64 k, u]] w (ClaimOut (nestV p kw (k, ms)) (nestOk p kw (k, ms)) w) := by
  obtain ⟨w2, hw2, hx2, hy2, hb2, hs2⟩ := two_boxes w k u
  have Hr2 := Lib.hid (hr.below (w' := w2) (fun q hq => hb2.block q (by omega)))
  have hB2 : B ≤ w2.heap.size := by omega
  have HI : Hid (I64s (ctermV p (k, ms))) := by
    obtain ⟨_, _, _, _, _, h, _⟩ := hr
    exact I64s_ctermV h
  have HY2 := Lib.hid hy2
  have HB2 := Lib.hid hb2
  have Hct := Lib.hid (fun w h hB => implClaimTerm p k ms B u w h hB)
  obtain ⟨x1, x2, x3, x4, x5⟩ := hx2
  clear hr hb2 hy2
  cases hok : nestOk p kw (k, ms) with
  | false =>
    have Hif := Lib.hid (fun B u w h hB => implClaimIfOk_no (nest_term.trans hok) B u w h hB)
    have Hf := Lib.hid (nestV_none hok)
    clear hok
    generalize nestV p kw (k, ms) = NV at *
    generalize ctermV p (k, ms) = L at *
    go_enter Try.func33, Try.ntmps33
    go_upto_region 1 with fail
    rw [← hw2]
    clear hw2
    go_wp2_with fail
    refine (Hct.out _ Hr2.out hB2).mono ?_
    rintro e w3 ⟨v3, rfl, ho3, hb3⟩
    obtain ⟨a3, c3, hv3⟩ := own_len ho3
    subst hv3
    have HY3 := Lib.hid (HY2.out.below (hb3.mono (by omega)))
    have HB3 := Lib.hid (HB2.out.trans (hb3.mono (by omega)))
    have HR3 := Lib.hid (RdMarks.of_own ho3 HI.out)
    have HO3 := Lib.hid ho3
    have hs3 := hb3.size
    clear ho3 hb3 x1 x2 x3 x4 x5
    go_wp2_with fail
    refine (Hif.out w3.heap.size _ w3 HR3.out (Nat.le_refl _)).mono ?_
    rintro e w6 ⟨rfl, hb6⟩
    have hy6 := HY3.out.below hb6
    obtain ⟨w7, e7, hx7, hout⟩ := claim_none (w := w) (by omega) hy6 (HB3.out.trans (hb6.mono HB3.out.size)) ⟨rfl, Hf.out⟩
    have E7 := Lib.hid e7
    have Hout := Lib.hid hout
    obtain ⟨y1, y2, y3, y4, y5⟩ := hy6
    clear e7 hout hb6
    go_wp2
    rw [← E7.out]
    obtain ⟨z1, z2, _⟩ := hx7
    exact bodyPost_ret (by simp [results, Try.results33, go_sem, z1, z2]) rfl Hout.out
  | true =>
    have Hif := Lib.hid (fun B u w h hB => implClaimIfOk_yes (nest_term.trans hok) B u w h hB)
    have Hf := Lib.hid (nestV_term hok)
    clear hok
    generalize nestV p kw (k, ms) = NV at *
    generalize ctermV p (k, ms) = L at *
    go_enter Try.func33, Try.ntmps33
    go_upto_region 1 with fail
    rw [← hw2]
    clear hw2
    go_wp2_with fail
    refine (Hct.out _ Hr2.out hB2).mono ?_
    rintro e w3 ⟨v3, rfl, ho3, hb3⟩
    obtain ⟨a3, c3, hv3⟩ := own_len ho3
    subst hv3
    have HY3 := Lib.hid (HY2.out.below (hb3.mono (by omega)))
    have HB3 := Lib.hid (HB2.out.trans (hb3.mono (by omega)))
    have HR3 := Lib.hid (RdMarks.of_own ho3 HI.out)
    have HO3 := Lib.hid ho3
    have hs3 := hb3.size
    clear ho3 hb3 x1 x2 x3 x4 x5
    go_wp2_with fail
    refine (Hif.out w3.heap.size _ w3 HR3.out (Nat.le_refl _)).mono ?_
    rintro e w6 ⟨rfl, hb6⟩
    have hy6 := HY3.out.below hb6
    obtain ⟨w7, e7, hx7, hout⟩ := claim_some (w := w) (base := w2.heap.size) (k := kw) (by omega) (by omega) hy6 (HB3.out.trans (hb6.mono HB3.out.size)) (own_below HO3.out hb6) ⟨rfl, Hf.out⟩
    have E7 := Lib.hid e7
    have Hout := Lib.hid hout
    obtain ⟨y1, y2, y3, y4, y5⟩ := hy6
    clear e7 hout hb6
    go_wp2
    rw [← E7.out]
    obtain ⟨z1, z2, _⟩ := hx7
    exact bodyPost_ret (by simp [results, Try.results33, go_sem, z1, z2]) rfl Hout.out
set_option maxRecDepth 100000 in
set_option maxHeartbeats 4000000 in
theorem implKindClaim (p k l : Int) (t : Bool) (hl : I64 l) (w : World) :
    Calls Try.prog 28 #[.int .i64 p, .int .i64 k, .int .i64 l, .bool t] w (ClaimOut (kindV p k l t) (kindOk p k l t) w) := by
  obtain ⟨im, hmi, hmz0, hmz1, hmz2⟩ := info_parts Try.infoM
  have Mi := Lib.hid hmi; clear hmi
  have Mz0 := Lib.hid hmz0; clear hmz0
  have Mz1 := Lib.hid hmz1; clear hmz1
  have Mz2 := Lib.hid hmz2; clear hmz2
  obtain ⟨w2, hw2, hx2, ho2, hb2, hs2⟩ := kind_laid2 w l
  have HX2 := Lib.hid hx2
  have HO2 := Lib.hid ho2
  have HB2 := Lib.hid hb2
  have Hl := Lib.hid hl
  clear hx2 ho2 hb2 hl
  cases t with
  | true =>
    have hcl : claimOk p (k, [(0, l)]) = kindOk p k l true := by unfold kindOk; rfl
    have HI : Hid (I64s [((0 : Int), l)]) := I64s_one (I64_small (by omega) (by omega)) Hl.out
    cases hok : kindOk p k l true with
    | false =>
      have Hf := Lib.hid (kindV_no hok)
      have Hif := Lib.hid (fun B u w h hB => implClaimIfOk_no (hcl.trans hok) B u w h hB)
      clear hok hcl
      go_enter Try.func28, Try.ntmps28
      go_upto_region 2 with fail
      rw [← hw2]
      clear hw2
      go_wp2_with fail
      refine (Hif.out w2.heap.size _ w2 (RdMarks.of_own (ms := [(0, l)]) HO2.out HI.out) (Nat.le_refl _)).mono ?_
      rintro e w6 ⟨rfl, hb6⟩
      have hx6 := HX2.out.below hb6
      obtain ⟨w7, e7, hx7, hout⟩ := claim_none (w := w) (by omega) hx6 (HB2.out.trans (hb6.mono (by omega))) (by have h := Hf.out; exact h)
      rw [Hf.out.1] at hout
      have E7 := Lib.hid e7
      have Hout := Lib.hid hout
      obtain ⟨y1, y2, y3, y4, y5⟩ := hx6
      clear e7 hout hb6
      go_wp2
      rw [← E7.out]
      obtain ⟨z1, z2, _⟩ := hx7
      exact bodyPost_ret (by simp [results, Try.results28, go_sem, z1, z2]) rfl Hout.out
    | true =>
      have Hf := Lib.hid (kindV_yes hok)
      have Hif := Lib.hid (fun B u w h hB => implClaimIfOk_yes (hcl.trans hok) B u w h hB)
      clear hok hcl
      go_enter Try.func28, Try.ntmps28
      go_upto_region 2 with fail
      rw [← hw2]
      clear hw2
      go_wp2_with fail
      refine (Hif.out w2.heap.size _ w2 (RdMarks.of_own (ms := [(0, l)]) HO2.out HI.out) (Nat.le_refl _)).mono ?_
      rintro e w6 ⟨rfl, hb6⟩
      have hx6 := HX2.out.below hb6
      obtain ⟨w7, e7, hx7, hout⟩ := claim_some (w := w) (base := w.heap.size + 1) (k := k) (ms := [(0, l)]) (Nat.le_refl _) (by omega) hx6 (HB2.out.trans (hb6.mono (by omega))) (own_below HO2.out hb6) (by have h := Hf.out; exact h)
      rw [Hf.out.1] at hout
      have E7 := Lib.hid e7
      have Hout := Lib.hid hout
      obtain ⟨y1, y2, y3, y4, y5⟩ := hx6
      clear e7 hout hb6
      go_wp2
      rw [← E7.out]
      obtain ⟨z1, z2, _⟩ := hx7
      exact bodyPost_ret (by simp [results, Try.results28, go_sem, z1, z2]) rfl Hout.out
  | false =>
    have hcl : claimOk p (k, [(0, l), (2, 0)]) = kindOk p k l false := by unfold kindOk; rfl
    have HI : Hid (I64s [((0 : Int), l), (2, 0)]) := I64s_two (I64_small (by omega) (by omega)) Hl.out (I64_small (by omega) (by omega)) (I64_small (by omega) (by omega))
    cases hok : kindOk p k l false with
    | false =>
      have Hf := Lib.hid (kindV_no hok)
      have Hif := Lib.hid (fun B u w h hB => implClaimIfOk_no (hcl.trans hok) B u w h hB)
      clear hok hcl
      go_enter Try.func28, Try.ntmps28
      go_upto_region 2 with fail
      rw [← hw2]
      clear hw2
      go_wp2_with (first
        | (at_builtin; refine wpList_append_own_at _ rfl (.tmp 16) (.tmp 18) 23 rfl (w.heap.size + 1) TM im (.agg #[.int .i64 0, .int .i64 0]) 2 16 Try.underlying23 Mi.out Mz0.out Mz1.out Mz2.out rfl (by decide) _ _ _ rfl (HO2.out.alloc _) ⟨w.heap.size + 2, 0, none⟩ 1 1 (mcells [(2, 0)]) rfl rfl (news2 _ _ (by omega) _ _ _) (mcells_one _) (by unfold maxLen; omega) (by omega) (by simp; omega) ?_
           go_must (intro v4 w4 hown4 hgr4 _ hat4
                    have hgr4' : (w2.alloc (.cells #[.int .i64 2, .int .i64 0] TM)).grownBy w4 (some (w.heap.size + 1)) := hgr4
                    have Hx4 := Lib.hid ((HX2.out.alloc (.cells #[.int .i64 2, .int .i64 0] TM)).grown hgr4' (by simp))
                    have Hb4 := Lib.hid (below_rowD (HB2.out.alloc (by omega) (.cells #[.int .i64 2, .int .i64 0] TM)) hgr4' (fun q hq => by cases hq; omega))
                    have hs4 := hgr4'.size
                    simp at hs4
                    have hat4' : v4.ownBlock = some (w.heap.size + 1) ∨ v4.ownBlock = some (w2.alloc (.cells #[.int .i64 2, .int .i64 0] TM)).heap.size := hat4
                    obtain ⟨a4, c4, hv4⟩ := own_len hown4
                    subst hv4
                    have Hown4 : Hid (w4.ownsRow (w.heap.size + 1) TM 2 (.slice a4 (1 + 1) c4) 2 (mcells [(0, l), (2, 0)])) := hown4
                    clear hown4 hgr4 hgr4' hat4 hat4'))
        | fail)
      refine (Hif.out w4.heap.size _ w4 (RdMarks.of_own (ms := [(0, l), (2, 0)]) Hown4.out HI.out) (Nat.le_refl _)).mono ?_
      rintro e w6 ⟨rfl, hb6⟩
      have hx6 := Hx4.out.below hb6
      obtain ⟨w7, e7, hx7, hout⟩ := claim_none (w := w) (by omega) hx6 (Hb4.out.trans (hb6.mono (by omega))) (by have h := Hf.out; exact h)
      rw [Hf.out.1] at hout
      have E7 := Lib.hid e7
      have Hout := Lib.hid hout
      obtain ⟨y1, y2, y3, y4, y5⟩ := hx6
      clear e7 hout hb6
      go_wp2
      rw [← E7.out]
      obtain ⟨z1, z2, _⟩ := hx7
      exact bodyPost_ret (by simp [results, Try.results28, go_sem, z1, z2]) rfl Hout.out
    | true =>
      have Hf := Lib.hid (kindV_yes hok)
      have Hif := Lib.hid (fun B u w h hB => implClaimIfOk_yes (hcl.trans hok) B u w h hB)
      clear hok hcl
      go_enter Try.func28, Try.ntmps28
      go_upto_region 2 with fail
      rw [← hw2]
      clear hw2
      go_wp2_with (first
        | (at_builtin; refine wpList_append_own_at _ rfl (.tmp 16) (.tmp 18) 23 rfl (w.heap.size + 1) TM im (.agg #[.int .i64 0, .int .i64 0]) 2 16 Try.underlying23 Mi.out Mz0.out Mz1.out Mz2.out rfl (by decide) _ _ _ rfl (HO2.out.alloc _) ⟨w.heap.size + 2, 0, none⟩ 1 1 (mcells [(2, 0)]) rfl rfl (news2 _ _ (by omega) _ _ _) (mcells_one _) (by unfold maxLen; omega) (by omega) (by simp; omega) ?_
           go_must (intro v4 w4 hown4 hgr4 _ hat4
                    have hgr4' : (w2.alloc (.cells #[.int .i64 2, .int .i64 0] TM)).grownBy w4 (some (w.heap.size + 1)) := hgr4
                    have Hx4 := Lib.hid ((HX2.out.alloc (.cells #[.int .i64 2, .int .i64 0] TM)).grown hgr4' (by simp))
                    have Hb4 := Lib.hid (below_rowD (HB2.out.alloc (by omega) (.cells #[.int .i64 2, .int .i64 0] TM)) hgr4' (fun q hq => by cases hq; omega))
                    have hs4 := hgr4'.size
                    simp at hs4
                    have hat4' : v4.ownBlock = some (w.heap.size + 1) ∨ v4.ownBlock = some (w2.alloc (.cells #[.int .i64 2, .int .i64 0] TM)).heap.size := hat4
                    obtain ⟨a4, c4, hv4⟩ := own_len hown4
                    subst hv4
                    have Hown4 : Hid (w4.ownsRow (w.heap.size + 1) TM 2 (.slice a4 (1 + 1) c4) 2 (mcells [(0, l), (2, 0)])) := hown4
                    clear hown4 hgr4 hgr4' hat4 hat4'))
        | fail)
      refine (Hif.out w4.heap.size _ w4 (RdMarks.of_own (ms := [(0, l), (2, 0)]) Hown4.out HI.out) (Nat.le_refl _)).mono ?_
      rintro e w6 ⟨rfl, hb6⟩
      have hx6 := Hx4.out.below hb6
      obtain ⟨w7, e7, hx7, hout⟩ := claim_some (w := w) (base := w.heap.size + 1) (k := k) (ms := [(0, l), (2, 0)]) (Nat.le_refl _) (by omega) hx6 (Hb4.out.trans (hb6.mono (by omega))) (own_below Hown4.out hb6) (by have h := Hf.out; exact h)
      rw [Hf.out.1] at hout
      have E7 := Lib.hid e7
      have Hout := Lib.hid hout
      obtain ⟨y1, y2, y3, y4, y5⟩ := hx6
      clear e7 hout hb6
      go_wp2
      rw [← E7.out]
      obtain ⟨z1, z2, _⟩ := hx7
      exact bodyPost_ret (by simp [results, Try.results28, go_sem, z1, z2]) rfl Hout.out
end Go.Proofs.Ytpccldbcmanhdaa
