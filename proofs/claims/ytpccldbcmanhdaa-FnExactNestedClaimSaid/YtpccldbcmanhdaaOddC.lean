/- Contracts of the reference's odd claims: always said, claims of claims, claims of kinds. -/
import Derived.Test.YtpccldbcmanhdaaClaimD
import Derived.Test.YtpccldbcmanhdaaOdd
import Derived.Deep.RegionHeld3
import Derived.Deep.RegionWith
namespace Go.Proofs.Ytpccldbcmanhdaa
open Go.RowKit Go.Joins
theorem claim_none {w w3 : World} {g : Nat} {a b : Value} {c : Cl} {o : Bool} (hg : w.heap.size ≤ g) (hx : Box w3 g a b) (hb : Below w.heap.size w w3) (h : o = false ∧ c = (0, [])) :
    ∃ w4, w4 = (w3.setCell ⟨g, 0, none⟩ (.int .i64 0)).setCell ⟨g, 1, none⟩ (.slice none 0 0) ∧ Box w4 g (.int .i64 0) (.slice none 0 0) ∧ ClaimOut c o w (.returned (.tuple #[.agg #[.int .i64 0, .slice none 0 0], .bool false])) w4 := by
  obtain ⟨rfl, rfl⟩ := h
  obtain ⟨w4, e4, h4, g4⟩ := hx.set (.int .i64 0) (.slice none 0 0)
  exact ⟨w4, e4, h4, _, rfl, World.ownsRow_nil _ _ _ _, below_rowD hb g4 (fun q hq => by cases hq; exact hg)⟩
theorem claim_some {w w5 : World} {base : Nat} {k : Int} {ms : List (Int × Int)} {g : Nat} {a b x : Value} {c : Cl} {o : Bool} (hg : w.heap.size ≤ g) (hgr : g < base) (hx : Box w5 g a b) (hb : Below w.heap.size w w5) (ho : w5.ownsRow base TM 2 x ms.length (mcells ms)) (h : o = true ∧ c = (k, ms)) :
    ∃ w6, w6 = (w5.setCell ⟨g, 0, none⟩ (.int .i64 k)).setCell ⟨g, 1, none⟩ x ∧ Box w6 g (.int .i64 k) x ∧ ClaimOut c o w (.returned (.tuple #[.agg #[.int .i64 k, x], .bool true])) w6 := by
  obtain ⟨rfl, rfl⟩ := h
  obtain ⟨w6, e6, h6, g6⟩ := hx.set (.int .i64 k) x
  exact ⟨w6, e6, h6, x, rfl, own_mono (own_row ho g6 hgr) (by omega), below_rowD hb g6 (fun q hq => by cases hq; exact hg)⟩
theorem nest_no {p kw : Int} {c : Cl} (h : claimOk p c = false) : nestOk p kw c = false ∧ nestV p kw c = (0, []) := by
  have h1 : nestOk p kw c = false := by unfold nestOk; rw [h]; rfl
  exact ⟨h1, by unfold nestV; rw [h1]; rfl⟩
theorem nest_no2 {p kw : Int} {c : Cl} (h : claimOk p (kw, ctermL c) = false) : nestOk p kw c = false ∧ nestV p kw c = (0, []) := by
  have h1 : nestOk p kw c = false := by
    unfold nestOk nestL
    cases claimOk p c
    · rfl
    · exact h
  exact ⟨h1, by unfold nestV; rw [h1]; rfl⟩
theorem nest_yes {p kw : Int} {c : Cl} (h : claimOk p c = true) (h' : claimOk p (kw, ctermL c) = true) : nestOk p kw c = true ∧ nestV p kw c = (kw, ctermL c) := by
  have h1 : nestOk p kw c = true := by unfold nestOk nestL; rw [h]; exact h'
  exact ⟨h1, by unfold nestV; rw [h1]; rfl⟩
attribute [local irreducible] holds tabN tabV holdsV sameV followsV alwaysV matterV claimOk mayT mayV ctabV ctabN storyV storyOk storyN storyT ctermV ctermL sayV neverV alwsV nestOk nestV kindOk kindV
set_option maxRecDepth 100000 in
set_option maxHeartbeats 4000000 in
theorem specAlwaysSaid (p k : Int) (ms : List (Int × Int)) (B : Nat) (u : Value) (w : World) (hr : RdMarks w B u ms) (hB : B ≤ w.heap.size) :
    Calls Try.prog 31 #[.int .i64 p, .agg #[.int .i64 k, u]] w fun e w' => e = .returned (.bool (alwsV p (k, ms))) ∧ Below w.heap.size w w' := by
  have hc := fun w h hB => specClaimOk p k ms B u w h hB
  cases hok : claimOk p (k, ms) with
  | false =>
    have Hf := Lib.hid (alwsV_no hok)
    rw [hok] at hc
    have Hc := Lib.hid hc; clear hc hok
    go_enter Try.func31, Try.ntmps31
    go_upto_region 1 with fail
    obtain ⟨w1, hw1, n1, n2, hbw, hsz⟩ := new_two w (.int .i64 k) u TC
    rw [← hw1]
    have Hr1 := Lib.hid (hr.below (w' := w1) (fun q hq => hbw.block q (by omega)))
    have hB1 : B ≤ w1.heap.size := by omega
    have Hbw := Lib.hid hbw; clear hbw hw1 hr
    first
      | (go_region_with
          (first
            | (go_at_call 27
               (with_reducible refine (Hc.out _ ?_ ?_).mono ?_)
               · exact Hr1.out
               · exact hB1
               rintro e w2 ⟨rfl, hb2'⟩
               go_must (have hb2 : Below w1.heap.size w1 w2 := by first | exact hb2' | exact below_undrewS hb2' | exact below_undrewN hb2'
                        have Hb2 := Lib.hid (Hbw.out.trans (hb2.mono Hbw.out.size))
                        clear hb2 hb2'))
            | fail))
      | fail
    all_goals go_wp2
    all_goals
      go_ret
      exact ⟨by rw [Hf.out]; rfl, by first | exact Hb2.out | exact below_drew1 Hb2.out | exact below_drewN Hb2.out _⟩
  | true =>
    obtain ⟨h1, h4⟩ := p_of_claim hok
    have hf := alwsV_yes hok
    have Hm := Lib.hid (fun w h hB => specClaimTab hok B u w h hB)
    have hlt := ctabN_lt (p := p) (c := (k, ms)) h1 h4
    rw [hok] at hc
    have Hc := Lib.hid hc; clear hc hok
    generalize ctabN p (k, ms) = TT at *
    generalize alwsV p (k, ms) = av at *
    rcases p_cases h1 h4 with rfl | rfl | rfl | rfl
    all_goals
      simp at hf
      have Hf := Lib.hid hf; clear hf
      clear h1 h4
      go_enter Try.func31, Try.ntmps31
      go_upto_region 1 with fail
      obtain ⟨w1, hw1, n1, n2, hbw, hsz⟩ := new_two w (.int .i64 k) u TC
      rw [← hw1]
      have Hr1 := Lib.hid (hr.below (w' := w1) (fun q hq => hbw.block q (by omega)))
      have hB1 : B ≤ w1.heap.size := by omega
      have Hbw := Lib.hid hbw; clear hbw hw1 hr
      go_region_held3 (fun w' => w'.cell? ⟨w.heap.size, 0, none⟩ = some (.int .i64 k) ∧ w'.cell? ⟨w.heap.size, 1, none⟩ = some u)
        (first | (refine ⟨?_, ?_⟩ <;> first | go_keep | assumption) | assumption)
        (first
          | (go_at_call 27
             (with_reducible refine (Hc.out _ ?_ ?_).mono ?_)
             · exact Hr1.out
             · exact hB1
             rintro e w2 ⟨rfl, hb2'⟩
             go_must (have hb2 : Below w1.heap.size w1 w2 := by first | exact hb2' | exact below_undrewS hb2' | exact below_undrewN hb2'
                      clear hb2'
                      have m1 := (hb2.cell (p := ⟨w.heap.size, 0, none⟩) hsz).trans n1
                      have m2 := (hb2.cell (p := ⟨w.heap.size, 1, none⟩) hsz).trans n2
                      have Hr2 := Lib.hid (Hr1.out.below (w' := w2) (fun q hq => hb2.block q (by omega)))
                      have hB2 : B ≤ w2.heap.size := by have := hb2.size; omega
                      have hsz2 : w.heap.size < w2.heap.size := by have := hb2.size; omega
                      have Hb2 := Lib.hid (Hbw.out.trans (hb2.mono Hbw.out.size))
                      clear hb2))
          | (go_at_call 61
             (with_reducible refine (Hm.out _ ?_ ?_).mono ?_)
             · exact Hr2.out
             · exact hB2
             rintro e w3 ⟨rfl, hb3'⟩
             go_must (have hb3 : Below w2.heap.size w2 w3 := by first | exact hb3' | exact below_undrewS hb3' | exact below_undrewN hb3'
                      clear hb3'
                      have q1 := (hb3.cell (p := ⟨w.heap.size, 0, none⟩) hsz2).trans m1
                      have q2 := (hb3.cell (p := ⟨w.heap.size, 1, none⟩) hsz2).trans m2
                      have Hb3 := Lib.hid (Hb2.out.trans (hb3.mono Hb2.out.size))
                      clear hb3))
          | fail)
      go_wp2
      go_ret
      exact ⟨ret_bool (by rw [Hf.out, Bool.eq_iff_iff]; simp; first | (rw [show IntKind.i64.wrap (IntKind.i64.wrap (2 ^ min (IntKind.u64.wrap 2).toNat 64) - 1) = 3 by decide +kernel]; omega) | (rw [show IntKind.i64.wrap (IntKind.i64.wrap (2 ^ min (IntKind.u64.wrap 4).toNat 64) - 1) = 15 by decide +kernel]; omega) | (rw [show IntKind.i64.wrap (IntKind.i64.wrap (2 ^ min (IntKind.u64.wrap 8).toNat 64) - 1) = 255 by decide +kernel]; omega) | (rw [show IntKind.i64.wrap (IntKind.i64.wrap (2 ^ min (IntKind.u64.wrap 16).toNat 64) - 1) = 65535 by decide +kernel]; omega)), by first | exact Hb3.out | exact below_drew1 Hb3.out | exact below_drewN Hb3.out _⟩
set_option maxRecDepth 100000 in
set_option maxHeartbeats 4000000 in
theorem specNestedClaim (p kw k : Int) (ms : List (Int × Int)) (B : Nat) (u : Value) (w : World) (hr : RdMarks w B u ms) (hB : B ≤ w.heap.size) :
    Calls Try.prog 34 #[.int .i64 p, .int .i64 kw, .agg #[.int .i64 k, u]] w (ClaimOut (nestV p kw (k, ms)) (nestOk p kw (k, ms)) w) := by
  obtain ⟨w2, hw2, hx2, hy2, hb2, hs2⟩ := two_boxes w k u
  have Hr2 := Lib.hid (hr.below (w' := w2) (fun q hq => hb2.block q (by omega)))
  have hB2 : B ≤ w2.heap.size := by omega
  have hI0 : I64s ms := by
    obtain ⟨_, _, _, _, _, h, _⟩ := hr
    exact h
  have HX2 := Lib.hid hx2
  have HY2 := Lib.hid hy2
  have HB2 := Lib.hid hb2
  have Hct := Lib.hid (fun w h hB => specClaimTerm p k ms B u w h hB)
  have hc1 := fun w h hB => specClaimOk p k ms B u w h hB
  obtain ⟨x1, x2, x3, x4, x5⟩ := hx2
  clear hr hb2 hy2
  cases hok : claimOk p (k, ms) with
  | false =>
    have Hf := Lib.hid (nest_no (kw := kw) hok)
    rw [hok] at hc1
    have Hc1 := Lib.hid hc1; clear hc1 hok
    go_enter Try.func34, Try.ntmps34
    go_upto_region 1 with fail
    rw [← hw2]
    clear hw2
    go_wp2_with fail
    refine (Hct.out _ Hr2.out hB2).mono ?_
    rintro e w3 ⟨v3, rfl, ho3, hb3⟩
    obtain ⟨a3, c3, hv3⟩ := own_len ho3
    subst hv3
    have hx3 := HX2.out.below (hb3.mono (by omega))
    have hy3 := HY2.out.below (hb3.mono (by omega))
    have Hr3 := Lib.hid (Hr2.out.below (w' := w3) (fun q hq => hb3.block q (by omega)))
    have HB3 := Lib.hid (HB2.out.trans (hb3.mono (by omega)))
    have hs3 := hb3.size
    go_upto_region 2 with fail
    obtain ⟨w4, hw4, hz4, hb4, hs4⟩ := Box.new w3 (.int .i64 kw) (.slice a3 (ctermV p (k, ms)).length c3) TC
    rw [← hw4]
    have hx4 := hx3.below hb4
    have HY4 := Lib.hid (hy3.below hb4)
    have Hr4 := Lib.hid (Hr3.out.below (w' := w4) (fun q hq => hb4.block q (by omega)))
    have HB4 := Lib.hid (HB3.out.trans (hb4.mono (by omega)))
    have HO4 := Lib.hid (own_below ho3 hb4)
    have HZ4 := Lib.hid hz4
    obtain ⟨x1, x2, x3, x4, x5⟩ := hx4
    clear hw4 hx3 hy3 ho3 hb3 hb4 hz4
    go_wp2_with fail
    refine (Hc1.out _ Hr4.out (by omega)).mono ?_
    rintro e w5 ⟨rfl, hb5⟩
    have HY5 := Lib.hid (HY4.out.below (hb5.mono (by omega)))
    have hz5 := HZ4.out.below hb5
    have HO5 := Lib.hid (own_below HO4.out hb5)
    have HB5 := Lib.hid (HB4.out.trans (hb5.mono (by omega)))
    have hs5 := hb5.size
    clear hb5 x1 x2 x3 x4 x5
    obtain ⟨w6, e6, hx6, hout⟩ := claim_none (w := w) (by omega) HY5.out HB5.out Hf.out
    have E6 := Lib.hid e6
    have Hout := Lib.hid hout
    obtain ⟨y1, y2, y3, y4, y5⟩ := HY5.out
    clear e6 hout hz5
    go_wp2
    rw [← E6.out]
    obtain ⟨z1, z2, _⟩ := hx6
    exact bodyPost_ret (by simp [results, Try.results34, go_sem, z1, z2]) rfl Hout.out
  | true =>
    rw [hok] at hc1
    have Hc1 := Lib.hid hc1; clear hc1
    have HI : Hid (I64s (ctermV p (k, ms))) := I64s_ctermV hI0
    rw [ctermV_yes hok] at Hct HI
    have hc2 := fun B v w h hB => specClaimOk p kw (ctermL (k, ms)) B v w h hB
    cases hok2 : claimOk p (kw, ctermL (k, ms)) with
    | false =>
      have Hf := Lib.hid (nest_no2 hok2)
      rw [hok2] at hc2
      have Hc2 := Lib.hid hc2; clear hc2 hok2 hok
      go_enter Try.func34, Try.ntmps34
      go_upto_region 1 with fail
      rw [← hw2]
      clear hw2
      go_wp2_with fail
      refine (Hct.out _ Hr2.out hB2).mono ?_
      rintro e w3 ⟨v3, rfl, ho3, hb3⟩
      obtain ⟨a3, c3, hv3⟩ := own_len ho3
      subst hv3
      have hx3 := HX2.out.below (hb3.mono (by omega))
      have hy3 := HY2.out.below (hb3.mono (by omega))
      have Hr3 := Lib.hid (Hr2.out.below (w' := w3) (fun q hq => hb3.block q (by omega)))
      have HB3 := Lib.hid (HB2.out.trans (hb3.mono (by omega)))
      have hs3 := hb3.size
      go_upto_region 2 with fail
      obtain ⟨w4, hw4, hz4, hb4, hs4⟩ := Box.new w3 (.int .i64 kw) (.slice a3 (ctermL (k, ms)).length c3) TC
      rw [← hw4]
      have hx4 := hx3.below hb4
      have HY4 := Lib.hid (hy3.below hb4)
      have Hr4 := Lib.hid (Hr3.out.below (w' := w4) (fun q hq => hb4.block q (by omega)))
      have HB4 := Lib.hid (HB3.out.trans (hb4.mono (by omega)))
      have HO4 := Lib.hid (own_below ho3 hb4)
      have HZ4 := Lib.hid hz4
      obtain ⟨x1, x2, x3, x4, x5⟩ := hx4
      clear hw4 hx3 hy3 ho3 hb3 hb4 hz4
      go_wp2_with fail
      refine (Hc1.out _ Hr4.out (by omega)).mono ?_
      rintro e w5 ⟨rfl, hb5⟩
      have HY5 := Lib.hid (HY4.out.below (hb5.mono (by omega)))
      have hz5 := HZ4.out.below hb5
      have HO5 := Lib.hid (own_below HO4.out hb5)
      have HB5 := Lib.hid (HB4.out.trans (hb5.mono (by omega)))
      have hs5 := hb5.size
      clear hb5 x1 x2 x3 x4 x5
      obtain ⟨t1, t2, t3, t4, t5⟩ := hz5
      go_wp2_with fail
      refine (Hc2.out w5.heap.size _ w5 (RdMarks.of_own HO5.out HI.out) (Nat.le_refl _)).mono ?_
      rintro e w6 ⟨rfl, hb6⟩
      have hy6 := HY5.out.below (hb6.mono (by omega))
      have HB6 := Lib.hid (HB5.out.trans (hb6.mono (by omega)))
      have HO6 := Lib.hid (own_below HO5.out hb6)
      obtain ⟨w7, e7, hx7, hout⟩ := claim_none (w := w) (by omega) hy6 HB6.out Hf.out
      have E7 := Lib.hid e7
      have Hout := Lib.hid hout
      obtain ⟨y1, y2, y3, y4, y5⟩ := hy6
      clear e7 hout hb6 t1 t2 t3 t4 t5
      go_wp2
      rw [← E7.out]
      obtain ⟨z1, z2, _⟩ := hx7
      exact bodyPost_ret (by simp [results, Try.results34, go_sem, z1, z2]) rfl Hout.out
    | true =>
      have Hf := Lib.hid (nest_yes hok hok2)
      rw [hok2] at hc2
      have Hc2 := Lib.hid hc2; clear hc2 hok2 hok
      go_enter Try.func34, Try.ntmps34
      go_upto_region 1 with fail
      rw [← hw2]
      clear hw2
      go_wp2_with fail
      refine (Hct.out _ Hr2.out hB2).mono ?_
      rintro e w3 ⟨v3, rfl, ho3, hb3⟩
      obtain ⟨a3, c3, hv3⟩ := own_len ho3
      subst hv3
      have hx3 := HX2.out.below (hb3.mono (by omega))
      have hy3 := HY2.out.below (hb3.mono (by omega))
      have Hr3 := Lib.hid (Hr2.out.below (w' := w3) (fun q hq => hb3.block q (by omega)))
      have HB3 := Lib.hid (HB2.out.trans (hb3.mono (by omega)))
      have hs3 := hb3.size
      go_upto_region 2 with fail
      obtain ⟨w4, hw4, hz4, hb4, hs4⟩ := Box.new w3 (.int .i64 kw) (.slice a3 (ctermL (k, ms)).length c3) TC
      rw [← hw4]
      have hx4 := hx3.below hb4
      have HY4 := Lib.hid (hy3.below hb4)
      have Hr4 := Lib.hid (Hr3.out.below (w' := w4) (fun q hq => hb4.block q (by omega)))
      have HB4 := Lib.hid (HB3.out.trans (hb4.mono (by omega)))
      have HO4 := Lib.hid (own_below ho3 hb4)
      have HZ4 := Lib.hid hz4
      obtain ⟨x1, x2, x3, x4, x5⟩ := hx4
      clear hw4 hx3 hy3 ho3 hb3 hb4 hz4
      go_wp2_with fail
      refine (Hc1.out _ Hr4.out (by omega)).mono ?_
      rintro e w5 ⟨rfl, hb5⟩
      have HY5 := Lib.hid (HY4.out.below (hb5.mono (by omega)))
      have hz5 := HZ4.out.below hb5
      have HO5 := Lib.hid (own_below HO4.out hb5)
      have HB5 := Lib.hid (HB4.out.trans (hb5.mono (by omega)))
      have hs5 := hb5.size
      clear hb5 x1 x2 x3 x4 x5
      obtain ⟨t1, t2, t3, t4, t5⟩ := hz5
      go_wp2_with fail
      refine (Hc2.out w5.heap.size _ w5 (RdMarks.of_own HO5.out HI.out) (Nat.le_refl _)).mono ?_
      rintro e w6 ⟨rfl, hb6⟩
      have hy6 := HY5.out.below (hb6.mono (by omega))
      have HB6 := Lib.hid (HB5.out.trans (hb6.mono (by omega)))
      have HO6 := Lib.hid (own_below HO5.out hb6)
      have q1 := (hb6.cell (p := ⟨w3.heap.size, 0, none⟩) t5).trans t1
      have q2 := (hb6.cell (p := ⟨w3.heap.size, 1, none⟩) t5).trans t2
      obtain ⟨w7, e7, hx7, hout⟩ := claim_some (w := w) (base := w2.heap.size) (k := kw) (by omega) (by omega) hy6 HB6.out HO6.out Hf.out
      have E7 := Lib.hid e7
      have Hout := Lib.hid hout
      obtain ⟨y1, y2, y3, y4, y5⟩ := hy6
      clear e7 hout hb6 t1 t2 t3 t4 t5
      go_wp2
      rw [← E7.out]
      obtain ⟨z1, z2, _⟩ := hx7
      exact bodyPost_ret (by simp [results, Try.results34, go_sem, z1, z2]) rfl Hout.out
end Go.Proofs.Ytpccldbcmanhdaa
