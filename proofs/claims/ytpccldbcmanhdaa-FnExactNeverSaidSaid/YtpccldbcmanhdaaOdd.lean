/- Contracts of the reference's odd claims. -/
import Derived.Test.YtpccldbcmanhdaaClaimT
import Derived.Test.YtpccldbcmanhdaaOddM
namespace Go.Proofs.Ytpccldbcmanhdaa
open Go.RowKit Go.Joins
attribute [local irreducible] holds tabN tabV holdsV sameV followsV alwaysV matterV claimOk mayT mayV ctabV ctabN storyV storyOk storyN storyT ctermV ctermL sayV neverV alwsV nestL nestOk nestV kindL kindOk kindV
set_option maxRecDepth 100000 in
set_option maxHeartbeats 2000000 in
theorem specSayCount (p k : Int) (ms : List (Int × Int)) (B : Nat) (u : Value) (w : World) (hr : RdMarks w B u ms) (hB : B ≤ w.heap.size) :
    Calls Try.prog 19 #[.int .i64 p, .agg #[.int .i64 k, u]] w fun e w' => e = .returned (.int .i64 (sayV p (k, ms))) ∧ Below w.heap.size w w' := by
  have hc := fun w h hB => specClaimOk p k ms B u w h hB
  cases hok : claimOk p (k, ms) with
  | false =>
    have Hf := Lib.hid (sayV_no hok)
    rw [hok] at hc
    have Hc := Lib.hid hc; clear hc hok
    go_enter Try.func19, Try.ntmps19
    go_upto_region 1 with fail
    obtain ⟨w1, hw1, n1, n2, hbw, hsz⟩ := new_two w (.int .i64 k) u TC
    rw [← hw1]
    have Hr1 := Lib.hid (hr.below (w' := w1) (fun q hq => hbw.block q (by omega)))
    have hB1 : B ≤ w1.heap.size := by omega
    have Hbw := Lib.hid hbw; clear hbw hw1 hr
    go_wp2_with fail
    refine (Hc.out _ Hr1.out hB1).mono ?_
    rintro e w2 ⟨rfl, hb2⟩
    have Hb2 := Lib.hid (Hbw.out.trans (hb2.mono Hbw.out.size)); clear hb2
    go_wp2
    go_ret
    exact ⟨by rw [Hf.out]; rfl, Hb2.out⟩
  | true =>
    have Hf := Lib.hid (sayV_yes hok)
    have Hm := Lib.hid (fun w h hB => specClaimTab hok B u w h hB)
    obtain ⟨h1, h4⟩ := p_of_claim hok
    have hlt := ctabN_lt (p := p) (c := (k, ms)) h1 h4
    rw [hok] at hc
    have Hc := Lib.hid hc; clear hc hok
    generalize ctabN p (k, ms) = TT at *
    go_enter Try.func19, Try.ntmps19
    go_upto_region 1 with fail
    obtain ⟨w1, hw1, n1, n2, hbw, hsz⟩ := new_two w (.int .i64 k) u TC
    rw [← hw1]
    have Hr1 := Lib.hid (hr.below (w' := w1) (fun q hq => hbw.block q (by omega)))
    have hB1 : B ≤ w1.heap.size := by omega
    have Hbw := Lib.hid hbw; clear hbw hw1 hr
    go_wp2_with fail
    refine (Hc.out _ Hr1.out hB1).mono ?_
    rintro e w2 ⟨rfl, hb2⟩
    have m1 := (hb2.cell (p := ⟨w.heap.size, 0, none⟩) hsz).trans n1
    have m2 := (hb2.cell (p := ⟨w.heap.size, 1, none⟩) hsz).trans n2
    have Hr2 := Lib.hid (Hr1.out.below (w' := w2) (fun q hq => hb2.block q (by omega)))
    have hB2 : B ≤ w2.heap.size := by have := hb2.size; omega
    have Hb2 := Lib.hid (Hbw.out.trans (hb2.mono Hbw.out.size)); clear hb2 n1 n2
    go_wp2_with fail
    refine (Hm.out _ Hr2.out hB2).mono ?_
    rintro e w3 ⟨rfl, hb3⟩
    have Hb3 := Lib.hid (Hb2.out.trans (hb3.mono Hb2.out.size)); clear hb3
    go_wp2_with fail
    refine (specHeads TT (by omega) _).mono ?_
    rintro e w' ⟨rfl, rfl⟩
    go_wp2
    go_ret
    exact ⟨by rw [Hf.out]; rfl, Hb3.out⟩
set_option maxRecDepth 100000 in
set_option maxHeartbeats 2000000 in
theorem specNeverSaid (p k : Int) (ms : List (Int × Int)) (B : Nat) (u : Value) (w : World) (hr : RdMarks w B u ms) (hB : B ≤ w.heap.size) :
    Calls Try.prog 26 #[.int .i64 p, .agg #[.int .i64 k, u]] w fun e w' => e = .returned (.bool (neverV p (k, ms))) ∧ Below w.heap.size w w' := by
  have hc := fun w h hB => specClaimOk p k ms B u w h hB
  cases hok : claimOk p (k, ms) with
  | false =>
    have Hf := Lib.hid (neverV_no hok)
    rw [hok] at hc
    have Hc := Lib.hid hc; clear hc hok
    go_enter Try.func26, Try.ntmps26
    go_upto_region 1 with fail
    obtain ⟨w1, hw1, n1, n2, hbw, hsz⟩ := new_two w (.int .i64 k) u TC
    rw [← hw1]
    have Hr1 := Lib.hid (hr.below (w' := w1) (fun q hq => hbw.block q (by omega)))
    have hB1 : B ≤ w1.heap.size := by omega
    have Hbw := Lib.hid hbw; clear hbw hw1 hr
    go_wp2_with fail
    refine (Hc.out _ Hr1.out hB1).mono ?_
    rintro e w2 ⟨rfl, hb2⟩
    have Hb2 := Lib.hid (Hbw.out.trans (hb2.mono Hbw.out.size)); clear hb2
    go_wp2
    go_ret
    exact ⟨by rw [Hf.out]; rfl, Hb2.out⟩
  | true =>
    have Hf := Lib.hid (neverV_yes hok)
    have Hm := Lib.hid (fun w h hB => specClaimTab hok B u w h hB)
    obtain ⟨h1, h4⟩ := p_of_claim hok
    have hlt := ctabN_lt (p := p) (c := (k, ms)) h1 h4
    rw [hok] at hc
    have Hc := Lib.hid hc; clear hc hok
    generalize ctabN p (k, ms) = TT at *
    go_enter Try.func26, Try.ntmps26
    go_upto_region 1 with fail
    obtain ⟨w1, hw1, n1, n2, hbw, hsz⟩ := new_two w (.int .i64 k) u TC
    rw [← hw1]
    have Hr1 := Lib.hid (hr.below (w' := w1) (fun q hq => hbw.block q (by omega)))
    have hB1 : B ≤ w1.heap.size := by omega
    have Hbw := Lib.hid hbw; clear hbw hw1 hr
    go_wp2_with fail
    refine (Hc.out _ Hr1.out hB1).mono ?_
    rintro e w2 ⟨rfl, hb2⟩
    have m1 := (hb2.cell (p := ⟨w.heap.size, 0, none⟩) hsz).trans n1
    have m2 := (hb2.cell (p := ⟨w.heap.size, 1, none⟩) hsz).trans n2
    have Hr2 := Lib.hid (Hr1.out.below (w' := w2) (fun q hq => hb2.block q (by omega)))
    have hB2 : B ≤ w2.heap.size := by have := hb2.size; omega
    have Hb2 := Lib.hid (Hbw.out.trans (hb2.mono Hbw.out.size)); clear hb2 n1 n2
    go_wp2_with fail
    refine (Hm.out _ Hr2.out hB2).mono ?_
    rintro e w3 ⟨rfl, hb3⟩
    have Hb3 := Lib.hid (Hb2.out.trans (hb3.mono Hb2.out.size)); clear hb3
    clear hlt
    go_wp2
    go_ret
    exact ⟨ret_bool (by rw [Hf.out]; first | (rw [decide_eq_decide]; omega) | (rw [Bool.eq_iff_iff]; simp)), Hb3.out⟩
end Go.Proofs.Ytpccldbcmanhdaa
