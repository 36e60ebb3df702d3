/- The reference model's draws of stories. -/
import Derived.Test.YtobbbmcppmohoaaDrawC
namespace Go.Proofs.Ytobbbmcppmohoaa
open Go.RowKit Go.Joins
def QSmall (qs : List QC) : Prop := ∀ q ∈ qs, q.2.2.length ≤ 20 ∧ -1 ≤ q.2.1 ∧ q.2.1 ≤ 4
theorem QSmall.snoc {qs : List QC} {q : QC} (h : QSmall qs) (hq : q.2.2.length ≤ 20 ∧ -1 ≤ q.2.1 ∧ q.2.1 ≤ 4) : QSmall (qs ++ [q]) := by
  intro r hr
  rcases List.mem_append.1 hr with hr | hr
  · exact h r hr
  · simp at hr; subst hr; exact hq
/-- one claim more: how a round ends -/
theorem claim_added {w w4 w5 : World} {b : Nat} {v v' u : Value} {qs : List QC} {k : Int} {ms : List (Int × Int)} {c : Nat} {o : Obj} (hb : b < w.heap.size) (hs : StoryIn w4 w.heap.size w.heap.size v qs) (hq : QSmall qs)
    (hu : w4.ownsRow w.heap.size TM 2 u ms.length (mcells ms)) (hi : I64s ms) (hn : ms.length ≤ 20) (hk1 : -1 ≤ k) (hk4 : k ≤ 4) (hG : w.grownBy w4 (some b)) (hr : Rd w4 b c)
    (hown : w5.ownsRow w.heap.size TC 2 v' (qs.length + 1) (ccells qs ++ ccells [(u, (k, ms))])) (hg : (w4.alloc o).grownBy w5 v.ownBlock) :
    StoryIn w5 w.heap.size w.heap.size v' (qs ++ [(u, (k, ms))]) ∧ QSmall (qs ++ [(u, (k, ms))]) ∧ w.grownBy w5 (some b) ∧ Rd w5 b c := by
  refine ⟨(hs.alloc o).push ⟨hu.alloc o, hi, show I64 k from I64_small (by omega) (by omega)⟩ hown hg, hq.snoc ⟨hn, hk1, hk4⟩, ?_, ?_⟩
  · exact grown_own (only_alloc hG _) hg fun q hq => (hs.1.lt q hq).1
  · exact (hr.alloc _).grown hg (own_row_block hs.1 hb)
/-- a number of people, and a drawn story -/
def DrewPS (b c : Nat) (w : World) (e : Ending) (w' : World) : Prop :=
  ∃ (p : Int) (v : Value) (qs : List QC), 1 ≤ p ∧ p ≤ 4 ∧ e = .returned (.tuple #[.int .i64 p, v]) ∧ StoryIn w' w.heap.size w.heap.size v qs ∧ QSmall qs ∧ qs.length ≤ 7 ∧ Rd w' b c ∧ w.grownBy w' (some b)
set_option maxRecDepth 100000 in
set_option maxHeartbeats 4000000 in
theorem l20Story (n : Nat) (b c : Nat) (w : World) (hrd : Rd w b c) (hn : n ≤ 1000) (hc : c ≤ 1000000) :
    Calls Try.prog 69 #[.pointer (some ⟨b, 0, none⟩), .int .i64 n] w (DrewPS b (c + 500) w) := by
  obtain ⟨ic, hci, hcz0, hcz1, hcz2⟩ := info_parts Try.infoC
  have Ci := Lib.hid hci; clear hci
  have Cz0 := Lib.hid hcz0; clear hcz0
  have Cz1 := Lib.hid hcz1; clear hcz1
  have Cz2 := Lib.hid hcz2; clear hcz2
  have hbw := hrd.lt
  go_enter Try.func69, Try.ntmps69
  go_wp2_with fail
  refine (pick 4 b c _ hrd (by omega) (by omega) (by omega)).mono ?_
  rintro e w1 ⟨x, hx0, hxp, rfl, hrd1, hg1⟩
  have hP1 : 1 ≤ 1 + x := by omega
  have hP4 : 1 + x ≤ 4 := by omega
  have hs1 := hg1.size
  have hown1 : (w1.alloc (.cells #[] TC)).ownsRow w.heap.size TC 2 (.slice (some ⟨w1.heap.size, 0, none⟩) 0 0) 0 [] := World.ownsRow_made _ _ 0 hs1 (by unfold maxLen; omega) rfl
  have hrd1' := hrd1.alloc (.cells #[] TC)
  have hG1 := only_alloc hg1 (.cells #[] TC)
  clear hrd hrd1 hg1 hx0 hxp
  go_wp2_with fail
  generalize 1 + x = p at *
  refine (pick 5 b (c + 1) _ hrd1' (by omega) (by omega) (by omega)).mono ?_
  rintro e w2 ⟨y, hy0, hy5, rfl, hrd2, hg2⟩
  have hG2 := grownBy_trans hG1 hg2
  have hown2 := own_row hown1 hg2 hbw
  obtain ⟨Y, rfl⟩ := Int.eq_ofNat_of_zero_le hy0
  clear hg2 hG1 hown1 hrd1'
  go_wp2_with fail
  go_loopw [7, 8] (fun v i wr => ∃ (j : Nat) (qs : List QC), j + qs.length ≤ 4 ∧ i = .int .i64 j ∧ StoryIn wr w.heap.size w.heap.size v qs ∧ QSmall qs ∧ Rd wr b (c + 2 + 103 * qs.length) ∧ w.grownBy wr (some b))
    (fun _ i _ => (intOf i).toNat)
  case atStart => exact ⟨Y, [], by simp; omega, rfl, ⟨hown2, by simp⟩, fun q hq => by simp at hq, hrd2, hG2⟩
  case round =>
    clear hown2 hrd2 hG2 hy0 hy5
    obtain ⟨j, qs, hj, rfl, hst, hqs, hrk, hGk⟩ := hrel
    by_cases hlt : 0 < j
    · obtain ⟨j, rfl⟩ : ∃ i, j = i + 1 := ⟨j - 1, by omega⟩
      go_wp2_with fail
      rw [show ((n : Int) * 3) = ((n * 3 : Nat) : Int) by simp]
      refine (l20Claim p (n * 3) b _ _ hrk hP1 hP4 (by omega) (by omega)).mono ?_
      rintro e w4 ⟨k, g, cap, ms, rfl, hown, hi, hn20, hk1, hk4, hrd4, hg4⟩
      have hst4 := hst.row hg4 hbw hbw
      have hG4 := grownBy_trans hGk hg4
      have hsz4 := hG4.size
      have hu := own_mono hown hGk.size
      have Hall := Lib.hid (fun v' w5 h1 h2 => claim_added (w5 := w5) (v' := v') (o := .cells #[.int .i64 k, .slice (some ⟨g, 0, none⟩) ms.length cap] TC) hbw hst4 hqs hu hi hn20 hk1 hk4 hG4 hrd4 h1 h2)
      have Hst4 := Lib.hid hst4.1
      clear hrk hGk hg4 hst hown hi hst4 hG4 hrd4 hu
      go_wp2_with (at_builtin; refine wpList_append_own _ rfl _ _ 41 rfl w.heap.size TC ic (.agg #[.int .i64 0, .slice none 0 0]) 2 32 Try.underlying41 Ci.out Cz0.out Cz1.out Cz2.out rfl (by decide) _ _ _ rfl (Hst4.out.alloc _) ⟨w4.heap.size, 0, none⟩ 1 1 (ccells [(.slice (some ⟨g, 0, none⟩) ms.length cap, (k, ms))]) rfl rfl (newsC _ _ rfl _ _ _ _) (ccells_one (by simp [Value.oneCell'])) (by unfold maxLen; omega) (by omega) (by simp; omega) ?_)
      intro v' w5 hown' hgrow _
      have Hout := Lib.hid (Hall.out v' w5 hown' hgrow)
      clear hown' hgrow Hall Hst4
      go_wp2
      go_roundw
      case rel => exact ⟨j, _, by simp; omega, by go_num, Hout.out.1, Hout.out.2.1, Hout.out.2.2.2.mono (by simp; omega), Hout.out.2.2.1⟩
      case measure => simp [intOf]
    · obtain rfl : j = 0 := by omega
      have hrk' := hrk.mono (show c + 2 + 103 * qs.length ≤ c + 414 by omega)
      have hq4 : qs.length ≤ 4 := by omega
      clear hrk hj hlt
      rw [show ((0 : Nat) : Int) = 0 from rfl]
      go_wp2_with fail
      refine (odd n b (c + 414) _ hrk' (by omega) (by omega)).mono ?_
      rintro e w6 ⟨o, rfl, hrd6, hg6⟩
      have hG6 := grownBy_trans hGk hg6
      have hst6 := hst.row hg6 hbw hbw
      clear hg6 hGk hst hrk'
      cases o with
      | false =>
        have Hout := Lib.hid (show StoryIn w6 w.heap.size w.heap.size u7 qs ∧ Rd w6 b (c + 414 + 1) ∧ w.grownBy w6 (some b) from ⟨hst6, hrd6, hG6⟩)
        clear hst6 hrd6 hG6
        go_wp2
        go_ret2
        exact ⟨p, _, qs, hP1, hP4, rfl, Hout.out.1, hqs, by omega, Hout.out.2.1.mono (by omega), Hout.out.2.2⟩
      | true =>
        go_wp2_with fail
        go_loopw [7] (fun v wr => ∃ qs : List QC, qs.length ≤ 7 ∧ (∃ ao cp, v = .slice ao qs.length cp) ∧ StoryIn wr w.heap.size w.heap.size v qs ∧ QSmall qs ∧ Rd wr b (c + 415) ∧ w.grownBy wr (some b))
          (fun v _ => 7 - lenV v)
        case atStart => exact ⟨qs, by omega, own_len hst6.1, hst6, hqs, hrd6, hG6⟩
        case round =>
          clear hst6 hqs hrd6 hG6 hq4
          obtain ⟨qs, hq7, ⟨ao, cp, rfl⟩, hst, hqs, hrk, hGk⟩ := hrel
          by_cases hlt : qs.length < 7
          · have hlt' : (qs.length : Int) < 7 := by omega
            have hcap : qs.length ≤ cp := by
              rcases hst.1.2 with ⟨h0, hz⟩ | ⟨g, cap, cur, h0, _, _, h1, _⟩
              · injection h0 with _ h2 h3; omega
              · injection h0 with _ _ h3; omega
            have hu : (wr.alloc (.cells #[.int .i64 0, .int .i64 0] TM)).ownsRow w.heap.size TM 2 (.slice (some ⟨wr.heap.size, 0, none⟩) 1 1) 1 (mcells [(0, 0)]) := own_new wr w.heap.size 0 0 hGk.size
            have hszr := hGk.size
            have Hall := Lib.hid (fun v' w5 h1 h2 => claim_added (w5 := w5) (v' := v') (u := .slice (some ⟨wr.heap.size, 0, none⟩) 1 1) (k := 0) (ms := [(0, 0)]) (o := .cells #[.int .i64 0, .slice (some ⟨wr.heap.size, 0, none⟩) 1 1] TC) hbw (hst.alloc (.cells #[.int .i64 0, .int .i64 0] TM)) hqs hu (I64s_one (I64_small (by omega) (by omega)) (I64_small (by omega) (by omega))) (by simp) (by omega) (by omega) (only_alloc hGk _) (hrk.alloc _) h1 h2)
            have Hst := Lib.hid hst.1
            clear hst hqs hu hrk hGk
            go_wp2_with (at_builtin; refine wpList_append_own _ rfl _ _ 41 rfl w.heap.size TC ic (.agg #[.int .i64 0, .slice none 0 0]) 2 32 Try.underlying41 Ci.out Cz0.out Cz1.out Cz2.out rfl (by decide) _ _ _ rfl ((Hst.out.alloc _).alloc _) ⟨wr.heap.size + 1, 0, none⟩ 1 1 (ccells [(.slice (some ⟨wr.heap.size, 0, none⟩) 1 1, (0, [(0, 0)]))]) rfl rfl (newsC _ _ (by simp) _ _ _ _) (ccells_one (by simp [Value.oneCell'])) (by unfold maxLen; omega) (by omega) (by simp; omega) ?_)
            intro v' w5 hown' hgrow _
            have Hout := Lib.hid (Hall.out v' w5 hown' hgrow)
            obtain ⟨ao', cp', rfl⟩ := own_len hown'
            clear hown' hgrow Hall Hst
            go_wp2
            go_roundw
            case rel => exact ⟨_, by simp; omega, ⟨ao', cp', by simp⟩, by simpa using Hout.out.1, Hout.out.2.1, Hout.out.2.2.2, Hout.out.2.2.1⟩
            case measure => simp [lenV]; omega
          · have hlt' : ¬ (qs.length : Int) < 7 := by omega
            have Hout := Lib.hid (show StoryIn wr w.heap.size w.heap.size (.slice ao qs.length cp) qs ∧ QSmall qs ∧ Rd wr b (c + 415) ∧ w.grownBy wr (some b) from ⟨hst, hqs, hrk, hGk⟩)
            clear hst hqs hrk hGk
            go_wp2
            go_ret2
            exact ⟨p, _, qs, hP1, hP4, rfl, Hout.out.1, Hout.out.2.1, by omega, Hout.out.2.2.1.mono (by omega), Hout.out.2.2.2⟩
/-- what a draw of a number of people and a story hands back -/
def OutS (w : World) (e : Ending) (w' : World) : Prop :=
  ∃ (p : Int) (v : Value) (qs : List QC), -4 ≤ p ∧ p ≤ 8 ∧ e = .returned (.tuple #[.int .i64 p, v]) ∧ StoryIn w' w.heap.size w.heap.size v qs ∧ QSmall qs ∧ qs.length ≤ 7 ∧ Below w.heap.size w w'
end Go.Proofs.Ytobbbmcppmohoaa
