/- Contract of the reference's claims of kinds. -/
import Derived.Test.YtpccldbcmanhdaaOddC
import Derived.Maps.AppendAt
namespace Go.Proofs.Ytpccldbcmanhdaa
open Go.RowKit Go.Joins
/-- the result's variable, the marks of what is said, and the claim's variable -/
theorem kind_laid (w : World) (k l : Int) : ∃ w3 : World, w3 = ((w.alloc (.cells #[.int .i64 0, .slice none 0 0] TC)).alloc (.cells #[.int .i64 0, .int .i64 l] TM)).alloc (.cells #[.int .i64 k, .slice (some ⟨w.heap.size + 1, 0, none⟩) 1 1] TC) ∧
    Box w3 w.heap.size (.int .i64 0) (.slice none 0 0) ∧ w3.ownsRow (w.heap.size + 1) TM 2 (.slice (some ⟨w.heap.size + 1, 0, none⟩) 1 1) 1 (mcells [(0, l)]) ∧ Box w3 (w.heap.size + 2) (.int .i64 k) (.slice (some ⟨w.heap.size + 1, 0, none⟩) 1 1) ∧ Below w.heap.size w w3 ∧ w3.heap.size = w.heap.size + 3 := by
  obtain ⟨w1, e1, h1, b1, s1⟩ := Box.new w (.int .i64 0) (.slice none 0 0) TC
  have z1 : w1.heap.size = w.heap.size + 1 := by rw [e1]; simp
  obtain ⟨w2, e2⟩ : ∃ w2, w2 = w1.alloc (.cells #[.int .i64 0, .int .i64 l] TM) := ⟨_, rfl⟩
  have z2 : w2.heap.size = w.heap.size + 2 := by rw [e2]; simp [z1]
  have ho2 : w2.ownsRow (w.heap.size + 1) TM 2 (.slice (some ⟨w.heap.size + 1, 0, none⟩) 1 1) 1 (mcells [(0, l)]) := by
    have h := own_new w1 (w.heap.size + 1) 0 l (by omega)
    rw [z1] at h
    rw [e2]; exact h
  have b2 : Below w1.heap.size w1 w2 := by rw [e2]; exact (Below.refl _ _).alloc (Nat.le_refl _) _
  obtain ⟨w3, e3, h3, b3, s3⟩ := Box.new w2 (.int .i64 k) (.slice (some ⟨w.heap.size + 1, 0, none⟩) 1 1) TC
  rw [z2] at h3
  exact ⟨w3, by rw [e3, e2, e1], (h1.below b2).below b3, own_below ho2 b3, h3, b1.trans ((b2.mono (by omega)).trans (b3.mono (by omega))), by rw [e3]; simp [z2]⟩
theorem kindV_no {p k l : Int} {t : Bool} (h : kindOk p k l t = false) : kindOk p k l t = false ∧ kindV p k l t = (0, []) := ⟨h, by unfold kindV; rw [h]; rfl⟩
theorem kindV_yes {p k l : Int} {t : Bool} (h : kindOk p k l t = true) : kindOk p k l t = true ∧ kindV p k l t = kindL k l t := ⟨h, by unfold kindV; rw [h]; rfl⟩
attribute [local irreducible] holds tabN tabV holdsV sameV followsV alwaysV matterV claimOk mayT mayV ctabV ctabN storyV storyOk storyN storyT ctermV ctermL sayV neverV alwsV nestOk nestV kindOk kindV
set_option maxRecDepth 100000 in
set_option maxHeartbeats 4000000 in
theorem specKindClaim (p k l : Int) (t : Bool) (hl : I64 l) (w : World) :
    Calls Try.prog 39 #[.int .i64 p, .int .i64 k, .int .i64 l, .bool t] w (ClaimOut (kindV p k l t) (kindOk p k l t) w) := by
  obtain ⟨im, hmi, hmz0, hmz1, hmz2⟩ := info_parts Try.infoM
  have Mi := Lib.hid hmi; clear hmi
  have Mz0 := Lib.hid hmz0; clear hmz0
  have Mz1 := Lib.hid hmz1; clear hmz1
  have Mz2 := Lib.hid hmz2; clear hmz2
  obtain ⟨w3, hw3, hx3, ho3, hz3, hb3, hs3⟩ := kind_laid w k l
  have HX3 := Lib.hid hx3
  have HO3 := Lib.hid ho3
  have HZ3 := Lib.hid hz3
  have HB3 := Lib.hid hb3
  have Hl := Lib.hid hl
  clear hx3 ho3 hb3 hl
  cases t with
  | true =>
    have hc := fun B v w h hB => specClaimOk p k [(0, l)] B v w h hB
    rw [show claimOk p (k, [(0, l)]) = kindOk p k l true by unfold kindOk; rfl] at hc
    have HI : Hid (I64s [((0 : Int), l)]) := I64s_one (I64_small (by omega) (by omega)) Hl.out
    cases hok : kindOk p k l true with
    | false =>
      have Hf := Lib.hid (kindV_no hok)
      rw [hok] at hc
      have Hc := Lib.hid hc; clear hc hok
      obtain ⟨x1, x2, x3, x4, x5⟩ := hz3
      go_enter Try.func39, Try.ntmps39
      go_upto_region 2 with fail
      rw [← hw3]
      clear hw3
      go_wp2_with fail
      refine (Hc.out w3.heap.size _ w3 (RdMarks.of_own (ms := [(0, l)]) HO3.out HI.out) (Nat.le_refl _)).mono ?_
      rintro e w5 ⟨rfl, hb5⟩
      have hx5 := HX3.out.below hb5
      obtain ⟨w6, e6, hx6, hout⟩ := claim_none (w := w) (by omega) hx5 (HB3.out.trans (hb5.mono (by omega))) (by have h := Hf.out; exact h)
      rw [Hf.out.1] at hout
      have E6 := Lib.hid e6
      have Hout := Lib.hid hout
      obtain ⟨y1, y2, y3, y4, y5⟩ := hx5
      clear e6 hout hb5 x1 x2 x3 x4 x5
      go_wp2
      rw [← E6.out]
      obtain ⟨z1, z2, _⟩ := hx6
      exact bodyPost_ret (by simp [results, Try.results39, go_sem, z1, z2]) rfl Hout.out
    | true =>
      have Hf := Lib.hid (kindV_yes hok)
      rw [hok] at hc
      have Hc := Lib.hid hc; clear hc hok
      obtain ⟨x1, x2, x3, x4, x5⟩ := hz3
      go_enter Try.func39, Try.ntmps39
      go_upto_region 2 with fail
      rw [← hw3]
      clear hw3
      go_wp2_with fail
      refine (Hc.out w3.heap.size _ w3 (RdMarks.of_own (ms := [(0, l)]) HO3.out HI.out) (Nat.le_refl _)).mono ?_
      rintro e w5 ⟨rfl, hb5⟩
      have hx5 := HX3.out.below hb5
      obtain ⟨w6, e6, hx6, hout⟩ := claim_some (w := w) (base := w.heap.size + 1) (k := k) (ms := [(0, l)]) (Nat.le_refl _) (by omega) hx5 (HB3.out.trans (hb5.mono (by omega))) (own_below HO3.out hb5) (by have h := Hf.out; exact h)
      rw [Hf.out.1] at hout
      have E6 := Lib.hid e6
      have Hout := Lib.hid hout
      have q1 := (hb5.cell (p := ⟨w.heap.size + 2, 0, none⟩) x5).trans x1
      have q2 := (hb5.cell (p := ⟨w.heap.size + 2, 1, none⟩) x5).trans x2
      obtain ⟨y1, y2, y3, y4, y5⟩ := hx5
      clear e6 hout hb5 x1 x2 x3 x4 x5
      go_wp2
      rw [← E6.out]
      obtain ⟨z1, z2, _⟩ := hx6
      exact bodyPost_ret (by simp [results, Try.results39, go_sem, z1, z2]) rfl Hout.out
  | false =>
    have hc := fun B v w h hB => specClaimOk p k [(0, l), (2, 0)] B v w h hB
    rw [show claimOk p (k, [(0, l), (2, 0)]) = kindOk p k l false by unfold kindOk; rfl] at hc
    have HI : Hid (I64s [((0 : Int), l), (2, 0)]) := I64s_two (I64_small (by omega) (by omega)) Hl.out (I64_small (by omega) (by omega)) (I64_small (by omega) (by omega))
    cases hok : kindOk p k l false with
    | false =>
      have Hf := Lib.hid (kindV_no hok)
      rw [hok] at hc
      have Hc := Lib.hid hc; clear hc hok
      obtain ⟨x1, x2, x3, x4, x5⟩ := hz3
      go_enter Try.func39, Try.ntmps39
      go_upto_region 2 with fail
      rw [← hw3]
      clear hw3
      go_wp2_with (first
        | (at_builtin; refine wpList_append_own_at _ rfl (.tmp 19) (.tmp 21) 23 rfl (w.heap.size + 1) TM im (.agg #[.int .i64 0, .int .i64 0]) 2 16 Try.underlying23 Mi.out Mz0.out Mz1.out Mz2.out rfl (by decide) _ _ _ rfl (HO3.out.alloc _) ⟨w.heap.size + 3, 0, none⟩ 1 1 (mcells [(2, 0)]) rfl rfl (news2 _ _ (by omega) _ _ _) (mcells_one _) (by unfold maxLen; omega) (by omega) (by simp; omega) ?_
           go_must (intro v4 w4 hown4 hgr4 _ hat4
                    have hgr4' : (w3.alloc (.cells #[.int .i64 2, .int .i64 0] TM)).grownBy w4 (some (w.heap.size + 1)) := hgr4
                    have Hx4 := Lib.hid ((HX3.out.alloc (.cells #[.int .i64 2, .int .i64 0] TM)).grown hgr4' (by simp))
                    have hz4 := (HZ3.out.alloc (.cells #[.int .i64 2, .int .i64 0] TM)).grown hgr4' (by simp)
                    have Hb4 := Lib.hid (below_rowD (HB3.out.alloc (by omega) (.cells #[.int .i64 2, .int .i64 0] TM)) hgr4' (fun q hq => by cases hq; omega))
                    have hs4 := hgr4'.size
                    simp at hs4
                    have hat4' : v4.ownBlock = some (w.heap.size + 1) ∨ v4.ownBlock = some (w3.alloc (.cells #[.int .i64 2, .int .i64 0] TM)).heap.size := hat4
                    have Hat4 : Hid (v4.ownBlock ≠ some (w.heap.size + 2)) := by
                      unfold Hid
                      rcases hat4' with h | h
                      · rw [h]; simp
                      · rw [h]; simp; omega
                    obtain ⟨a4, c4, hv4⟩ := own_len hown4
                    subst hv4
                    have Hown4 := Lib.hid hown4
                    have HZ4 := Lib.hid hz4
                    obtain ⟨t1, t2, t3, t4, t5⟩ := hz4
                    clear hown4 hgr4 hgr4' hat4 hat4' x1 x2 x3 x4 x5))
        | fail)
      obtain ⟨w5, e5, hz5, hg5⟩ := HZ4.out.set1 (.slice a4 (1 + 1) c4)
      rw [← e5]
      have Hx5 := Lib.hid (Hx4.out.grown hg5 (by simp))
      have Hb5 := Lib.hid (below_rowD Hb4.out hg5 (fun q hq => by cases hq; omega))
      have Ho5 : Hid (w5.ownsRow (w.heap.size + 1) TM 2 (.slice a4 (1 + 1) c4) 2 (mcells [(0, l), (2, 0)])) := Hown4.out.kept hg5 (.inr Hat4.out)
      have hs5 := hg5.size
      obtain ⟨r1, r2, r3, r4, r5⟩ := hz5
      clear e5 hg5 t1 t2 t3 t4 t5
      refine (Hc.out w5.heap.size _ w5 (RdMarks.of_own (ms := [(0, l), (2, 0)]) Ho5.out HI.out) (Nat.le_refl _)).mono ?_
      rintro e w6 ⟨rfl, hb6⟩
      have hx6 := Hx5.out.below hb6
      obtain ⟨w7, e7, hx7, hout⟩ := claim_none (w := w) (by omega) hx6 (Hb5.out.trans (hb6.mono (by omega))) (by have h := Hf.out; exact h)
      rw [Hf.out.1] at hout
      have E7 := Lib.hid e7
      have Hout := Lib.hid hout
      obtain ⟨y1, y2, y3, y4, y5⟩ := hx6
      clear e7 hout hb6 r1 r2 r3 r4 r5
      go_wp2
      rw [← E7.out]
      obtain ⟨z1, z2, _⟩ := hx7
      exact bodyPost_ret (by simp [results, Try.results39, go_sem, z1, z2]) rfl Hout.out
    | true =>
      have Hf := Lib.hid (kindV_yes hok)
      rw [hok] at hc
      have Hc := Lib.hid hc; clear hc hok
      obtain ⟨x1, x2, x3, x4, x5⟩ := hz3
      go_enter Try.func39, Try.ntmps39
      go_upto_region 2 with fail
      rw [← hw3]
      clear hw3
      go_wp2_with (first
        | (at_builtin; refine wpList_append_own_at _ rfl (.tmp 19) (.tmp 21) 23 rfl (w.heap.size + 1) TM im (.agg #[.int .i64 0, .int .i64 0]) 2 16 Try.underlying23 Mi.out Mz0.out Mz1.out Mz2.out rfl (by decide) _ _ _ rfl (HO3.out.alloc _) ⟨w.heap.size + 3, 0, none⟩ 1 1 (mcells [(2, 0)]) rfl rfl (news2 _ _ (by omega) _ _ _) (mcells_one _) (by unfold maxLen; omega) (by omega) (by simp; omega) ?_
           go_must (intro v4 w4 hown4 hgr4 _ hat4
                    have hgr4' : (w3.alloc (.cells #[.int .i64 2, .int .i64 0] TM)).grownBy w4 (some (w.heap.size + 1)) := hgr4
                    have Hx4 := Lib.hid ((HX3.out.alloc (.cells #[.int .i64 2, .int .i64 0] TM)).grown hgr4' (by simp))
                    have hz4 := (HZ3.out.alloc (.cells #[.int .i64 2, .int .i64 0] TM)).grown hgr4' (by simp)
                    have Hb4 := Lib.hid (below_rowD (HB3.out.alloc (by omega) (.cells #[.int .i64 2, .int .i64 0] TM)) hgr4' (fun q hq => by cases hq; omega))
                    have hs4 := hgr4'.size
                    simp at hs4
                    have hat4' : v4.ownBlock = some (w.heap.size + 1) ∨ v4.ownBlock = some (w3.alloc (.cells #[.int .i64 2, .int .i64 0] TM)).heap.size := hat4
                    have Hat4 : Hid (v4.ownBlock ≠ some (w.heap.size + 2)) := by
                      unfold Hid
                      rcases hat4' with h | h
                      · rw [h]; simp
                      · rw [h]; simp; omega
                    obtain ⟨a4, c4, hv4⟩ := own_len hown4
                    subst hv4
                    have Hown4 := Lib.hid hown4
                    have HZ4 := Lib.hid hz4
                    obtain ⟨t1, t2, t3, t4, t5⟩ := hz4
                    clear hown4 hgr4 hgr4' hat4 hat4' x1 x2 x3 x4 x5))
        | fail)
      obtain ⟨w5, e5, hz5, hg5⟩ := HZ4.out.set1 (.slice a4 (1 + 1) c4)
      rw [← e5]
      have Hx5 := Lib.hid (Hx4.out.grown hg5 (by simp))
      have Hb5 := Lib.hid (below_rowD Hb4.out hg5 (fun q hq => by cases hq; omega))
      have Ho5 : Hid (w5.ownsRow (w.heap.size + 1) TM 2 (.slice a4 (1 + 1) c4) 2 (mcells [(0, l), (2, 0)])) := Hown4.out.kept hg5 (.inr Hat4.out)
      have hs5 := hg5.size
      obtain ⟨r1, r2, r3, r4, r5⟩ := hz5
      clear e5 hg5 t1 t2 t3 t4 t5
      refine (Hc.out w5.heap.size _ w5 (RdMarks.of_own (ms := [(0, l), (2, 0)]) Ho5.out HI.out) (Nat.le_refl _)).mono ?_
      rintro e w6 ⟨rfl, hb6⟩
      have hx6 := Hx5.out.below hb6
      obtain ⟨w7, e7, hx7, hout⟩ := claim_some (w := w) (base := w.heap.size + 1) (k := k) (ms := [(0, l), (2, 0)]) (Nat.le_refl _) (by omega) hx6 (Hb5.out.trans (hb6.mono (by omega))) (own_below Ho5.out hb6) (by have h := Hf.out; exact h)
      rw [Hf.out.1] at hout
      have E7 := Lib.hid e7
      have Hout := Lib.hid hout
      have q1 := (hb6.cell (p := ⟨w.heap.size + 2, 0, none⟩) r5).trans r1
      have q2 := (hb6.cell (p := ⟨w.heap.size + 2, 1, none⟩) r5).trans r2
      obtain ⟨y1, y2, y3, y4, y5⟩ := hx6
      clear e7 hout hb6 r1 r2 r3 r4 r5
      go_wp2
      rw [← E7.out]
      obtain ⟨z1, z2, _⟩ := hx7
      exact bodyPost_ret (by simp [results, Try.results39, go_sem, z1, z2]) rfl Hout.out
end Go.Proofs.Ytpccldbcmanhdaa
