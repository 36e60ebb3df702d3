/- Contracts of the reference's claims and stories: terms of claims, stories and their tables. -/
import Derived.Test.YtpccldbcmanhdaaClaimS
import Derived.OwnWalk
namespace Go.Proofs.Ytpccldbcmanhdaa
open Go.RowKit Go.Joins
attribute [local irreducible] holds tabN tabV holdsV sameV followsV alwaysV matterV claimOk mayT mayV ctabV ctabN storyV storyOk storyN storyT ctermV ctermL
theorem RdMarks.cells {w : World} {B b off n cap : Nat} {ms : List (Int × Int)} (h : RdMarks w B (.slice (some ⟨b, off, none⟩) n cap) ms) : ∀ (j : Nat) (u : Value), (mcells ms)[j]? = some u → w.cell? ((⟨b, off, none⟩ : Addr).add j) = some u := by
  intro j u hj
  obtain ⟨ao, cap', hv, hl, _, _, hc⟩ := h
  cases hv
  have hlt : j < ms.length * 2 := by
    rw [← mcells_length]
    exact (List.getElem?_eq_some_iff.1 hj).1
  obtain ⟨b', off', he, _, h1, h2⟩ := hc (j / 2) (by omega)
  cases he
  obtain ⟨g1, g2⟩ := mcells_get ms (j / 2) (by omega)
  have e : (⟨b, off, none⟩ : Addr).add j = ⟨b, off + j, none⟩ := by simp [Addr.add]
  rw [e]
  rcases Nat.mod_two_eq_zero_or_one j with hm | hm
  · have ej : j = j / 2 * 2 := by omega
    rw [ej] at hj ⊢
    rw [g1] at hj
    cases hj
    exact h1
  · have ej : j = j / 2 * 2 + 1 := by omega
    rw [ej] at hj ⊢
    rw [g2] at hj
    cases hj
    exact h2
/-- what a call hands back that returns marks in memory of its own -/
def RowOut (ms : List (Int × Int)) (w : World) (e : Ending) (w' : World) : Prop := ∃ v, e = .returned v ∧ w'.ownsRow w.heap.size TM 2 v ms.length (mcells ms) ∧ Below w.heap.size w w'
theorem ctermV_no {p : Int} {c : Cl} (h : claimOk p c = false) : ctermV p c = [] := by unfold ctermV; rw [h]; rfl
theorem ctermV_yes {p : Int} {c : Cl} (h : claimOk p c = true) : ctermV p c = ctermL c := by unfold ctermV; rw [h]; rfl
theorem ctermL_cells (k : Int) (ms : List (Int × Int)) : (ctermL (k, ms)).length = 1 + ms.length + 1 ∧ mcells (ctermL (k, ms)) = mcells [(0, k)] ++ mcells ms ++ mcells [(5, 0)] := by
  unfold ctermL
  refine ⟨by simp; omega, ?_⟩
  rw [mcells_append]; rfl
set_option maxHeartbeats 2000000 in
theorem specClaimTerm (p k : Int) (ms : List (Int × Int)) (B : Nat) (u : Value) (w : World) (hr : RdMarks w B u ms) (hB : B ≤ w.heap.size) :
    Calls Try.prog 70 #[.int .i64 p, .agg #[.int .i64 k, u]] w (RowOut (ctermV p (k, ms)) w) := by
  obtain ⟨im, hmi, hmz0, hmz1, hmz2⟩ := info_parts Try.infoM
  have Mi := Lib.hid hmi; clear hmi
  have Mz0 := Lib.hid hmz0; clear hmz0
  have Mz1 := Lib.hid hmz1; clear hmz1
  have Mz2 := Lib.hid hmz2; clear hmz2
  have hc := fun w h hB => specClaimOk p k ms B u w h hB
  cases hok : claimOk p (k, ms) with
  | false =>
    have Hf := Lib.hid (ctermV_no hok)
    rw [hok] at hc
    have Hc := Lib.hid hc; clear hc hok
    go_enter Try.func70, Try.ntmps70
    go_upto_region 1 with fail
    obtain ⟨w1, hw1, n1, n2, hbw, hsz⟩ := new_two w (.int .i64 k) u TC
    rw [← hw1]
    have Hr1 := Lib.hid (hr.below (w' := w1) (fun q hq => hbw.block q (by omega)))
    have hB1 : B ≤ w1.heap.size := by omega
    have Hbw := Lib.hid hbw; clear hbw hw1 hr
    go_wp2_with fail
    refine (Hc.out _ Hr1.out hB1).mono ?_
    rintro e w2 ⟨rfl, hb2⟩
    have hb3 := Hbw.out.trans (hb2.mono Hbw.out.size)
    have Hb2 := Lib.hid hb3
    have hs := hb3.size
    clear hb2 hb3
    go_wp2
    go_ret
    refine ⟨_, rfl, ?_, Hb2.out.alloc hs _⟩
    rw [Hf.out]
    exact World.ownsRow_made w2 #[] 0 hs (Nat.zero_le _) rfl
  | true =>
    have Hf := Lib.hid (ctermV_yes hok)
    have hl13 : ms.length ≤ 13 := (claimOk_iff.1 hok).2.2.2
    obtain ⟨b, off, cap, rfl, hl, hm, hb⟩ := hr.form (by
      obtain ⟨_, t, _, _, _, _, _, hp, _⟩ := claim_parts hok
      rw [hp]
      exact post_pos t)
    rw [hok] at hc
    have Hc := Lib.hid hc; clear hc hok
    go_enter Try.func70, Try.ntmps70
    go_upto_region 1 with fail
    obtain ⟨w1, hw1, n1, n2, hbw, hsz⟩ := new_two w (.int .i64 k) (.slice (some ⟨b, off, none⟩) ms.length cap) TC
    rw [← hw1]
    have Hr1 := Lib.hid (hr.below (w' := w1) (fun q hq => hbw.block q (by omega)))
    have hB1 : B ≤ w1.heap.size := by omega
    have Hbw := Lib.hid hbw; clear hbw hw1 hr
    go_wp2_with fail
    refine (Hc.out _ Hr1.out hB1).mono ?_
    rintro e w2 ⟨rfl, hb2⟩
    have m1 := (hb2.cell (p := ⟨w.heap.size, 0, none⟩) hsz).trans n1
    have m2 := (hb2.cell (p := ⟨w.heap.size, 1, none⟩) hsz).trans n2
    have Hr2 := Lib.hid (Hr1.out.below (w' := w2) (fun q hq => hb2.block q (by omega)))
    have hB2 : B ≤ w2.heap.size := by have := hb2.size; omega
    have hb3 := Hbw.out.trans (hb2.mono Hbw.out.size)
    have Hb2 := Lib.hid hb3
    have hs2 := hb3.size
    have hsz2 : w.heap.size < w2.heap.size := by have := hb2.size; omega
    clear hb2 n1 n2 hb3
    go_upto_region 4 with fail
    obtain ⟨w3, hw3⟩ : ∃ w3 : World, w3 = w2.alloc (.cells #[.int .i64 0, .int .i64 k] TM) := ⟨_, rfl⟩
    have hG3 : w2.grownBy w3 none := by rw [hw3]; exact only_alloc (World.grownBy.refl _ _) _
    have Hrow := Lib.hid (show w3.ownsRow w2.heap.size TM 2 (.slice (some ⟨w2.heap.size, 0, none⟩) 1 1) 1 (mcells [(0, k)]) by rw [hw3]; exact own_new w2 w2.heap.size 0 k (Nat.le_refl _))
    have hs3 : w2.heap.size < w3.heap.size := by rw [hw3]; simp
    rw [← hw3]
    clear hw3
    have k1 := (hG3.cell_far ⟨w.heap.size, 0, none⟩ hsz2 (by simp)).trans m1
    have k2 := (hG3.cell_far ⟨w.heap.size, 1, none⟩ hsz2 (by simp)).trans m2
    have Hr3 := Lib.hid (Hr2.out.below (w' := w3) (fun q hq => hG3.block q (by omega) (by simp)))
    have HG3 := Lib.hid hG3
    clear hG3 m1 m2
    go_wp2_with (first
      | (at_builtin; refine wpList_append_own _ rfl (.tmp 15) (.tmp 17) 23 rfl w2.heap.size TM im (.agg #[.int .i64 0, .int .i64 0]) 2 16 Try.underlying23 Mi.out Mz0.out Mz1.out Mz2.out rfl (by decide) (.slice (some ⟨w2.heap.size, 0, none⟩) 1 1) 1 (mcells [(0, k)]) rfl Hrow.out ⟨b, off, none⟩ ms.length cap (mcells ms) rfl (mcells_length _) Hr3.out.cells (mcells_one _) (by unfold maxLen; omega) (by omega) (by omega) ?_; intro v4 w4 hown4 hgr4 _
         have hG4 : w2.grownBy w4 none := grown_own HG3.out hgr4 (fun q hq => (Hrow.out.lt q hq).1)
         have hs4 := hG4.size
         have HG4 := Lib.hid hG4; have Hown4 := Lib.hid hown4; clear hgr4 hG4 hown4)
      | (at_builtin; refine wpList_append_own _ rfl (.tmp 18) (.tmp 20) 23 rfl w2.heap.size TM im (.agg #[.int .i64 0, .int .i64 0]) 2 16 Try.underlying23 Mi.out Mz0.out Mz1.out Mz2.out rfl (by decide) v4 (1 + ms.length) (mcells [(0, k)] ++ mcells ms) rfl (Hown4.out.alloc _) ⟨w4.heap.size, 0, none⟩ 1 1 (mcells [(5, 0)]) rfl (mcells_length _) (news2 _ _ rfl _ _ _) (mcells_one _) (by unfold maxLen; omega) (by omega) (by simp; omega) ?_; intro v5 w5 hown5 hgr5 _
         have hG5 : w2.grownBy w5 none := grown_own (only_alloc HG4.out _) hgr5 (fun q hq => (Hown4.out.lt q hq).1)
         have HG5 := Lib.hid hG5; have Hown5 := Lib.hid hown5; clear hgr5 hG5 hown5)
      | fail)
    go_wp2
    go_ret
    obtain ⟨e1, e2⟩ := ctermL_cells k ms
    refine ⟨_, rfl, ?_, Hb2.out.trans ((below_none HG5.out).mono hs2)⟩
    rw [Hf.out, e1, e2]
    exact own_mono Hown5.out hs2
/-! ### stories -/
theorem all_take_succ (p : Int) (qs : List QC) (j : Nat) (hj : j < qs.length) : ((qs.take (j + 1)).all fun q => claimOk p q.2) = (((qs.take j).all fun q => claimOk p q.2) && claimOk p (qs.getD j qc0).2) := by
  have e : qs.getD j qc0 = qs[j] := by simp [List.getD, hj]
  rw [List.take_succ_eq_append_getElem hj, List.all_append, e]
  simp
theorem storyOk_no {p : Int} {qs : List QC} {j : Nat} (hj : j < qs.length) (h : claimOk p (qs.getD j qc0).2 = false) : storyOk p (qs.map (·.2)) = false := by
  have e : qs.getD j qc0 = qs[j] := by simp [List.getD, hj]
  rw [e] at h
  cases hs : storyOk p (qs.map (·.2)) with
  | false => rfl
  | true =>
    have := (storyOk_iff.1 hs).1 qs[j].2 (List.mem_map.2 ⟨_, List.getElem_mem hj, rfl⟩)
    rw [h] at this; cases this
theorem storyOk_all {p : Int} {qs : List QC} (h : ((qs.take qs.length).all fun q => claimOk p q.2) = true) : storyOk p (qs.map (·.2)) = (pOk p && decide (qs.length ≤ 6)) := by
  rw [List.take_length] at h
  unfold storyOk
  rw [List.all_map, show (qs.all (claimOk p ∘ fun x => x.2)) = true from h, List.length_map]
  rfl
theorem story_take (p : Int) (qs : List QC) (j : Nat) (hj : j < qs.length) : storyN p ((qs.take (j + 1)).map (·.2)) = storyN p ((qs.take j).map (·.2)) &&& ctabN p (qs.getD j qc0).2 := by
  have e : qs.getD j qc0 = qs[j] := by simp [List.getD, hj]
  rw [List.take_succ_eq_append_getElem hj, List.map_append, e]
  exact storyN_snoc p _ _
end Go.Proofs.Ytpccldbcmanhdaa
