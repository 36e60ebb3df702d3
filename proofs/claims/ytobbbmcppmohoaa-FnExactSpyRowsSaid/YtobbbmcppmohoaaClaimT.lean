/- Contracts of the reference's claims and stories: terms of claims, stories and their tables. -/
import Derived.Test.YtobbbmcppmohoaaClaimS
import Derived.OwnWalk
namespace Go.Proofs.Ytobbbmcppmohoaa
open Go.RowKit Go.Joins
attribute [local irreducible] holds tabN tabV holdsV sameV followsV alwaysV matterV claimOk mayT mayV ctabV ctabN storyV storyOk storyN storyT ctermV ctermL
theorem RdMarks.cells {w : World} {B b off n cap : Nat} {ms : List (Int × Int)} (h : RdMarks w B (.slice (some ⟨b, off, none⟩) n cap) ms) : ∀ (j : Nat) (u : Value), (mcells ms)[j]? = some u → w.cell? ((⟨b, off, none⟩ : Addr).add j) = some u := by
  intro j u hj
  obtain ⟨ao, cap', hv, hl, _, _, hc⟩ := h
  cases hv
  have hlt : j < ms.length * 2 := by
    rw [← mcells_length]
    exact (List.getElem?_eq_some_iff.1 hj).1
  obtain ⟨b', off', he, _, h1, h2⟩ := hc (j / 2) (by omega)
  cases he
  obtain ⟨g1, g2⟩ := mcells_get ms (j / 2) (by omega)
  have e : (⟨b, off, none⟩ : Addr).add j = ⟨b, off + j, none⟩ := by simp [Addr.add]
  rw [e]
  rcases Nat.mod_two_eq_zero_or_one j with hm | hm
  · have ej : j = j / 2 * 2 := by omega
    rw [ej] at hj ⊢
    rw [g1] at hj
    cases hj
    exact h1
  · have ej : j = j / 2 * 2 + 1 := by omega
    rw [ej] at hj ⊢
    rw [g2] at hj
    cases hj
    exact h2
/-- what a call hands back that returns marks in memory of its own -/
def RowOut (ms : List (Int × Int)) (w : World) (e : Ending) (w' : World) : Prop := ∃ v, e = .returned v ∧ w'.ownsRow w.heap.size TM 2 v ms.length (mcells ms) ∧ Below w.heap.size w w'
theorem ctermV_no {p : Int} {c : Cl} (h : claimOk p c = false) : ctermV p c = [] := by unfold ctermV; rw [h]; rfl
theorem ctermV_yes {p : Int} {c : Cl} (h : claimOk p c = true) : ctermV p c = ctermL c := by unfold ctermV; rw [h]; rfl
theorem ctermL_cells (k : Int) (ms : List (Int × Int)) : (ctermL (k, ms)).length = 1 + ms.length + 1 ∧ mcells (ctermL (k, ms)) = mcells [(0, k)] ++ mcells ms ++ mcells [(5, 0)] := by
  unfold ctermL
  refine ⟨by simp; omega, ?_⟩
  rw [mcells_append]; rfl
/-! ### stories -/
theorem all_take_succ (p : Int) (qs : List QC) (j : Nat) (hj : j < qs.length) : ((qs.take (j + 1)).all fun q => claimOk p q.2) = (((qs.take j).all fun q => claimOk p q.2) && claimOk p (qs.getD j qc0).2) := by
  have e : qs.getD j qc0 = qs[j] := by simp [List.getD, hj]
  rw [List.take_succ_eq_append_getElem hj, List.all_append, e]
  simp
theorem storyOk_no {p : Int} {qs : List QC} {j : Nat} (hj : j < qs.length) (h : claimOk p (qs.getD j qc0).2 = false) : storyOk p (qs.map (·.2)) = false := by
  have e : qs.getD j qc0 = qs[j] := by simp [List.getD, hj]
  rw [e] at h
  cases hs : storyOk p (qs.map (·.2)) with
  | false => rfl
  | true =>
    have := (storyOk_iff.1 hs).1 qs[j].2 (List.mem_map.2 ⟨_, List.getElem_mem hj, rfl⟩)
    rw [h] at this; cases this
theorem storyOk_all {p : Int} {qs : List QC} (h : ((qs.take qs.length).all fun q => claimOk p q.2) = true) : storyOk p (qs.map (·.2)) = (pOk p && decide (qs.length ≤ 6)) := by
  rw [List.take_length] at h
  unfold storyOk
  rw [List.all_map, show (qs.all (claimOk p ∘ fun x => x.2)) = true from h, List.length_map]
  rfl
set_option maxRecDepth 100000 in
set_option maxHeartbeats 1000000 in
theorem specStoryOk (p : Int) (qs : List QC) (B : Nat) (v : Value) (w : World) (hr : RdStory w B v qs) (hB : B ≤ w.heap.size) :
    Calls Try.prog 34 #[.int .i64 p, v] w fun e w' => e = .returned (.bool (storyOk p (qs.map (·.2)))) ∧ Below w.heap.size w w' := by
  have Hr := Lib.hid hr
  obtain ⟨ao, cap, rfl, hal, ham, _, hac0⟩ := hr
  have hac := Lib.hid hac0; clear hac0
  unfold maxLen at ham
  obtain ⟨wo, rfl⟩ : ∃ wo : World, wo = w := ⟨_, rfl⟩
  go_enter Try.func34, Try.ntmps34
  go_wp2
  go_loopw [5] (fun i wr => ∃ j : Nat, j ≤ qs.length ∧ i = .int .i64 j ∧ Hid (((qs.take j).all fun q => claimOk p q.2) = true) ∧ Below wo.heap.size wo wr) (fun i _ => qs.length - (intOf i).toNat)
  case atStart => exact ⟨0, Nat.zero_le _, rfl, rfl, Below.refl _ _⟩
  case round =>
    obtain ⟨j, hj, rfl, hall, hbr⟩ := hrel
    by_cases hlt : j < qs.length
    · obtain ⟨b, off, rfl, hb, hc1, hc2⟩ := hac.out j hlt
      rw [← hbr.cell (p := ⟨b, _, none⟩) (show b < _ by omega)] at hc1 hc2
      have hBr : B ≤ wr.heap.size := by have := hbr.size; omega
      have Hm := Lib.hid ((Hr.out.get hlt).1.below (w' := wr) (fun q hq => hbr.block q (by omega)))
      have Hsucc := Lib.hid (all_take_succ p qs j hlt)
      have Hno := Lib.hid (fun h => storyOk_no (p := p) hlt h)
      generalize qs.getD j qc0 = q at *
      obtain ⟨u, k, ms⟩ := q
      have hcl := fun w h hB => specClaimOk p k ms B u w h hB
      have Hbr := Lib.hid hbr
      clear hbr
      dsimp only at hc1 hc2
      have Hm' : Hid (RdMarks wr B u ms) := Hm.out
      have Hsucc' : Hid (((qs.take (j + 1)).all fun q => claimOk p q.2) = (((qs.take j).all fun q => claimOk p q.2) && claimOk p (k, ms))) := Hsucc.out
      have Hno' : Hid (claimOk p (k, ms) = false → storyOk p (qs.map (·.2)) = false) := Hno.out
      clear Hm Hsucc Hno
      cases hok : claimOk p (k, ms) with
      | false =>
        have Hf := Lib.hid (Hno'.out hok)
        rw [hok] at hcl
        have Hc := Lib.hid hcl; clear hcl hok
        go_wp2_with fail
        refine (Hc.out _ Hm'.out hBr).mono ?_
        rintro e w2 ⟨rfl, hb2⟩
        have Hb2 := Lib.hid (Hbr.out.trans (hb2.mono Hbr.out.size)); clear hb2
        go_wp2
        go_ret
        exact ⟨by rw [Hf.out]; rfl, Hb2.out⟩
      | true =>
        have Hs : Hid (((qs.take (j + 1)).all fun q => claimOk p q.2) = true) := by
          unfold Hid
          rw [Hsucc'.out, hall.out, hok]; rfl
        rw [hok] at hcl
        have Hc := Lib.hid hcl; clear hcl hok
        go_wp2_with fail
        refine (Hc.out _ Hm'.out hBr).mono ?_
        rintro e w2 ⟨rfl, hb2⟩
        have Hb2 := Lib.hid (Hbr.out.trans (hb2.mono Hbr.out.size)); clear hb2
        go_wp2
        go_roundw
        case rel => exact ⟨j + 1, by omega, by go_num, Hs, Hb2.out⟩
        case measure => simp [intOf]; omega
    · obtain rfl : j = qs.length := by omega
      have Hv := Lib.hid (storyOk_all hall.out)
      have Hbr := Lib.hid hbr; clear hbr
      have hin := fun w => specIn p 1 4 w
      rw [show decide (1 ≤ p ∧ p ≤ 4) = pOk p from rfl] at hin
      cases hp : pOk p with
      | false =>
        rw [hp] at Hv hin
        have Hin := Lib.hid hin; clear hin hp
        go_wp2_with fail
        refine (Hin.out _).mono ?_
        rintro e w' ⟨rfl, rfl⟩
        go_wp2
        go_ret
        exact ⟨by rw [Hv.out]; rfl, Hbr.out⟩
      | true =>
        rw [hp] at Hv hin
        have Hin := Lib.hid hin; clear hin hp
        go_wp2_with fail
        refine (Hin.out _).mono ?_
        rintro e w' ⟨rfl, rfl⟩
        go_wp2
        go_ret
        exact ⟨ret_bool (by rw [Hv.out, Bool.true_and]; try (rw [decide_eq_decide]; omega)), Hbr.out⟩
theorem story_take (p : Int) (qs : List QC) (j : Nat) (hj : j < qs.length) : storyN p ((qs.take (j + 1)).map (·.2)) = storyN p ((qs.take j).map (·.2)) &&& ctabN p (qs.getD j qc0).2 := by
  have e : qs.getD j qc0 = qs[j] := by simp [List.getD, hj]
  rw [List.take_succ_eq_append_getElem hj, List.map_append, e]
  exact storyN_snoc p _ _
end Go.Proofs.Ytobbbmcppmohoaa
