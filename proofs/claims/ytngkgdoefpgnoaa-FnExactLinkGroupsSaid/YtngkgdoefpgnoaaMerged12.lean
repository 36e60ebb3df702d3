/- Texts of a proof, merged: ClaimT, TruthA. -/
import Derived.Test.YtngkgdoefpgnoaaClaimS
import Derived.OwnWalk
import Derived.Test.YtngkgdoefpgnoaaMerged7
import Derived.Deep.RegionWith
/- Contracts of the reference's claims and stories: terms of claims, stories and their tables. -/
namespace Go.Proofs.Ytngkgdoefpgnoaa
open Go.RowKit Go.Joins
attribute [local irreducible] holds tabN tabV holdsV sameV followsV alwaysV matterV claimOk mayT mayV ctabV ctabN storyV storyOk storyN storyT ctermV ctermL
theorem RdMarks.cells {w : World} {B b off n cap : Nat} {ms : List (Int × Int)} (h : RdMarks w B (.slice (some ⟨b, off, none⟩) n cap) ms) : ∀ (j : Nat) (u : Value), (mcells ms)[j]? = some u → w.cell? ((⟨b, off, none⟩ : Addr).add j) = some u := by
  intro j u hj
  obtain ⟨ao, cap', hv, hl, _, _, hc⟩ := h
  cases hv
  have hlt : j < ms.length * 2 := by
    rw [← mcells_length]
    exact (List.getElem?_eq_some_iff.1 hj).1
  obtain ⟨b', off', he, _, h1, h2⟩ := hc (j / 2) (by omega)
  cases he
  obtain ⟨g1, g2⟩ := mcells_get ms (j / 2) (by omega)
  have e : (⟨b, off, none⟩ : Addr).add j = ⟨b, off + j, none⟩ := by simp [Addr.add]
  rw [e]
  rcases Nat.mod_two_eq_zero_or_one j with hm | hm
  · have ej : j = j / 2 * 2 := by omega
    rw [ej] at hj ⊢
    rw [g1] at hj
    cases hj
    exact h1
  · have ej : j = j / 2 * 2 + 1 := by omega
    rw [ej] at hj ⊢
    rw [g2] at hj
    cases hj
    exact h2
/-- what a call hands back that returns marks in memory of its own -/
def RowOut (ms : List (Int × Int)) (w : World) (e : Ending) (w' : World) : Prop := ∃ v, e = .returned v ∧ w'.ownsRow w.heap.size TM 2 v ms.length (mcells ms) ∧ Below w.heap.size w w'
theorem ctermV_no {p : Int} {c : Cl} (h : claimOk p c = false) : ctermV p c = [] := by unfold ctermV; rw [h]; rfl
theorem ctermV_yes {p : Int} {c : Cl} (h : claimOk p c = true) : ctermV p c = ctermL c := by unfold ctermV; rw [h]; rfl
theorem ctermL_cells (k : Int) (ms : List (Int × Int)) : (ctermL (k, ms)).length = 1 + ms.length + 1 ∧ mcells (ctermL (k, ms)) = mcells [(0, k)] ++ mcells ms ++ mcells [(5, 0)] := by
  unfold ctermL
  refine ⟨by simp; omega, ?_⟩
  rw [mcells_append]; rfl
/-! ### stories -/
theorem all_take_succ (p : Int) (qs : List QC) (j : Nat) (hj : j < qs.length) : ((qs.take (j + 1)).all fun q => claimOk p q.2) = (((qs.take j).all fun q => claimOk p q.2) && claimOk p (qs.getD j qc0).2) := by
  have e : qs.getD j qc0 = qs[j] := by simp [List.getD, hj]
  rw [List.take_succ_eq_append_getElem hj, List.all_append, e]
  simp
theorem storyOk_no {p : Int} {qs : List QC} {j : Nat} (hj : j < qs.length) (h : claimOk p (qs.getD j qc0).2 = false) : storyOk p (qs.map (·.2)) = false := by
  have e : qs.getD j qc0 = qs[j] := by simp [List.getD, hj]
  rw [e] at h
  cases hs : storyOk p (qs.map (·.2)) with
  | false => rfl
  | true =>
    have := (storyOk_iff.1 hs).1 qs[j].2 (List.mem_map.2 ⟨_, List.getElem_mem hj, rfl⟩)
    rw [h] at this; cases this
theorem storyOk_all {p : Int} {qs : List QC} (h : ((qs.take qs.length).all fun q => claimOk p q.2) = true) : storyOk p (qs.map (·.2)) = (pOk p && decide (qs.length ≤ 6)) := by
  rw [List.take_length] at h
  unfold storyOk
  rw [List.all_map, show (qs.all (claimOk p ∘ fun x => x.2)) = true from h, List.length_map]
  rfl
theorem story_take (p : Int) (qs : List QC) (j : Nat) (hj : j < qs.length) : storyN p ((qs.take (j + 1)).map (·.2)) = storyN p ((qs.take j).map (·.2)) &&& ctabN p (qs.getD j qc0).2 := by
  have e : qs.getD j qc0 = qs[j] := by simp [List.getD, hj]
  rw [List.take_succ_eq_append_getElem hj, List.map_append, e]
  exact storyN_snoc p _ _
set_option maxRecDepth 100000 in
set_option maxHeartbeats 2000000 in
theorem specStoryTab (p : Int) (qs : List QC) (hok : storyOk p (qs.map (·.2)) = true) (B : Nat) (v : Value) (w : World) (hr : RdStory w B v qs) (hB : B ≤ w.heap.size) :
    Calls Try.prog 53 #[.int .i64 p, v] w fun e w' => e = .returned (.int .i64 (storyN p (qs.map (·.2)))) ∧ Below w.heap.size w w' := by
  obtain ⟨hall, hp, _⟩ := storyOk_iff.1 hok
  have hp14 : 1 ≤ p ∧ p ≤ 4 := by simpa [pOk] using hp
  obtain ⟨h1, h4⟩ := hp14
  have Hall : Hid (∀ j, j < qs.length → claimOk p (qs.getD j qc0).2 = true) := fun j hj => by
    have e : qs.getD j qc0 = qs[j] := by simp [List.getD, hj]
    rw [e]; exact hall _ (List.mem_map.2 ⟨_, List.getElem_mem hj, rfl⟩)
  have Hlt : Hid (∀ s, storyN p s < 65536) := fun s => storyN_lt h1 h4
  have Hct : Hid (∀ c, ctabN p c < 65536) := fun s => ctabN_lt h1 h4
  have H0 := Lib.hid (storyN_nil p)
  have Hr := Lib.hid hr
  obtain ⟨ao, cap, rfl, hal, ham, _, hac0⟩ := hr
  have hac := Lib.hid hac0; clear hac0 hall hp hok
  unfold maxLen at ham
  obtain ⟨wo, rfl⟩ : ∃ wo : World, wo = w := ⟨_, rfl⟩
  obtain ⟨F, hF⟩ : ∃ F : Int, F = (storyN p [] : Int) := ⟨_, rfl⟩
  have HF := Lib.hid hF; clear hF
  have hFl : F = 3 ∨ F = 15 ∨ F = 255 ∨ F = 65535 := by
    have h0 := HF.out
    rw [H0.out] at h0
    rcases p_cases h1 h4 with rfl | rfl | rfl | rfl <;> (simp at h0; omega)
  have Hcl0 := Lib.hid (fun k ms (h : claimOk p (k, ms) = true) u w h1 h2 => specClaimTab h B u w h1 h2)
  have Hsucc0 := Lib.hid (fun j hj => story_take p qs j hj)
  generalize storyN p = SN at *
  generalize ctabN p = CT at *
  rcases p_cases h1 h4 with rfl | rfl | rfl | rfl
  all_goals
    clear h1 h4 hFl
    go_enter Try.func53, Try.ntmps53
    go_wp2
    go_loopw [5, 6] (fun t' i wr => ∃ j : Nat, j ≤ qs.length ∧ i = .int .i64 j ∧ t' = .int .i64 (SN ((qs.take j).map (·.2))) ∧ Below wo.heap.size wo wr) (fun _ i _ => qs.length - (intOf i).toNat)
    case atStart => exact ⟨0, Nat.zero_le _, rfl, by rw [List.take_zero, List.map_nil, H0.out]; rfl, Below.refl _ _⟩
    case round =>
      obtain ⟨j, hj, rfl, rfl, hbr⟩ := hrel
      by_cases hlt : j < qs.length
      · obtain ⟨b, off, rfl, hb, hc1, hc2⟩ := hac.out j hlt
        rw [← hbr.cell (p := ⟨b, _, none⟩) (show b < _ by omega)] at hc1 hc2
        have hBr : B ≤ wr.heap.size := by have := hbr.size; omega
        have Hm := Lib.hid ((Hr.out.get hlt).1.below (w' := wr) (fun q hq => hbr.block q (by omega)))
        have Hsucc := Lib.hid (Hsucc0.out j hlt)
        have hok := Hall.out j hlt
        generalize qs.getD j qc0 = q at *
        obtain ⟨u, k, ms⟩ := q
        have Hcl := Lib.hid (fun w h hB => Hcl0.out k ms hok u w h hB)
        have Hbr := Lib.hid hbr
        clear hbr hok
        dsimp only at hc1 hc2
        have Hm' : Hid (RdMarks wr B u ms) := Hm.out
        have Hsucc' : Hid (SN ((qs.take (j + 1)).map (·.2)) = SN ((qs.take j).map (·.2)) &&& CT (k, ms)) := Hsucc.out
        have hand := bits_and_nat (SN ((qs.take j).map (·.2))) (CT (k, ms)) (by have := Hlt.out ((qs.take j).map (·.2)); omega) (by have := Hct.out (k, ms); omega)
        clear Hm Hsucc
        generalize SN ((qs.take j).map (·.2)) = T at *
        generalize CT (k, ms) = U at *
        go_wp2_with fail
        refine (Hcl.out _ Hm'.out hBr).mono ?_
        rintro e w2 ⟨rfl, hb2⟩
        have Hb2 := Lib.hid (Hbr.out.trans (hb2.mono Hbr.out.size)); clear hb2
        go_wp2
        go_roundw
        case rel => exact ⟨j + 1, by omega, by go_num, by rw [Hsucc'.out], Hb2.out⟩
        case measure => simp [intOf]; omega
      · obtain rfl : j = qs.length := by omega
        have Hbr := Lib.hid hbr; clear hbr
        go_wp2
        go_ret
        exact ⟨by rw [List.take_length]; rfl, Hbr.out⟩
end Go.Proofs.Ytngkgdoefpgnoaa
/- Contract of the reference's AlwaysOk. -/
namespace Go.Proofs.Ytngkgdoefpgnoaa
open Go.RowKit
attribute [local irreducible] holds tabN tabV holdsV sameV followsV alwaysV matterV
end Go.Proofs.Ytngkgdoefpgnoaa
