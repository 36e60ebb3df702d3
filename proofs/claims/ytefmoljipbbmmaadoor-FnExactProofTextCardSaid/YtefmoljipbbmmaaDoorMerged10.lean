/- Texts of a proof, merged: LawsA, DrawN, DrawC, DrawS, ClaimT. -/
import Derived.Test.YtefmoljipbbmmaaDoorMerged6
import Derived.Test.YtefmoljipbbmmaaDoorMerged4
import Derived.Test.YtefmoljipbbmmaaDoorMerged0
import Derived.Test.YtefmoljipbbmmaaDoorDraw
import Derived.WalkKit
import Derived.ProofKit
import Derived.Test.YtefmoljipbbmmaaDoorDrawM
import Derived.Test.YtefmoljipbbmmaaDoorClaimS
import Derived.Deep.RegionHeld3
import Derived.Deep.Cut
import Derived.OwnWalk
/- The first laws of chapter 1: worlds. Each answers true, whatever the code. No condition. -/
namespace Go.Proofs.YtefmoljipbbmmaaDoor
open Go.RowKit

attribute [local irreducible] heads turned tabOf wl

/-- two drawn numbers of which P holds, nothing that was there is changed -/
def Out2 (P : Int → Int → Prop) (w : World) (e : Ending) (w' : World) : Prop :=
  ∃ p x : Int, P p x ∧ e = .returned (.tuple #[.int .i64 p, .int .i64 x]) ∧ Below w.heap.size w w'
theorem below_of_grown {w w1 w' : World} {b : Nat} (h : Below w.heap.size w w1) (hb : w.heap.size ≤ b) (hg : w1.grownBy w' (some b)) : Below w.heap.size w w' :=
  h.grown hg h.size (fun k hk => by cases hk; exact hb)
theorem code_big {n : Nat} (h : ¬ n ≤ 1048576) : (1048576 : Int) < (n : Int) := by omega




end Go.Proofs.YtefmoljipbbmmaaDoor

namespace Go.Proofs.YtefmoljipbbmmaaDoor
open Go.RowKit
theorem heads_opp {p : Int} {X N : Nat} (h1 : 1 ≤ p) (h2 : p ≤ 4) (hN : (N : Int) = 2 ^ p.toNat) (hX : X < N) : (heads X : Int) + heads (N - 1 - X) = p := by
  rcases p_cases h1 h2 with rfl | rfl | rfl | rfl
  · have : N = 2 := by simp at hN; omega
    subst this
    exact (by decide +kernel : ∀ X : Nat, X < 2 → (heads X : Int) + heads (2 - 1 - X) = 1) X hX
  · have : N = 4 := by simp at hN; omega
    subst this
    exact (by decide +kernel : ∀ X : Nat, X < 4 → (heads X : Int) + heads (4 - 1 - X) = 2) X hX
  · have : N = 8 := by simp at hN; omega
    subst this
    exact (by decide +kernel : ∀ X : Nat, X < 8 → (heads X : Int) + heads (8 - 1 - X) = 3) X hX
  · have : N = 16 := by simp at hN; omega
    subst this
    exact (by decide +kernel : ∀ X : Nat, X < 16 → (heads X : Int) + heads (16 - 1 - X) = 4) X hX
theorem N_even {p : Int} {N : Nat} (h1 : 1 ≤ p) (h2 : p ≤ 4) (hN : (N : Int) = 2 ^ p.toNat) : N = 2 ∨ N = 4 ∨ N = 8 ∨ N = 16 := by
  rcases p_cases h1 h2 with rfl | rfl | rfl | rfl <;> simp at hN <;> omega
theorem wOk_N {p x : Int} {N : Nat} (h : wOk p x = true) (hN : (N : Int) = 2 ^ p.toNat) : 0 ≤ x ∧ x < N := by
  have := wOk_iff.1 h; omega
theorem wOk_of {p x : Int} {N : Nat} (h1 : 1 ≤ p) (h2 : p ≤ 4) (hN : (N : Int) = 2 ^ p.toNat) (h3 : 0 ≤ x) (h4 : x < N) : wOk p x = true :=
  wOk_iff.2 ⟨h1, h2, h3, by omega⟩
end Go.Proofs.YtefmoljipbbmmaaDoor
/- The reference model's draws of a number of people and a term. -/
namespace Go.Proofs.YtefmoljipbbmmaaDoor
open Go.RowKit Go.Joins

/-- a number of people and a row of marks; the reader is at most at c -/
def DrewT (b c : Nat) (w : World) (e : Ending) (w' : World) : Prop :=
  ∃ (p : Int) (g n cap : Nat) (ms : List (Int × Int)), 1 ≤ p ∧ p ≤ 8 ∧ e = .returned (.tuple #[.int .i64 p, .slice (some ⟨g, 0, none⟩) n cap]) ∧ ms.length = n ∧ w'.ownsRow w.heap.size TM 2 (.slice (some ⟨g, 0, none⟩) n cap) n (mcells ms) ∧ I64s ms ∧ n ≤ 20 ∧ Rd w' b c ∧ w.grownBy w' (some b)
/-- what a draw of a number of people and a row of marks hands back -/
def OutT (w : World) (e : Ending) (w' : World) : Prop :=
  ∃ (p : Int) (g n cap : Nat) (ms : List (Int × Int)), 1 ≤ p ∧ p ≤ 8 ∧ e = .returned (.tuple #[.int .i64 p, .slice (some ⟨g, 0, none⟩) n cap]) ∧ ms.length = n ∧ w'.ownsRow w.heap.size TM 2 (.slice (some ⟨g, 0, none⟩) n cap) n (mcells ms) ∧ I64s ms ∧ n ≤ 20 ∧ Below w.heap.size w w'






end Go.Proofs.YtefmoljipbbmmaaDoor
/- The reference model's draws of claims and stories. -/
namespace Go.Proofs.YtefmoljipbbmmaaDoor
open Go.RowKit Go.Joins
/-- what a draw of a number of people and a claim hands back -/
def OutC (w : World) (e : Ending) (w' : World) : Prop :=
  ∃ (p k : Int) (g cap : Nat) (ms : List (Int × Int)), 1 ≤ p ∧ p ≤ 8 ∧ e = .returned (.tuple #[.int .i64 p, .agg #[.int .i64 k, .slice (some ⟨g, 0, none⟩) ms.length cap]]) ∧ w'.ownsRow w.heap.size TM 2 (.slice (some ⟨g, 0, none⟩) ms.length cap) ms.length (mcells ms) ∧ I64s ms ∧ ms.length ≤ 20 ∧ -1 ≤ k ∧ k ≤ 4 ∧ Below w.heap.size w w'
theorem RdBytes.up {w w1 : World} {a : Value} {n : Nat} (h : RdBytes w w.heap.size a n) (hb : Below w.heap.size w w1) : RdBytes w1 w1.heap.size a n := by
  obtain ⟨ao, cap, hv, hl, hm, hc⟩ := h.below (fun k hk => hb.block k hk)
  refine ⟨ao, cap, hv, hl, hm, fun j hj => ?_⟩
  obtain ⟨b, off, ha, hlt, hz⟩ := hc j hj
  exact ⟨b, off, ha, by have := hb.size; omega, hz⟩
theorem below_row {w w1 w2 : World} {row : Option Nat} (h : Below w.heap.size w w1) (hg : w1.grownBy w2 row) (hr : ∀ k, row = some k → w.heap.size ≤ k) : Below w.heap.size w w2 :=
  h.grown hg h.size hr
/-- what a draw of a number of people, a claim and a world hands back -/
def OutCX (w : World) (e : Ending) (w' : World) : Prop :=
  ∃ (p k : Int) (g cap : Nat) (ms : List (Int × Int)) (x : Int), 1 ≤ p ∧ p ≤ 4 ∧ e = .returned (.tuple #[.int .i64 p, .agg #[.int .i64 k, .slice (some ⟨g, 0, none⟩) ms.length cap], .int .i64 x]) ∧ w'.ownsRow w.heap.size TM 2 (.slice (some ⟨g, 0, none⟩) ms.length cap) ms.length (mcells ms) ∧ I64s ms ∧ ms.length ≤ 20 ∧ -1 ≤ k ∧ k ≤ 4 ∧ 0 ≤ x ∧ x ≤ 100 ∧ Below w.heap.size w w'
end Go.Proofs.YtefmoljipbbmmaaDoor
/- The reference model's draws of stories. -/
namespace Go.Proofs.YtefmoljipbbmmaaDoor
open Go.RowKit Go.Joins
def QSmall (qs : List QC) : Prop := ∀ q ∈ qs, q.2.2.length ≤ 20 ∧ -1 ≤ q.2.1 ∧ q.2.1 ≤ 4
theorem QSmall.snoc {qs : List QC} {q : QC} (h : QSmall qs) (hq : q.2.2.length ≤ 20 ∧ -1 ≤ q.2.1 ∧ q.2.1 ≤ 4) : QSmall (qs ++ [q]) := by
  intro r hr
  rcases List.mem_append.1 hr with hr | hr
  · exact h r hr
  · simp at hr; subst hr; exact hq
/-- one claim more: how a round ends -/
theorem claim_added {w w4 w5 : World} {b : Nat} {v v' u : Value} {qs : List QC} {k : Int} {ms : List (Int × Int)} {c : Nat} {o : Obj} (hb : b < w.heap.size) (hs : StoryIn w4 w.heap.size w.heap.size v qs) (hq : QSmall qs)
    (hu : w4.ownsRow w.heap.size TM 2 u ms.length (mcells ms)) (hi : I64s ms) (hn : ms.length ≤ 20) (hk1 : -1 ≤ k) (hk4 : k ≤ 4) (hG : w.grownBy w4 (some b)) (hr : Rd w4 b c)
    (hown : w5.ownsRow w.heap.size TC 2 v' (qs.length + 1) (ccells qs ++ ccells [(u, (k, ms))])) (hg : (w4.alloc o).grownBy w5 v.ownBlock) :
    StoryIn w5 w.heap.size w.heap.size v' (qs ++ [(u, (k, ms))]) ∧ QSmall (qs ++ [(u, (k, ms))]) ∧ w.grownBy w5 (some b) ∧ Rd w5 b c := by
  refine ⟨(hs.alloc o).push ⟨hu.alloc o, hi, show I64 k from I64_small (by omega) (by omega)⟩ hown hg, hq.snoc ⟨hn, hk1, hk4⟩, ?_, ?_⟩
  · exact grown_own (only_alloc hG _) hg fun q hq => (hs.1.lt q hq).1
  · exact (hr.alloc _).grown hg (own_row_block hs.1 hb)
/-- what a draw of a number of people and a story hands back -/
def OutS (w : World) (e : Ending) (w' : World) : Prop :=
  ∃ (p : Int) (v : Value) (qs : List QC), -4 ≤ p ∧ p ≤ 8 ∧ e = .returned (.tuple #[.int .i64 p, v]) ∧ StoryIn w' w.heap.size w.heap.size v qs ∧ QSmall qs ∧ qs.length ≤ 7 ∧ Below w.heap.size w w'
end Go.Proofs.YtefmoljipbbmmaaDoor
/- Contracts of the reference's claims and stories: terms of claims, stories and their tables. -/
namespace Go.Proofs.YtefmoljipbbmmaaDoor
open Go.RowKit Go.Joins
attribute [local irreducible] holds tabN tabV holdsV sameV followsV alwaysV matterV claimOk mayT mayV ctabV ctabN storyV storyOk storyN storyT ctermV ctermL
theorem RdMarks.cells {w : World} {B b off n cap : Nat} {ms : List (Int × Int)} (h : RdMarks w B (.slice (some ⟨b, off, none⟩) n cap) ms) : ∀ (j : Nat) (u : Value), (mcells ms)[j]? = some u → w.cell? ((⟨b, off, none⟩ : Addr).add j) = some u := by
  intro j u hj
  obtain ⟨ao, cap', hv, hl, _, _, hc⟩ := h
  cases hv
  have hlt : j < ms.length * 2 := by
    rw [← mcells_length]
    exact (List.getElem?_eq_some_iff.1 hj).1
  obtain ⟨b', off', he, _, h1, h2⟩ := hc (j / 2) (by omega)
  cases he
  obtain ⟨g1, g2⟩ := mcells_get ms (j / 2) (by omega)
  have e : (⟨b, off, none⟩ : Addr).add j = ⟨b, off + j, none⟩ := by simp [Addr.add]
  rw [e]
  rcases Nat.mod_two_eq_zero_or_one j with hm | hm
  · have ej : j = j / 2 * 2 := by omega
    rw [ej] at hj ⊢
    rw [g1] at hj
    cases hj
    exact h1
  · have ej : j = j / 2 * 2 + 1 := by omega
    rw [ej] at hj ⊢
    rw [g2] at hj
    cases hj
    exact h2
/-- what a call hands back that returns marks in memory of its own -/
def RowOut (ms : List (Int × Int)) (w : World) (e : Ending) (w' : World) : Prop := ∃ v, e = .returned v ∧ w'.ownsRow w.heap.size TM 2 v ms.length (mcells ms) ∧ Below w.heap.size w w'
theorem ctermV_no {p : Int} {c : Cl} (h : claimOk p c = false) : ctermV p c = [] := by unfold ctermV; rw [h]; rfl
theorem ctermV_yes {p : Int} {c : Cl} (h : claimOk p c = true) : ctermV p c = ctermL c := by unfold ctermV; rw [h]; rfl
theorem ctermL_cells (k : Int) (ms : List (Int × Int)) : (ctermL (k, ms)).length = 1 + ms.length + 1 ∧ mcells (ctermL (k, ms)) = mcells [(0, k)] ++ mcells ms ++ mcells [(5, 0)] := by
  unfold ctermL
  refine ⟨by simp; omega, ?_⟩
  rw [mcells_append]; rfl
/-! ### stories -/
theorem all_take_succ (p : Int) (qs : List QC) (j : Nat) (hj : j < qs.length) : ((qs.take (j + 1)).all fun q => claimOk p q.2) = (((qs.take j).all fun q => claimOk p q.2) && claimOk p (qs.getD j qc0).2) := by
  have e : qs.getD j qc0 = qs[j] := by simp [List.getD, hj]
  rw [List.take_succ_eq_append_getElem hj, List.all_append, e]
  simp
theorem storyOk_no {p : Int} {qs : List QC} {j : Nat} (hj : j < qs.length) (h : claimOk p (qs.getD j qc0).2 = false) : storyOk p (qs.map (·.2)) = false := by
  have e : qs.getD j qc0 = qs[j] := by simp [List.getD, hj]
  rw [e] at h
  cases hs : storyOk p (qs.map (·.2)) with
  | false => rfl
  | true =>
    have := (storyOk_iff.1 hs).1 qs[j].2 (List.mem_map.2 ⟨_, List.getElem_mem hj, rfl⟩)
    rw [h] at this; cases this
theorem storyOk_all {p : Int} {qs : List QC} (h : ((qs.take qs.length).all fun q => claimOk p q.2) = true) : storyOk p (qs.map (·.2)) = (pOk p && decide (qs.length ≤ 6)) := by
  rw [List.take_length] at h
  unfold storyOk
  rw [List.all_map, show (qs.all (claimOk p ∘ fun x => x.2)) = true from h, List.length_map]
  rfl
set_option maxRecDepth 100000 in
set_option maxHeartbeats 1000000 in
theorem specStoryOk (p : Int) (qs : List QC) (B : Nat) (v : Value) (w : World) (hr : RdStory w B v qs) (hB : B ≤ w.heap.size) :
    Calls Tryd.prog 38 #[.int .i64 p, v] w fun e w' => e = .returned (.bool (storyOk p (qs.map (·.2)))) ∧ Below w.heap.size w w' := by
  have Hr := Lib.hid hr
  obtain ⟨ao, cap, rfl, hal, ham, _, hac0⟩ := hr
  have hac := Lib.hid hac0; clear hac0
  unfold maxLen at ham
  obtain ⟨wo, rfl⟩ : ∃ wo : World, wo = w := ⟨_, rfl⟩
  go_enter Tryd.func38, Tryd.ntmps38
  go_wp2
  go_loopw [5] (fun i wr => ∃ j : Nat, j ≤ qs.length ∧ i = .int .i64 j ∧ Hid (((qs.take j).all fun q => claimOk p q.2) = true) ∧ Below wo.heap.size wo wr) (fun i _ => qs.length - (intOf i).toNat)
  case atStart => exact ⟨0, Nat.zero_le _, rfl, rfl, Below.refl _ _⟩
  case round =>
    obtain ⟨j, hj, rfl, hall, hbr⟩ := hrel
    by_cases hlt : j < qs.length
    · obtain ⟨b, off, rfl, hb, hc1, hc2⟩ := hac.out j hlt
      rw [← hbr.cell (p := ⟨b, _, none⟩) (show b < _ by omega)] at hc1 hc2
      have hBr : B ≤ wr.heap.size := by have := hbr.size; omega
      have Hm := Lib.hid ((Hr.out.get hlt).1.below (w' := wr) (fun q hq => hbr.block q (by omega)))
      have Hsucc := Lib.hid (all_take_succ p qs j hlt)
      have Hno := Lib.hid (fun h => storyOk_no (p := p) hlt h)
      generalize qs.getD j qc0 = q at *
      obtain ⟨u, k, ms⟩ := q
      have hcl := fun w h hB => specClaimOk p k ms B u w h hB
      have Hbr := Lib.hid hbr
      clear hbr
      dsimp only at hc1 hc2
      have Hm' : Hid (RdMarks wr B u ms) := Hm.out
      have Hsucc' : Hid (((qs.take (j + 1)).all fun q => claimOk p q.2) = (((qs.take j).all fun q => claimOk p q.2) && claimOk p (k, ms))) := Hsucc.out
      have Hno' : Hid (claimOk p (k, ms) = false → storyOk p (qs.map (·.2)) = false) := Hno.out
      clear Hm Hsucc Hno
      cases hok : claimOk p (k, ms) with
      | false =>
        have Hf := Lib.hid (Hno'.out hok)
        rw [hok] at hcl
        have Hc := Lib.hid hcl; clear hcl hok
        go_wp2_with fail
        refine (Hc.out _ Hm'.out hBr).mono ?_
        rintro e w2 ⟨rfl, hb2⟩
        have Hb2 := Lib.hid (Hbr.out.trans (hb2.mono Hbr.out.size)); clear hb2
        go_wp2
        go_ret
        exact ⟨by rw [Hf.out]; rfl, Hb2.out⟩
      | true =>
        have Hs : Hid (((qs.take (j + 1)).all fun q => claimOk p q.2) = true) := by
          unfold Hid
          rw [Hsucc'.out, hall.out, hok]; rfl
        rw [hok] at hcl
        have Hc := Lib.hid hcl; clear hcl hok
        go_wp2_with fail
        refine (Hc.out _ Hm'.out hBr).mono ?_
        rintro e w2 ⟨rfl, hb2⟩
        have Hb2 := Lib.hid (Hbr.out.trans (hb2.mono Hbr.out.size)); clear hb2
        go_wp2
        go_roundw
        case rel => exact ⟨j + 1, by omega, by go_num, Hs, Hb2.out⟩
        case measure => simp [intOf]; omega
    · obtain rfl : j = qs.length := by omega
      have Hv := Lib.hid (storyOk_all hall.out)
      have Hbr := Lib.hid hbr; clear hbr
      have hin := fun w => specIn p 1 4 w
      rw [show decide (1 ≤ p ∧ p ≤ 4) = pOk p from rfl] at hin
      cases hp : pOk p with
      | false =>
        rw [hp] at Hv hin
        have Hin := Lib.hid hin; clear hin hp
        go_wp2_with fail
        refine (Hin.out _).mono ?_
        rintro e w' ⟨rfl, rfl⟩
        go_wp2
        go_ret
        exact ⟨by rw [Hv.out]; rfl, Hbr.out⟩
      | true =>
        rw [hp] at Hv hin
        have Hin := Lib.hid hin; clear hin hp
        go_wp2_with fail
        refine (Hin.out _).mono ?_
        rintro e w' ⟨rfl, rfl⟩
        go_wp2
        go_ret
        exact ⟨ret_bool (by rw [Hv.out, Bool.true_and]; try (rw [decide_eq_decide]; omega)), Hbr.out⟩
theorem story_take (p : Int) (qs : List QC) (j : Nat) (hj : j < qs.length) : storyN p ((qs.take (j + 1)).map (·.2)) = storyN p ((qs.take j).map (·.2)) &&& ctabN p (qs.getD j qc0).2 := by
  have e : qs.getD j qc0 = qs[j] := by simp [List.getD, hj]
  rw [List.take_succ_eq_append_getElem hj, List.map_append, e]
  exact storyN_snoc p _ _
end Go.Proofs.YtefmoljipbbmmaaDoor
