/- Texts of a proof, merged: ClaimS, ClaimT, TruthA. -/
import Derived.Test.YthiabicleedleaaMerged8
import Derived.Test.YthiabicleedleaaMerged7
import Derived.Deep.RegionHeld3
import Derived.Deep.Cut
import Derived.OwnWalk
import Derived.Deep.RegionWith
/- Contracts of the reference's claims and stories. -/
namespace Go.Proofs.Ythiabicleedleaa
open Go.RowKit Go.Joins
theorem new_two (w : World) (a b : Value) (T : TypeId) : ∃ w1 : World, w1 = w.alloc (.cells #[a, b] T) ∧ w1.cell? ⟨w.heap.size, 0, none⟩ = some a ∧ w1.cell? ⟨w.heap.size, 1, none⟩ = some b ∧ Below w.heap.size w w1 ∧ w.heap.size < w1.heap.size := by
  refine ⟨_, rfl, ?_, ?_, (Below.refl _ _).alloc (Nat.le_refl _) _, by simp⟩
  · have := cell_of_row (w.alloc (.cells #[a, b] T)) w.heap.size 0 _ T (0, 0) (heap_alloc_new w _)
    rw [this]; rfl
  · have := cell_of_row (w.alloc (.cells #[a, b] T)) w.heap.size 1 _ T (0, 0) (heap_alloc_new w _)
    rw [this]; rfl
theorem below_drew1 {B : Nat} {a w : World} (h : Below B a w) : Below B a w.drew := h.trans ⟨rfl, rfl, rfl, Nat.le_refl _, fun _ _ => rfl⟩
attribute [local irreducible] holds tabN tabV holdsV sameV followsV alwaysV matterV claimOk mayT mayV ctabV ctabN storyV storyOk storyN storyT
set_option maxHeartbeats 1000000 in
theorem specClaimOk (p k : Int) (ms : List (Int × Int)) (B : Nat) (u : Value) (w : World) (hr : RdMarks w B u ms) (hB : B ≤ w.heap.size) :
    Calls Try.prog 41 #[.int .i64 p, .agg #[.int .i64 k, u]] w fun e w' => e = .returned (.bool (claimOk p (k, ms))) ∧ Below w.heap.size w w' := by
  have hbw : ∀ o, Below w.heap.size w (w.alloc o) := fun o => (Below.refl _ _).alloc (Nat.le_refl _) o
  by_cases h0 : 0 ≤ k
  case neg =>
    have Hf := Lib.hid (claimOk_no_who (p := p) (c := (k, ms)) (fun h => h0 h.1))
    clear hr
    go_enter Try.func41, Try.ntmps41
    go_wp2
    go_ret
    exact ⟨by rw [Hf.out]; rfl, hbw _⟩
  by_cases h1 : k < p
  case neg =>
    have Hf := Lib.hid (claimOk_no_who (p := p) (c := (k, ms)) (fun h => h1 h.2))
    clear hr
    go_enter Try.func41, Try.ntmps41
    go_wp2
    go_ret
    exact ⟨by rw [Hf.out]; rfl, hbw _⟩
  have Hr := Lib.hid (fun o => hr.below (w' := w.alloc o) (fun q hq => (hbw o).block q (by omega)))
  cases hok : termOk p ms with
  | false =>
    have Hf := Lib.hid (claimOk_no_term (p := p) (c := (k, ms)) hok)
    have Hok := Lib.hid hok
    clear hok hr
    go_enter Try.func41, Try.ntmps41
    go_wp2_with fail
    refine (specTermOk _ _ _ _ _ (Hr.out _)).mono ?_
    rintro e w' ⟨rfl, rfl⟩
    rw [Hok.out]
    go_wp2
    go_ret
    exact ⟨by rw [Hf.out]; rfl, hbw _⟩
  | true =>
    have Hf := Lib.hid (claimOk_at (p := p) (c := (k, ms)) h0 h1 hok)
    have Hok := Lib.hid hok
    obtain ⟨b, off, cap, rfl, hl, hm, hb⟩ := hr.form (by
      obtain ⟨_, _, t, _, rfl⟩ := termOk_iff.1 hok
      exact post_pos t)
    clear hok hr
    by_cases hn : ms.length ≤ 13
    case pos =>
      go_enter Try.func41, Try.ntmps41
      go_wp2_with fail
      refine (specTermOk _ _ _ _ _ (Hr.out _)).mono ?_
      rintro e w' ⟨rfl, rfl⟩
      rw [Hok.out]
      go_wp2
      go_ret
      exact ⟨ret_bool (by rw [Hf.out, Bool.eq_iff_iff]; simp; try omega), hbw _⟩
    case neg =>
      go_enter Try.func41, Try.ntmps41
      go_wp2_with fail
      refine (specTermOk _ _ _ _ _ (Hr.out _)).mono ?_
      rintro e w' ⟨rfl, rfl⟩
      rw [Hok.out]
      go_wp2
      go_ret
      exact ⟨ret_bool (by rw [Hf.out, Bool.eq_iff_iff]; simp; try omega), hbw _⟩
theorem bit_test (W k : Nat) : (((W : Int) / 2 ^ k) % 2 == 1) = W.testBit k ∧ (((W : Int) / 2 ^ k).tmod 2 == 1) = W.testBit k := by
  rw [tmod_two_val, mod_two_val]
  cases W.testBit k <;> exact ⟨rfl, rfl⟩
set_option maxRecDepth 100000 in
set_option maxHeartbeats 1000000 in
theorem specMay {p : Int} (t : Tm) (ht : t.ok p) (hp : p ≤ 4) (hlen : t.post.length ≤ 15) (k W : Nat) (hk : k < 4) (hW : W < 16) (B : Nat) (u : Value) (w : World) (hr : RdMarks w B u t.post) (hB : B ≤ w.heap.size) :
    Calls Try.prog 42 #[.agg #[.int .i64 k, u], .int .i64 W] w fun e w' => e = .returned (.bool (W.testBit k == holds W t)) ∧ Below w.heap.size w w' := by
  have Hc := Lib.hid (fun w' h hB => specHolds hp t ht hlen W B u w' hW h hB)
  have Htb := Lib.hid (bit_test W k)
  generalize holds W t = o at *
  have hmn : min k 64 = k := by omega
  go_enter Try.func42, Try.ntmps42
  go_upto_region 1 with fail
  obtain ⟨w1, hw1, n1, n2, hbw, hsz⟩ := new_two w (.int .i64 k) u TC
  rw [← hw1]
  have Hr1 := Lib.hid (hr.below (w' := w1) (fun q hq => hbw.block q (by omega)))
  have hB1 : B ≤ w1.heap.size := by omega
  have Hbw := Lib.hid hbw; clear hbw hw1 hr
  go_region_held3 (fun w' => w'.cell? ⟨w.heap.size, 0, none⟩ = some (.int .i64 k) ∧ w'.cell? ⟨w.heap.size, 1, none⟩ = some u)
    (first | (refine ⟨?_, ?_⟩ <;> first | go_keep | assumption) | assumption)
    (first
      | (go_at_call 65
         (with_reducible refine (Hc.out _ ?_ ?_).mono ?_)
         · exact Hr1.out
         · exact hB1
         rintro e w2 ⟨rfl, hb2'⟩
         go_must (have hb2 : Below w1.heap.size w1 w2 := by first | exact hb2' | exact below_undrewS hb2' | exact below_undrewN hb2'
                  clear hb2'
                  have m1 := (hb2.cell (p := ⟨w.heap.size, 0, none⟩) hsz).trans n1
                  have m2 := (hb2.cell (p := ⟨w.heap.size, 1, none⟩) hsz).trans n2
                  have Hb2 := Lib.hid (Hbw.out.trans (hb2.mono Hbw.out.size))
                  clear hb2))
      | fail)
  go_wp2
  go_ret
  exact ⟨ret_bool (by rw [← Htb.out.2]), by first | exact Hb2.out | exact below_drew1 Hb2.out | exact below_drewN Hb2.out _⟩
/-- of a claim that is one: its term, and who makes it as a number -/
theorem claim_parts {p k : Int} {ms : List (Int × Int)} (h : claimOk p (k, ms) = true) : ∃ (K : Nat) (t : Tm), k = K ∧ K < 4 ∧ p ≤ 4 ∧ 1 ≤ p ∧ t.ok p ∧ ms = t.post ∧ t.post.length ≤ 13 ∧ termOk p ms = true ∧ ∀ W, mayT p (k, ms) W = (W.testBit K == holds W t) := by
  obtain ⟨h1, h2, h3, h4⟩ := claimOk_iff.1 h
  obtain ⟨hp, _, t, ht, hpost⟩ := termOk_iff.1 h3
  dsimp only at h1 h2 h3 h4 hpost
  obtain ⟨K, rfl⟩ := Int.eq_ofNat_of_zero_le h1
  refine ⟨K, t, rfl, by omega, hp.2, hp.1, ht, hpost, by rw [← hpost]; exact h4, h3, fun W => ?_⟩
  unfold mayT
  dsimp only
  rw [hpost, tmOf_post ht, Int.toNat_natCast]
theorem specMayT {p k : Int} {ms : List (Int × Int)} (h : claimOk p (k, ms) = true) (W : Nat) (hW : W < 16) (B : Nat) (u : Value) (w : World) (hr : RdMarks w B u ms) (hB : B ≤ w.heap.size) :
    Calls Try.prog 42 #[.agg #[.int .i64 k, u], .int .i64 W] w fun e w' => e = .returned (.bool (mayT p (k, ms) W)) ∧ Below w.heap.size w w' := by
  obtain ⟨K, t, rfl, hK, hp4, _, ht, rfl, hl, _, hm⟩ := claim_parts h
  rw [hm W]
  exact specMay t ht hp4 (by omega) K W hK hW B u w hr hB
set_option maxRecDepth 100000 in
set_option maxHeartbeats 1000000 in
theorem specClaimTab {p k : Int} {ms : List (Int × Int)} (h : claimOk p (k, ms) = true) (B : Nat) (u : Value) (w : World) (hr : RdMarks w B u ms) (hB : B ≤ w.heap.size) :
    Calls Try.prog 70 #[.int .i64 p, .agg #[.int .i64 k, u]] w fun e w' => e = .returned (.int .i64 (ctabN p (k, ms))) ∧ Below w.heap.size w w' := by
  obtain ⟨h1, h4⟩ := p_of_claim h
  have Hm := Lib.hid (fun W hW w hr hB => specMayT h W hW B u w hr hB)
  have Hd : Hid (ctabN p (k, ms) = tabF (2 ^ p.toNat) (mayT p (k, ms))) := by unfold Hid ctabN; rfl
  obtain ⟨N, hN⟩ : ∃ N : Nat, N = 2 ^ p.toNat := ⟨_, rfl⟩
  have hNe : (N : Int) = 2 ^ p.toNat := by rw [hN]; simp
  have hsh : wrap64 (2 ^ p.toNat) = (N : Int) := by rcases p_cases h1 h4 with rfl | rfl | rfl | rfl <;> (rw [hNe]; decide +kernel)
  have hN16 : N ≤ 16 := by rw [hN]; exact two16 (by omega)
  rw [← hN] at Hd
  clear hNe h
  have HN := Lib.hid hN; clear hN
  generalize ctabN p (k, ms) = TT at *
  generalize mayT p (k, ms) = f at *
  have Hr := Lib.hid hr; clear hr
  obtain ⟨wo, rfl⟩ : ∃ wo : World, wo = w := ⟨_, rfl⟩
  go_enter Try.func70, Try.ntmps70
  go_upto_region 1 with fail
  obtain ⟨w1, hw1, n1, n2, hbw, hsz⟩ := new_two wo (.int .i64 k) u TC
  rw [← hw1]
  have Hr1 := Lib.hid (Hr.out.below (w' := w1) (fun q hq => hbw.block q (by omega)))
  have hB1 : B ≤ w1.heap.size := by omega
  have Hbw := Lib.hid hbw; clear hbw hw1 Hr
  go_wp2_with fail
  go_loopw [5, 6] (fun t' i wr => ∃ j : Nat, j ≤ N ∧ i = .int .i64 j ∧ t' = .int .i64 (tabF j f) ∧ Below w1.heap.size w1 wr) (fun _ i _ => N - (intOf i).toNat)
  case atStart => exact ⟨0, Nat.zero_le _, rfl, rfl, Below.refl _ _⟩
  case round =>
    obtain ⟨j, hj, rfl, rfl, hbr⟩ := hrel
    have hBr : B ≤ wr.heap.size := by have := hbr.size; omega
    have Hrr := Lib.hid (Hr1.out.below (fun q hq => hbr.block q (by omega)))
    have m1 := (hbr.cell (p := ⟨wo.heap.size, 0, none⟩) hsz).trans n1
    have m2 := (hbr.cell (p := ⟨wo.heap.size, 1, none⟩) hsz).trans n2
    have Hbr := Lib.hid hbr
    clear hbr
    by_cases hlt : j < N
    · have Hs := Lib.hid (tabF_succ j f)
      have hor := or_shlN (t := tabF j f) (x := j) (N := N) (Nat.lt_of_lt_of_le (tabF_lt j _) (Nat.pow_le_pow_right (by decide) hj)) hN16 hlt
      rw [Nat.min_eq_left (by omega)] at hor
      generalize tabF j f = T at *
      go_wp2_with fail
      refine (Hm.out j (by omega) wr Hrr.out hBr).mono ?_
      rintro e w2 ⟨rfl, hb2⟩
      have Hb2 := Lib.hid (Hbr.out.trans (hb2.mono Hbr.out.size))
      clear hb2 m1 m2
      cases hh : f j with
      | true =>
        rw [hh, if_pos rfl] at Hs
        have Hs' : Hid (tabF (j + 1) f = T ||| 1 <<< j) := Hs
        clear Hs hh
        go_wp2
        go_roundw
        case rel => exact ⟨j + 1, by omega, by go_num, by rw [Hs'.out, ← hor], Hb2.out⟩
        case measure => simp [intOf]; omega
      | false =>
        rw [hh, if_neg (by decide)] at Hs
        have Hs' : Hid (tabF (j + 1) f = T) := Hs
        clear Hs hh
        go_wp2
        go_roundw
        case rel => exact ⟨j + 1, by omega, by go_num, by rw [Hs'.out], Hb2.out⟩
        case measure => simp [intOf]; omega
    · obtain rfl : j = N := by omega
      go_wp2
      go_ret
      exact ⟨by rw [Hd.out]; rfl, Hbw.out.trans (Hbr.out.mono Hbw.out.size)⟩
end Go.Proofs.Ythiabicleedleaa
/- Contracts of the reference's claims and stories: terms of claims, stories and their tables. -/
namespace Go.Proofs.Ythiabicleedleaa
open Go.RowKit Go.Joins
attribute [local irreducible] holds tabN tabV holdsV sameV followsV alwaysV matterV claimOk mayT mayV ctabV ctabN storyV storyOk storyN storyT ctermV ctermL
theorem RdMarks.cells {w : World} {B b off n cap : Nat} {ms : List (Int × Int)} (h : RdMarks w B (.slice (some ⟨b, off, none⟩) n cap) ms) : ∀ (j : Nat) (u : Value), (mcells ms)[j]? = some u → w.cell? ((⟨b, off, none⟩ : Addr).add j) = some u := by
  intro j u hj
  obtain ⟨ao, cap', hv, hl, _, _, hc⟩ := h
  cases hv
  have hlt : j < ms.length * 2 := by
    rw [← mcells_length]
    exact (List.getElem?_eq_some_iff.1 hj).1
  obtain ⟨b', off', he, _, h1, h2⟩ := hc (j / 2) (by omega)
  cases he
  obtain ⟨g1, g2⟩ := mcells_get ms (j / 2) (by omega)
  have e : (⟨b, off, none⟩ : Addr).add j = ⟨b, off + j, none⟩ := by simp [Addr.add]
  rw [e]
  rcases Nat.mod_two_eq_zero_or_one j with hm | hm
  · have ej : j = j / 2 * 2 := by omega
    rw [ej] at hj ⊢
    rw [g1] at hj
    cases hj
    exact h1
  · have ej : j = j / 2 * 2 + 1 := by omega
    rw [ej] at hj ⊢
    rw [g2] at hj
    cases hj
    exact h2
/-- what a call hands back that returns marks in memory of its own -/
def RowOut (ms : List (Int × Int)) (w : World) (e : Ending) (w' : World) : Prop := ∃ v, e = .returned v ∧ w'.ownsRow w.heap.size TM 2 v ms.length (mcells ms) ∧ Below w.heap.size w w'
theorem ctermV_no {p : Int} {c : Cl} (h : claimOk p c = false) : ctermV p c = [] := by unfold ctermV; rw [h]; rfl
theorem ctermV_yes {p : Int} {c : Cl} (h : claimOk p c = true) : ctermV p c = ctermL c := by unfold ctermV; rw [h]; rfl
theorem ctermL_cells (k : Int) (ms : List (Int × Int)) : (ctermL (k, ms)).length = 1 + ms.length + 1 ∧ mcells (ctermL (k, ms)) = mcells [(0, k)] ++ mcells ms ++ mcells [(5, 0)] := by
  unfold ctermL
  refine ⟨by simp; omega, ?_⟩
  rw [mcells_append]; rfl
/-! ### stories -/
theorem all_take_succ (p : Int) (qs : List QC) (j : Nat) (hj : j < qs.length) : ((qs.take (j + 1)).all fun q => claimOk p q.2) = (((qs.take j).all fun q => claimOk p q.2) && claimOk p (qs.getD j qc0).2) := by
  have e : qs.getD j qc0 = qs[j] := by simp [List.getD, hj]
  rw [List.take_succ_eq_append_getElem hj, List.all_append, e]
  simp
theorem storyOk_no {p : Int} {qs : List QC} {j : Nat} (hj : j < qs.length) (h : claimOk p (qs.getD j qc0).2 = false) : storyOk p (qs.map (·.2)) = false := by
  have e : qs.getD j qc0 = qs[j] := by simp [List.getD, hj]
  rw [e] at h
  cases hs : storyOk p (qs.map (·.2)) with
  | false => rfl
  | true =>
    have := (storyOk_iff.1 hs).1 qs[j].2 (List.mem_map.2 ⟨_, List.getElem_mem hj, rfl⟩)
    rw [h] at this; cases this
theorem storyOk_all {p : Int} {qs : List QC} (h : ((qs.take qs.length).all fun q => claimOk p q.2) = true) : storyOk p (qs.map (·.2)) = (pOk p && decide (qs.length ≤ 6)) := by
  rw [List.take_length] at h
  unfold storyOk
  rw [List.all_map, show (qs.all (claimOk p ∘ fun x => x.2)) = true from h, List.length_map]
  rfl
theorem story_take (p : Int) (qs : List QC) (j : Nat) (hj : j < qs.length) : storyN p ((qs.take (j + 1)).map (·.2)) = storyN p ((qs.take j).map (·.2)) &&& ctabN p (qs.getD j qc0).2 := by
  have e : qs.getD j qc0 = qs[j] := by simp [List.getD, hj]
  rw [List.take_succ_eq_append_getElem hj, List.map_append, e]
  exact storyN_snoc p _ _
set_option maxRecDepth 100000 in
set_option maxHeartbeats 2000000 in
theorem specStoryTab (p : Int) (qs : List QC) (hok : storyOk p (qs.map (·.2)) = true) (B : Nat) (v : Value) (w : World) (hr : RdStory w B v qs) (hB : B ≤ w.heap.size) :
    Calls Try.prog 59 #[.int .i64 p, v] w fun e w' => e = .returned (.int .i64 (storyN p (qs.map (·.2)))) ∧ Below w.heap.size w w' := by
  obtain ⟨hall, hp, _⟩ := storyOk_iff.1 hok
  have hp14 : 1 ≤ p ∧ p ≤ 4 := by simpa [pOk] using hp
  obtain ⟨h1, h4⟩ := hp14
  have Hall : Hid (∀ j, j < qs.length → claimOk p (qs.getD j qc0).2 = true) := fun j hj => by
    have e : qs.getD j qc0 = qs[j] := by simp [List.getD, hj]
    rw [e]; exact hall _ (List.mem_map.2 ⟨_, List.getElem_mem hj, rfl⟩)
  have Hlt : Hid (∀ s, storyN p s < 65536) := fun s => storyN_lt h1 h4
  have Hct : Hid (∀ c, ctabN p c < 65536) := fun s => ctabN_lt h1 h4
  have H0 := Lib.hid (storyN_nil p)
  have Hr := Lib.hid hr
  obtain ⟨ao, cap, rfl, hal, ham, _, hac0⟩ := hr
  have hac := Lib.hid hac0; clear hac0 hall hp hok
  unfold maxLen at ham
  obtain ⟨wo, rfl⟩ : ∃ wo : World, wo = w := ⟨_, rfl⟩
  obtain ⟨F, hF⟩ : ∃ F : Int, F = (storyN p [] : Int) := ⟨_, rfl⟩
  have HF := Lib.hid hF; clear hF
  have hFl : F = 3 ∨ F = 15 ∨ F = 255 ∨ F = 65535 := by
    have h0 := HF.out
    rw [H0.out] at h0
    rcases p_cases h1 h4 with rfl | rfl | rfl | rfl <;> (simp at h0; omega)
  have Hcl0 := Lib.hid (fun k ms (h : claimOk p (k, ms) = true) u w h1 h2 => specClaimTab h B u w h1 h2)
  have Hsucc0 := Lib.hid (fun j hj => story_take p qs j hj)
  generalize storyN p = SN at *
  generalize ctabN p = CT at *
  rcases p_cases h1 h4 with rfl | rfl | rfl | rfl
  all_goals
    clear h1 h4 hFl
    go_enter Try.func59, Try.ntmps59
    go_wp2
    go_loopw [5, 6] (fun t' i wr => ∃ j : Nat, j ≤ qs.length ∧ i = .int .i64 j ∧ t' = .int .i64 (SN ((qs.take j).map (·.2))) ∧ Below wo.heap.size wo wr) (fun _ i _ => qs.length - (intOf i).toNat)
    case atStart => exact ⟨0, Nat.zero_le _, rfl, by rw [List.take_zero, List.map_nil, H0.out]; rfl, Below.refl _ _⟩
    case round =>
      obtain ⟨j, hj, rfl, rfl, hbr⟩ := hrel
      by_cases hlt : j < qs.length
      · obtain ⟨b, off, rfl, hb, hc1, hc2⟩ := hac.out j hlt
        rw [← hbr.cell (p := ⟨b, _, none⟩) (show b < _ by omega)] at hc1 hc2
        have hBr : B ≤ wr.heap.size := by have := hbr.size; omega
        have Hm := Lib.hid ((Hr.out.get hlt).1.below (w' := wr) (fun q hq => hbr.block q (by omega)))
        have Hsucc := Lib.hid (Hsucc0.out j hlt)
        have hok := Hall.out j hlt
        generalize qs.getD j qc0 = q at *
        obtain ⟨u, k, ms⟩ := q
        have Hcl := Lib.hid (fun w h hB => Hcl0.out k ms hok u w h hB)
        have Hbr := Lib.hid hbr
        clear hbr hok
        dsimp only at hc1 hc2
        have Hm' : Hid (RdMarks wr B u ms) := Hm.out
        have Hsucc' : Hid (SN ((qs.take (j + 1)).map (·.2)) = SN ((qs.take j).map (·.2)) &&& CT (k, ms)) := Hsucc.out
        have hand := bits_and_nat (SN ((qs.take j).map (·.2))) (CT (k, ms)) (by have := Hlt.out ((qs.take j).map (·.2)); omega) (by have := Hct.out (k, ms); omega)
        clear Hm Hsucc
        generalize SN ((qs.take j).map (·.2)) = T at *
        generalize CT (k, ms) = U at *
        go_wp2_with fail
        refine (Hcl.out _ Hm'.out hBr).mono ?_
        rintro e w2 ⟨rfl, hb2⟩
        have Hb2 := Lib.hid (Hbr.out.trans (hb2.mono Hbr.out.size)); clear hb2
        go_wp2
        go_roundw
        case rel => exact ⟨j + 1, by omega, by go_num, by rw [Hsucc'.out], Hb2.out⟩
        case measure => simp [intOf]; omega
      · obtain rfl : j = qs.length := by omega
        have Hbr := Lib.hid hbr; clear hbr
        go_wp2
        go_ret
        exact ⟨by rw [List.take_length]; rfl, Hbr.out⟩
end Go.Proofs.Ythiabicleedleaa
/- Contract of the reference's AlwaysOk. -/
namespace Go.Proofs.Ythiabicleedleaa
open Go.RowKit
attribute [local irreducible] holds tabN tabV holdsV sameV followsV alwaysV matterV
end Go.Proofs.Ythiabicleedleaa
