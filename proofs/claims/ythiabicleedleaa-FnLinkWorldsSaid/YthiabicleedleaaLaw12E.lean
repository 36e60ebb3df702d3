/- A law of stage 12: each group has two worlds, or none. It answers true, whatever the code. No condition. -/
import Derived.Test.YthiabicleedleaaMerged19
import Derived.Test.YthiabicleedleaaMerged20
import Derived.Test.YthiabicleedleaaClaimI
import Derived.Test.YthiabicleedleaaMerged14
import Derived.Test.YthiabicleedleaaOneI
import Derived.Test.YthiabicleedleaaMerged4
import Derived.Test.YthiabicleedleaaMerged6
import Derived.Test.YthiabicleedleaaMerged18
import Derived.Deep.RegionHeld3
import Derived.Deep.Cut
namespace Go.Proofs.Ythiabicleedleaa
open Go.RowKit Go.Joins
theorem tableOnE (p : Int) (us : List QC) (s : List Cl) (he : us.map (·.2) = s) (B : Nat) (v : Value) (w : World) (hr : RdStory w B v us) (hB : B ≤ w.heap.size) :
    Calls Try.prog 18 #[.int .i64 p, v] w fun e w' => e = .returned (.int .i64 (storyV p s)) ∧ Below w.heap.size w w' := by
  rw [← he]; exact implStoryTable p us B v w hr hB
theorem link_lenE {p : Int} {ls : List Lk} {us : List QC} (h : linksOk p ls = true) (he : us.map (·.2) = linkS p ls) : us.length = ls.length := by
  have := congrArg List.length he
  rw [linkS_yes h] at this
  simpa using this
theorem link_noneE {p : Int} {ls : List Lk} {us : List QC} (h : linksOk p ls = false) (he : us.map (·.2) = linkS p ls) : us.length = 0 := by
  have := congrArg List.length he
  rw [linkS_no h] at this
  simpa using this
theorem link_tabE {p : Int} {ls : List Lk} (h : linksOk p ls = true) : ∃ T : Nat, storyV p (linkS p ls) = (T : Int) ∧ T = storyN p (linkS p ls) ∧ tOk p (T : Int) = true := by
  refine ⟨_, storyV_yes (linkS_ok h), rfl, ?_⟩
  obtain ⟨_, h1, h4, _⟩ := linksOk_iff.1 h
  refine tOk_iff.2 ⟨h1, h4, by omega, ?_⟩
  have : storyN p (linkS p ls) < 2 ^ 2 ^ p.toNat := tabF_lt _ _
  exact_mod_cast this
/-- how many groups there are of the first people -/
def gK (r : List Nat) (k : Nat) : Nat := (List.range k).countP fun j => decide (r.getD j 0 = j)
theorem gK_succ (r : List Nat) (k : Nat) : gK r (k + 1) = gK r k + if r.getD k 0 = k then 1 else 0 := by
  unfold gK
  rw [List.range_succ, List.countP_append]
  simp
theorem gK_le (r : List Nat) (k : Nat) : gK r k ≤ k := by
  unfold gK
  have := List.countP_le_length (p := fun j => decide (r.getD j 0 = j)) (l := List.range k)
  simpa using this
theorem lw_yes {p : Int} {ls : List Lk} (h : linksOk p ls = true) : lwV p ls = (satN p.toNat ls : Int) := by
  unfold lwV; rw [h, link_heads h]; rfl
theorem lw_facts {P : Nat} {ls : List Lk} (h : linksOk (P : Int) ls = true) : 1 ≤ P ∧ P ≤ 4 ∧ (grpF P ls).length = P ∧ grpL (P : Int) ls = grpF P ls ∧ 1 ≤ gK (grpF P ls) P ∧ (satN P ls = 0 ∨ satN P ls = 2 ^ gK (grpF P ls) P) ∧ (wlp (P : Int) (storyV (P : Int) (linkS (P : Int) ls))).length = satN P ls ∧ satN P ls ≤ 16 := by
  obtain ⟨_, h1, h4, _⟩ := linksOk_iff.1 h
  have hin := inL_of h
  rw [Int.toNat_natCast] at hin
  obtain ⟨a, b, _⟩ := grp_inv hin
  have hg : gK (grpF P ls) P = groupsN (grpF P ls) := by unfold gK groupsN; rw [a]
  refine ⟨by omega, by omega, a, by unfold grpL; rw [h]; rfl, by rw [hg]; exact groups_pos b (by omega), by rw [hg]; exact sat_count (by omega) (by omega) hin, ?_⟩
  have := link_worlds h
  rw [Int.toNat_natCast] at this
  exact ⟨this, by rw [← this]; exact swl_len _ _⟩
end Go.Proofs.Ythiabicleedleaa
namespace Go.Proofs.Ythiabicleedleaa.fnLinkWorlds
open Go.ChangeShapes Go.WideShapes Go.ChangeAt Go.RowKit Go.Joins
attribute [local irreducible] holds tabN tabV holdsV sameV followsV alwaysV matterV mirV mirOk mcells tmOf claimOk mayT mayV ctabV ctabN storyV storyOk storyN storyT ctermV ctermL denyV denyOk ccells onlyOk onlyN swl linksOk linkS linkC grpF grpL lwV lcells opt
open Go.ChangeMaps (open_string shut_string)
set_option linter.unusedVariables false
set_option maxRecDepth 100000 in
set_option maxHeartbeats 8000000 in
theorem walk (a0 : Value) (n0 : Nat) (w : World) (w0 : RdBytes w w.heap.size a0 n0) :
    Calls Try.prog 7 #[a0] w fun e w' => e = .returned (.bool true) ∧ Below w.heap.size w w' := by
  have hr := w0
  by_cases hbig : n0 ≤ 1048576
  case neg =>
    obtain ⟨ao, cap, rfl, hl, hm, hc⟩ := w0
    have hbig' := code_big hbig
    unfold maxLen at hm
    clear hc hr hbig
    go_enter Try.func7, Try.ntmps7
    go_wp2
    go_ret
    exact ⟨rfl, Below.refl _ _⟩
  have hbig' : (n0 : Int) ≤ 1048576 := by omega
  clear hbig
  obtain ⟨ao, cap, rfl, hl, hm, hc⟩ := w0
  have Hr := Lib.hid hr
  clear hc hr hl hm
  go_enter Try.func7, Try.ntmps7
  go_wp2_with fail
  refine (drawLinkWorlds _ _ _ Hr.out).mono ?_
  rintro e w1 ⟨p, v, ls, hp0, hp8, rfl, hown, hls, hl8, hB1⟩
  have HL1 := Lib.hid (RdLinks.of_own hown hls.i64)
  obtain ⟨lo, lc, hvf⟩ := own_len hown
  subst hvf
  have hlc : ls.length ≤ lc := by
    obtain ⟨_, _, h, h1, _⟩ := HL1.out
    injection h with _ _ h3
    omega
  clear hown
  have hlw := fun B u W h h2 => implLinkWorlds p ls B u W h h2
  have hsw := fun B u W h h2 => specLinkWorlds p ls B u W h h2
  have hlo := fun B u W h h2 => implLinksOk p ls B u W h h2
  cases hok : linksOk p ls with
  | false =>
    have hv : lwV p ls = -1 := by unfold lwV; rw [hok]; rfl
    rw [hv] at hlw hsw
    rw [hok] at hlo
    have Hlw := Lib.hid hlw
    have Hsw := Lib.hid hsw
    have Hlo := Lib.hid hlo
    clear hlw hsw hlo hok hls hv
    go_wp2_with fail
    refine (Hlw.out _ _ _ HL1.out (Nat.le_refl _)).mono ?_
    rintro e w2 ⟨rfl, hb2⟩
    have HL2 := Lib.hid ((HL1.out.below (w' := w2) hb2.block).mono hb2.size)
    have hB2 : Below w.heap.size w w2 := hB1.trans (hb2.mono hB1.size)
    clear hb2
    go_wp2_with fail
    refine (Hsw.out _ _ _ HL2.out (Nat.le_refl _)).mono ?_
    rintro e w3 ⟨rfl, hb3⟩
    have HL3 := Lib.hid ((HL2.out.below (w' := w3) hb3.block).mono hb3.size)
    have hB3 : Below w.heap.size w w3 := hB2.trans (hb3.mono hB2.size)
    clear hb3
    go_wp2_with fail
    refine (Hlo.out _ _ _ HL3.out (Nat.le_refl _)).mono ?_
    rintro e w4 ⟨rfl, hb4⟩
    have hB4 : Below w.heap.size w w4 := hB3.trans (hb4.mono hB3.size)
    clear hb4
    go_wp2_with fail
    refine (alive _).mono ?_
    rintro e w' ⟨rfl, rfl⟩
    go_wp2
    go_ret
    exact ⟨rfl, hB4⟩
  | true =>
  obtain ⟨P, rfl⟩ := Int.eq_ofNat_of_zero_le hp0
  obtain ⟨hP1, hP4, hlen, hgl, hg1, hsat, hwl, hn16⟩ := lw_facts hok
  have hv := lw_yes hok
  rw [Int.toNat_natCast] at hv
  rw [hv] at hlw hsw
  have hgr := fun B u W h h2 => implLinkGroups (P : Int) ls B u W h h2
  rw [hgl, hlen] at hgr
  have hst := fun B u W h h2 => implLinkStory (P : Int) ls B u W h h2
  unfold StoryOut at hst
  rw [hok] at hst
  have hgle := gK_le (grpF P ls) P
  have Hgs := Lib.hid (gK_succ (grpF P ls))
  have Hgk := Lib.hid (gK_le (grpF P ls))
  have Hat := Lib.hid (fun k hk => vals_at (grpF P ls) k hk)
  rw [hlen] at Hat
  have hg0 : gK (grpF P ls) 0 = 0 := rfl
  have Hwl : Hid ((wlp (P : Int) (storyV (P : Int) (linkS (P : Int) ls))).length = satN P ls) := hwl
  generalize linkS (P : Int) ls = S at *
  obtain ⟨T, hT⟩ : ∃ T, T = storyV (P : Int) S := ⟨_, rfl⟩
  rw [← hT] at Hwl
  have HT := Lib.hid hT
  clear hT
  generalize grpF P ls = r at *
  generalize satN P ls = n at *
  have Hlw := Lib.hid hlw
  have Hsw := Lib.hid hsw
  have Hgr := Lib.hid hgr
  have Hst := Lib.hid hst
  have Hsat := Lib.hid hsat
  have Hg0 := Lib.hid hg0
  have hn0 : ¬ (n : Int) < 0 := by omega
  clear hlw hsw hlo hok hls hv hgr hst hsat hwl hgl hg0 hlen
  go_wp2_with fail
  refine (Hlw.out _ _ _ HL1.out (Nat.le_refl _)).mono ?_
  rintro e w2 ⟨rfl, hb2⟩
  have HL2 := Lib.hid ((HL1.out.below (w' := w2) hb2.block).mono hb2.size)
  have hB2 : Below w.heap.size w w2 := hB1.trans (hb2.mono hB1.size)
  clear hb2
  go_wp2_with fail
  refine (Hsw.out _ _ _ HL2.out (Nat.le_refl _)).mono ?_
  rintro e w3 ⟨rfl, hb3⟩
  have HL3 := Lib.hid ((HL2.out.below (w' := w3) hb3.block).mono hb3.size)
  have hB3 : Below w.heap.size w w3 := hB2.trans (hb3.mono hB2.size)
  clear hb3
  go_wp2_with fail
  refine (Hgr.out _ _ _ HL3.out (Nat.le_refl _)).mono ?_
  rintro e w4 ⟨u, rfl, hown, hb4⟩
  obtain ⟨gb, gc, hu⟩ := ownsRow_form hown (by omega)
  subst hu
  have HL4 := Lib.hid ((HL3.out.below (w' := w4) hb4.block).mono hb4.size)
  have hB4 : Below w.heap.size w w4 := hB3.trans (hb4.mono hB3.size)
  have Hc : Hid (∀ k, k < P → w4.cell? ⟨gb, k, none⟩ = some (.int .i64 (r.getD k 0 : Int))) := fun k hk => by
    rw [hown.cellAt k (by omega)]
    exact Hat.out k hk
  have hcp := own_cap hown
  unfold maxLen at hcp
  clear hown hb4 hB1 hB2 hB3
  go_wp2
  go_loop [7, 8] (fun c i => ∃ k : Nat, k ≤ P ∧ i = .int .i64 k ∧ c = .int .i64 (gK r k)) (fun _ i => P - (intOf i).toNat)
  case atStart => exact ⟨0, Nat.zero_le _, rfl, by rw [Hg0.out]; rfl⟩
  case round =>
    obtain ⟨k, hk, rfl, rfl⟩ := hrel
    by_cases hlt : k < P
    · have hc := Hc.out k hlt
      have hs := Hgs.out k
      have hle := Hgk.out k
      generalize gK r k = G at *
      by_cases hrk : r.getD k 0 = k
      · rw [if_pos hrk] at hs
        rw [hrk] at hc
        have Hs := Lib.hid hs
        clear hs hrk
        go_wp2
        go_round
        case rel => exact ⟨k + 1, by omega, by go_num, by rw [Hs.out]; go_num⟩
        case measure => simp [intOf]; omega
      · rw [if_neg hrk] at hs
        have Hs := Lib.hid hs
        have hne : (((r.getD k 0 : Nat) : Int) == (k : Int)) = false := by rw [beq_eq_false_iff_ne]; omega
        clear hs hrk
        generalize r.getD k 0 = z at *
        go_wp2
        go_round
        case rel => exact ⟨k + 1, by omega, by go_num, by rw [Hs.out, Nat.add_zero]⟩
        case measure => simp [intOf]; omega
    · obtain rfl : k = P := by omega
      go_wp2_with fail
      refine (Hst.out _ _ _ HL4.out (Nat.le_refl _)).mono ?_
      rintro e w5 ⟨v5, us5, rfl, hus5, hst5, _, hb5⟩
      have hB5 : Below w.heap.size w w5 := hB4.trans (hb5.mono hB4.size)
      have HS55 := Lib.hid hst5.rd
      have Hus5 := Lib.hid hus5
      obtain ⟨fo5, fc5, hf5⟩ := own_len hst5.1
      subst hf5
      clear hb5 hst5 hus5
      have Htab := Lib.hid (fun B u W h h2 => tableOnE (k : Int) us5 _ Hus5.out B u W h h2)
      rw [← HT.out] at Htab
      have hsat := Hsat.out
      clear Hsat Hlw Hsw Hgr Hst Hus5 HL1 HL2 HL3 Hc
      obtain ⟨G, hG⟩ : ∃ G, G = gK r k := ⟨_, rfl⟩
      rw [← hG] at hsat hg1 hgle ⊢
      have hG4 : G = 1 ∨ G = 2 ∨ G = 3 ∨ G = 4 := by omega
      clear hG
      rcases hsat with rfl | hn
      · have hGi : (1 : Int) ≤ (G : Int) := by omega
        have hGn : ¬ (G : Int) < 1 := by omega
        clear hG4
        go_wp2_with fail
        refine (Htab.out _ _ _ HS55.out (Nat.le_refl _)).mono ?_
        rintro e w6 ⟨rfl, hb6⟩
        have hB6 : Below w.heap.size w w6 := hB5.trans (hb6.mono hB5.size)
        clear hb6
        go_wp2_with fail
        refine (implWorldsIn (k : Int) T _).mono ?_
        rintro e w7 ⟨v7, rfl, hown7, hb7⟩
        have hB7 : Below w.heap.size w w7 := hB6.trans (hb7.mono hB6.size)
        rw [Hwl.out] at hown7
        obtain ⟨a7, c7, hf7⟩ := own_len hown7
        subst hf7
        clear hb7 hown7
        go_wp2
        go_ret
        exact ⟨rfl, hB7⟩
      · rcases hG4 with rfl | rfl | rfl | rfl
        all_goals
          simp at hn
          subst hn
          go_wp2_with fail
          refine (Htab.out _ _ _ HS55.out (Nat.le_refl _)).mono ?_
          rintro e w6 ⟨rfl, hb6⟩
          have hB6 : Below w.heap.size w w6 := hB5.trans (hb6.mono hB5.size)
          clear hb6
          go_wp2_with fail
          refine (implWorldsIn (k : Int) T _).mono ?_
          rintro e w7 ⟨v7, rfl, hown7, hb7⟩
          have hB7 : Below w.heap.size w w7 := hB6.trans (hb7.mono hB6.size)
          rw [Hwl.out] at hown7
          obtain ⟨a7, c7, hf7⟩ := own_len hown7
          subst hf7
          clear hb7 hown7
          go_wp2
          go_ret
          exact ⟨rfl, hB7⟩

set_option maxRecDepth 100000 in
theorem lifted (os : Os) (started : os.Started) (H : Type) (enc : TypeId × Value → H) :
    ReturnsInHanded {} Try.checked os 7 .any (Rows.fnLinkWorldsSpec.pre6 enc Try.prog Try.f7 Rows.fnLinkWorldsRow.domain false) (Rows.fnLinkWorldsSpec.post enc Try.prog Try.f7 false true false false) := by
  refine returnsInHanded_of_change (C := Try.checked) Try.own started (by kernel_rfl) Try.func7
    (ChangeSpec.witness6 (enc := enc) (C := Try.checked) false ⟨#[], #[.slice none 0 0], []⟩ 8 (by kernel_rfl) (by kernel_rfl) (by kernel_rfl) (by kernel_rfl)) ?_
  intro W base args ds gs before hval0 hW hcnd _
  have hval : ∀ (j : Nat) t v, Try.f7.params[j]? = some t → args[j]? = some v → Value.okWide Try.prog W .any base t v := hval0
  have hW' := hW
  obtain ⟨p, q, hA0, hV, rfl, hfz, hnd⟩ := hW
  have hA : DataW.TrodAll enc Try.prog W 0 (fun _ => true) true Try.f7.params.toList args.toList ds p := hA0
  rw [Try.params7] at hA hval
  obtain ⟨v0, vs0, d0, ds0, p0, q0, hargs, rfl, rfl, h0, r0⟩ := trodAll_cons hA
  obtain ⟨rfl, rfl, rfl⟩ := trodAll_nil r0
  obtain rfl : args = #[v0] := by cases args; simp_all
  obtain ⟨rfl, rfl⟩ := trodVars_none hV
  obtain ⟨a0, len0, cap0, rfl⟩ := okWide_slice Try.underlying22 (hval 0 22 v0 rfl rfl)
  have k0 := h0
  have lt0 : ∀ x ∈ p0, x.block < W.heap.size := by obtain ⟨m, hm⟩ := k0; exact DataW.trod_lt m _ _ _ hm
  obtain ⟨z0, w0⟩ : ∃ zs, IsRow .u8 W a0 len0 cap0 zs := by
    obtain ⟨fuel, hf⟩ := h0
    rcases open_ints Try.underlying22 Try.underlying5 (by kernel_rfl) hf with ⟨hcs, _⟩ | ⟨x, l, c, zs, hcs, _, hl, hm, hz, _, hcell, hwz⟩
    · simp [Value.cells] at hcs
      obtain ⟨rfl, rfl, rfl⟩ := hcs
      exact ⟨[], .inl ⟨rfl, rfl, rfl, rfl⟩⟩
    · simp [Value.cells] at hcs
      obtain ⟨rfl, rfl, rfl⟩ := hcs
      exact ⟨zs, .inr ⟨_, rfl, hl, hm, by simpa using hz, hcell, hwz⟩⟩
  clear hA0 hval0
  refine (walk _ _ W (RdBytes.of_row w0)).mono fun e W' ⟨he, bel⟩ => ?_
  subst he
  exact ⟨_, rfl, _, _, _, [], _, [], hW', trodAll_mk1 (shut_bool Try.underlying4 _), (trodAll_cons_mk (Below.trod Try.laidOut (by kernel_rfl) (of_decide_eq_true (by kernel_rfl)) k0 bel lt0) trodAll_mk0), rfl, bel.frame _, fun h => by cases h⟩

theorem closed : joinedFacts Try.pinned.checked.prog 7 Try.f7 Rows.fnLinkWorldsSpec Rows.fnLinkWorldsRow = true := by
  unfold joinedFacts
  exact (and_tt (and_tt (and_tt (and_tt (and_tt (and_tt (and_tt (and_tt (and_tt (and_tt (and_tt (and_tt (and_tt (and_tt (and_tt (and_tt (and_tt (and_tt (and_tt (and_tt (and_tt (and_tt (and_tt (and_tt (and_tt (and_tt (and_tt (and_tt (and_tt (and_tt (and_tt (by kernel_rfl) (by kernel_rfl)) (by kernel_rfl)) (by kernel_rfl)) (by kernel_rfl)) (by kernel_rfl)) (by kernel_rfl)) (by kernel_rfl)) (by kernel_rfl)) (by kernel_rfl)) (by kernel_rfl)) (by kernel_rfl)) (by kernel_rfl)) (by kernel_rfl)) (by kernel_rfl)) (by kernel_rfl)) (by kernel_rfl)) (by kernel_rfl)) (by kernel_rfl)) (by kernel_rfl)) (by kernel_rfl)) (by kernel_rfl)) (by kernel_rfl)) (by kernel_rfl)) (by kernel_rfl)) Try.mayEnter0) (lifted_tt Try.lifts0 rfl)) (make_tt Try.make0 rfl)) (by kernel_rfl)) (by kernel_rfl)) (by kernel_rfl)) (by kernel_rfl))
theorem over : Rows.fnLinkWorldsRow.holds Try.pinned (OpenSpec.ofChange Rows.fnLinkWorldsSpec) :=
  OpenClaim.holds_of_wide 7 Try.f7 rfl rfl rfl rfl rfl rfl rfl ⟨rfl, rfl, rfl, rfl, rfl⟩ rfl rfl rfl rfl rfl (by kernel_rfl) Try.func7 closed
    (of_decide_eq_true (by kernel_rfl)) (by unfold Func.isWrapper; first | (rw [if_pos (by decide +kernel)]; kernel_rfl) | (rw [if_neg (by decide +kernel)]; exact ⟨rfl, rfl⟩))
    (fun os started H enc _ => lifted os started H enc)

theorem proved : Rows.FnLinkWorldsSaid := over
end Go.Proofs.Ythiabicleedleaa.fnLinkWorlds

