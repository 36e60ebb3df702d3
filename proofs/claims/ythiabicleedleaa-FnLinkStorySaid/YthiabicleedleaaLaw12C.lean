/- A law of stage 12: from links alone no story has one answer. It answers true, whatever the code. No condition. -/
import Derived.Test.YthiabicleedleaaMerged19
import Derived.Test.YthiabicleedleaaMerged20
import Derived.Test.YthiabicleedleaaClaimI
import Derived.Test.YthiabicleedleaaMerged14
import Derived.Test.YthiabicleedleaaOneI
import Derived.Test.YthiabicleedleaaMerged4
import Derived.Test.YthiabicleedleaaMerged6
import Derived.Test.YthiabicleedleaaMerged18
import Derived.Deep.RegionHeld3
import Derived.Deep.Cut
namespace Go.Proofs.Ythiabicleedleaa
open Go.RowKit Go.Joins
theorem tableOnC (p : Int) (us : List QC) (s : List Cl) (he : us.map (·.2) = s) (B : Nat) (v : Value) (w : World) (hr : RdStory w B v us) (hB : B ≤ w.heap.size) :
    Calls Try.prog 18 #[.int .i64 p, v] w fun e w' => e = .returned (.int .i64 (storyV p s)) ∧ Below w.heap.size w w' := by
  rw [← he]; exact implStoryTable p us B v w hr hB
theorem link_lenC {p : Int} {ls : List Lk} {us : List QC} (h : linksOk p ls = true) (he : us.map (·.2) = linkS p ls) : us.length = ls.length := by
  have := congrArg List.length he
  rw [linkS_yes h] at this
  simpa using this
theorem link_noneC {p : Int} {ls : List Lk} {us : List QC} (h : linksOk p ls = false) (he : us.map (·.2) = linkS p ls) : us.length = 0 := by
  have := congrArg List.length he
  rw [linkS_no h] at this
  simpa using this
theorem link_tabC {p : Int} {ls : List Lk} (h : linksOk p ls = true) : ∃ T : Nat, storyV p (linkS p ls) = (T : Int) ∧ T = storyN p (linkS p ls) ∧ tOk p (T : Int) = true := by
  refine ⟨_, storyV_yes (linkS_ok h), rfl, ?_⟩
  obtain ⟨_, h1, h4, _⟩ := linksOk_iff.1 h
  refine tOk_iff.2 ⟨h1, h4, by omega, ?_⟩
  have : storyN p (linkS p ls) < 2 ^ 2 ^ p.toNat := tabF_lt _ _
  exact_mod_cast this
theorem onlyOnC (p : Int) (us : List QC) (s : List Cl) (he : us.map (·.2) = s) (B : Nat) (v : Value) (w : World) (hr : RdStory w B v us) (hB : B ≤ w.heap.size) :
    Calls Try.prog 25 #[.int .i64 p, v] w fun e w' => e = .returned (.tuple #[.int .i64 (onlyN p s), .bool (onlyOk p s)]) ∧ Below w.heap.size w w' := by
  rw [← he]; exact implOnlyWorld p us B v w hr hB
theorem storyOnC (p : Int) (us : List QC) (s : List Cl) (he : us.map (·.2) = s) (B : Nat) (v : Value) (w : World) (hr : RdStory w B v us) (hB : B ≤ w.heap.size) :
    Calls Try.prog 15 #[.int .i64 p, v] w fun e w' => e = .returned (.bool (storyOk p s)) ∧ Below w.heap.size w w' := by
  rw [← he]; exact implStoryOk p us B v w hr hB
theorem satL_turn {P W : Nat} {l : Lk} (h1 : l.1.toNat < P) (h2 : l.2.1.toNat < P) (hW : W < 2 ^ P) : satL l (2 ^ P - 1 - W) = satL l W := by
  have hb : ∀ k, k < P → (2 ^ P - 1 - W).testBit k = !W.testBit k := fun k hk => by
    rw [show 2 ^ P - 1 - W = 2 ^ P - (W + 1) by omega, Nat.testBit_two_pow_sub_succ hW]
    simp [hk]
  unfold satL
  rw [hb _ h1, hb _ h2]
  cases W.testBit l.1.toNat <;> cases W.testBit l.2.1.toNat <;> cases l.2.2 <;> rfl
theorem link_turn {p : Int} {ls : List Lk} (h : linksOk p ls = true) : opt p (storyV p (linkS p ls)) = storyV p (linkS p ls) := by
  obtain ⟨T, e, eT, ht⟩ := link_tabC h
  rw [e, opt_yes ht, eT]
  unfold storyN
  congr 1
  refine (tabF_turned (2 ^ p.toNat) (storyT p (linkS p ls)) (storyT p (linkS p ls)) fun W hW => ?_).symm
  rw [linkS_T h, linkS_T h]
  rw [Bool.eq_iff_iff, List.all_eq_true, List.all_eq_true]
  have hin := inL_of h
  constructor
  · intro hh l hl; have := hh l hl; rwa [satL_turn (hin l hl).1 (hin l hl).2 hW] at this
  · intro hh l hl; rw [satL_turn (hin l hl).1 (hin l hl).2 hW]; exact hh l hl
end Go.Proofs.Ythiabicleedleaa
namespace Go.Proofs.Ythiabicleedleaa.fnLinkStory
open Go.ChangeShapes Go.WideShapes Go.ChangeAt Go.RowKit Go.Joins
attribute [local irreducible] holds tabN tabV holdsV sameV followsV alwaysV matterV mirV mirOk mcells tmOf claimOk mayT mayV ctabV ctabN storyV storyOk storyN storyT ctermV ctermL denyV denyOk ccells onlyOk onlyN swl linksOk linkS linkC grpF grpL lwV lcells opt
open Go.ChangeMaps (open_string shut_string)
set_option linter.unusedVariables false
set_option maxRecDepth 100000 in
set_option maxHeartbeats 8000000 in
theorem walk (a0 : Value) (n0 : Nat) (w : World) (w0 : RdBytes w w.heap.size a0 n0) :
    Calls Try.prog 5 #[a0] w fun e w' => e = .returned (.bool true) ∧ Below w.heap.size w w' := by
  have hr := w0
  by_cases hbig : n0 ≤ 1048576
  case neg =>
    obtain ⟨ao, cap, rfl, hl, hm, hc⟩ := w0
    have hbig' := code_big hbig
    unfold maxLen at hm
    clear hc hr hbig
    go_enter Try.func5, Try.ntmps5
    go_wp2
    go_ret
    exact ⟨rfl, Below.refl _ _⟩
  have hbig' : (n0 : Int) ≤ 1048576 := by omega
  clear hbig
  obtain ⟨ao, cap, rfl, hl, hm, hc⟩ := w0
  have Hr := Lib.hid hr
  clear hc hr hl hm
  go_enter Try.func5, Try.ntmps5
  go_wp2_with fail
  refine (drawLinkStory _ _ _ Hr.out).mono ?_
  rintro e w1 ⟨p, v, ls, hp0, hp8, rfl, hown, hls, hl8, hB1⟩
  have HL1 := Lib.hid (RdLinks.of_own hown hls.i64)
  obtain ⟨lo, lc, hvf⟩ := own_len hown
  subst hvf
  have hlc : ls.length ≤ lc := by
    obtain ⟨_, _, h, h1, _⟩ := HL1.out
    injection h with _ _ h3
    omega
  clear hown
  have hli := fun B u W h h2 => implLinkStory p ls B u W h h2
  have hls2 := fun B u W h h2 => specLinkStory p ls B u W h h2
  have hlo := fun B u W h h2 => implLinksOk p ls B u W h h2
  unfold StoryOut at hli hls2
  cases hok : linksOk p ls with
  | false =>
    have hno := fun us h => link_noneC (p := p) (ls := ls) (us := us) hok h
    rw [hok] at hli hls2 hlo
    generalize linkS p ls = S at *
    have Hli := Lib.hid hli
    have Hls := Lib.hid hls2
    have Hlo := Lib.hid hlo
    clear hli hls2 hlo hok hls
    go_wp2_with fail
    refine (Hli.out _ _ _ HL1.out (Nat.le_refl _)).mono ?_
    rintro e w2 ⟨v2, us2, rfl, hus2, hst2, _, hb2⟩
    have HL2 := Lib.hid ((HL1.out.below (w' := w2) hb2.block).mono hb2.size)
    have hB2 : Below w.heap.size w w2 := hB1.trans (hb2.mono hB1.size)
    have HS22 := Lib.hid hst2.rd
    have Hus2 := Lib.hid hus2
    obtain ⟨fo2, fc2, hf2⟩ := own_len hst2.1
    subst hf2
    clear hb2 hst2 hus2
    go_wp2_with fail
    refine (Hls.out _ _ _ HL2.out (Nat.le_refl _)).mono ?_
    rintro e w3 ⟨v3, us3, rfl, hus3, hst3, _, hb3⟩
    have HL3 := Lib.hid ((HL2.out.below (w' := w3) hb3.block).mono hb3.size)
    have HS23 := Lib.hid ((HS22.out.below (w' := w3) hb3.block).mono hb3.size)
    have hB3 : Below w.heap.size w w3 := hB2.trans (hb3.mono hB2.size)
    have HS33 := Lib.hid hst3.rd
    have Hus3 := Lib.hid hus3
    obtain ⟨fo3, fc3, hf3⟩ := own_len hst3.1
    subst hf3
    clear hb3 hst3 hus3
    have hz := hno us2 Hus2.out
    have Hsame := Lib.hid (sameStory us2 us3 (Hus2.out.trans Hus3.out.symm) w3.heap.size w3.heap.size _ _ w3 HS23.out HS33.out (Nat.le_refl _) (Nat.le_refl _))
    generalize us2.length = n2 at *
    subst hz
    go_wp2_with fail
    refine (Hsame.out).mono ?_
    rintro e w4 ⟨rfl, hb4⟩
    have HL4 := Lib.hid ((HL3.out.below (w' := w4) hb4.block).mono hb4.size)
    have hB4 : Below w.heap.size w w4 := hB3.trans (hb4.mono hB3.size)
    clear hb4
    go_wp2_with fail
    refine (Hlo.out _ _ _ HL4.out (Nat.le_refl _)).mono ?_
    rintro e w5 ⟨rfl, hb5⟩
    have hB5 : Below w.heap.size w w5 := hB4.trans (hb5.mono hB4.size)
    clear hb5
    go_wp2_with fail
    refine (alive _).mono ?_
    rintro e w' ⟨rfl, rfl⟩
    go_wp2
    go_ret
    exact ⟨rfl, hB5⟩
  | true =>
  obtain ⟨T, hT, _, _⟩ := link_tabC hok
  have hturn := link_turn hok
  rw [hT] at hturn
  obtain ⟨t, hTt, ht0⟩ : ∃ t : Int, (T : Int) = t ∧ 0 ≤ t := ⟨_, rfl, by omega⟩
  rw [hTt] at hT hturn
  clear hTt
  have ht1 : ¬ t < 0 := by omega
  have honly := link_only hok
  have hsok := linkS_ok hok
  have hlen := fun us h => link_lenC (p := p) (ls := ls) (us := us) hok h
  rw [hok] at hli hls2
  have Hli := Lib.hid hli
  have Hls := Lib.hid hls2
  clear hli hls2 hlo hok hls
  go_wp2_with fail
  refine (Hli.out _ _ _ HL1.out (Nat.le_refl _)).mono ?_
  rintro e w2 ⟨v2, us2, rfl, hus2, hst2, _, hb2⟩
  have HL2 := Lib.hid ((HL1.out.below (w' := w2) hb2.block).mono hb2.size)
  have hB2 : Below w.heap.size w w2 := hB1.trans (hb2.mono hB1.size)
  have HS22 := Lib.hid hst2.rd
  have Hus2 := Lib.hid hus2
  obtain ⟨fo2, fc2, hf2⟩ := own_len hst2.1
  subst hf2
  clear hb2 hst2 hus2
  go_wp2_with fail
  refine (Hls.out _ _ _ HL2.out (Nat.le_refl _)).mono ?_
  rintro e w3 ⟨v3, us3, rfl, hus3, hst3, _, hb3⟩
  have HS23 := Lib.hid ((HS22.out.below (w' := w3) hb3.block).mono hb3.size)
  have hB3 : Below w.heap.size w w3 := hB2.trans (hb3.mono hB2.size)
  have HS33 := Lib.hid hst3.rd
  have Hus3 := Lib.hid hus3
  obtain ⟨fo3, fc3, hf3⟩ := own_len hst3.1
  subst hf3
  clear hb3 hst3 hus3
  have hz := hlen us2 Hus2.out
  have Hsame := Lib.hid (sameStory us2 us3 (Hus2.out.trans Hus3.out.symm) w3.heap.size w3.heap.size _ _ w3 HS23.out HS33.out (Nat.le_refl _) (Nat.le_refl _))
  have Htab := Lib.hid (fun B u W h h2 => tableOnC p us2 _ Hus2.out B u W h h2)
  have Honly := Lib.hid (fun B u W h h2 => onlyOnC p us2 _ Hus2.out B u W h h2)
  have Hsok := Lib.hid (fun B u W h h2 => storyOnC p us2 _ Hus2.out B u W h h2)
  rw [hT] at Htab
  rw [honly] at Honly
  rw [hsok] at Hsok
  have Hopt := Lib.hid (fun W => implOppositeTable p t W)
  rw [hturn] at Hopt
  clear Hus2 Hus3 hT hturn honly hsok hlen
  generalize us2.length = n2 at *
  subst hz
  generalize ls.length = n at *
  go_wp2_with fail
  refine (Hsame.out).mono ?_
  rintro e w4 ⟨rfl, hb4⟩
  have HS24 := Lib.hid ((HS23.out.below (w' := w4) hb4.block).mono hb4.size)
  have hB4 : Below w.heap.size w w4 := hB3.trans (hb4.mono hB3.size)
  clear hb4
  go_wp2_with fail
  refine (Htab.out _ _ _ HS24.out (Nat.le_refl _)).mono ?_
  rintro e w5 ⟨rfl, hb5⟩
  have HS25 := Lib.hid ((HS24.out.below (w' := w5) hb5.block).mono hb5.size)
  have hB5 : Below w.heap.size w w5 := hB4.trans (hb5.mono hB4.size)
  clear hb5
  go_wp2_with fail
  refine (Honly.out _ _ _ HS25.out (Nat.le_refl _)).mono ?_
  rintro e w6 ⟨rfl, hb6⟩
  have HS26 := Lib.hid ((HS25.out.below (w' := w6) hb6.block).mono hb6.size)
  have hB6 : Below w.heap.size w w6 := hB5.trans (hb6.mono hB5.size)
  clear hb6
  go_wp2_with fail
  refine (Hsok.out _ _ _ HS26.out (Nat.le_refl _)).mono ?_
  rintro e w7 ⟨rfl, hb7⟩
  have hB7 : Below w.heap.size w w7 := hB6.trans (hb7.mono hB6.size)
  clear hb7
  go_wp2_with fail
  refine (Hopt.out _).mono ?_
  rintro e w8 ⟨rfl, hb8⟩
  have hB8 : Below w.heap.size w w8 := hB7.trans (hb8.mono hB7.size)
  clear hb8
  clear Hli Hls Hsame Htab Honly Hsok Hopt HS22 HS23 HS24 HS25 HS26 HS33 HL1 HL2 hlc hp0 hp8 hl8
  clear hB1 hB2 hB3 hB4 hB5 hB6 hB7
  go_wp2
  go_ret
  exact ⟨rfl, hB8⟩

set_option maxRecDepth 100000 in
theorem lifted (os : Os) (started : os.Started) (H : Type) (enc : TypeId × Value → H) :
    ReturnsInHanded {} Try.checked os 5 .any (Rows.fnLinkStorySpec.pre6 enc Try.prog Try.f5 Rows.fnLinkStoryRow.domain false) (Rows.fnLinkStorySpec.post enc Try.prog Try.f5 false true false false) := by
  refine returnsInHanded_of_change (C := Try.checked) Try.own started (by kernel_rfl) Try.func5
    (ChangeSpec.witness6 (enc := enc) (C := Try.checked) false ⟨#[], #[.slice none 0 0], []⟩ 8 (by kernel_rfl) (by kernel_rfl) (by kernel_rfl) (by kernel_rfl)) ?_
  intro W base args ds gs before hval0 hW hcnd _
  have hval : ∀ (j : Nat) t v, Try.f5.params[j]? = some t → args[j]? = some v → Value.okWide Try.prog W .any base t v := hval0
  have hW' := hW
  obtain ⟨p, q, hA0, hV, rfl, hfz, hnd⟩ := hW
  have hA : DataW.TrodAll enc Try.prog W 0 (fun _ => true) true Try.f5.params.toList args.toList ds p := hA0
  rw [Try.params5] at hA hval
  obtain ⟨v0, vs0, d0, ds0, p0, q0, hargs, rfl, rfl, h0, r0⟩ := trodAll_cons hA
  obtain ⟨rfl, rfl, rfl⟩ := trodAll_nil r0
  obtain rfl : args = #[v0] := by cases args; simp_all
  obtain ⟨rfl, rfl⟩ := trodVars_none hV
  obtain ⟨a0, len0, cap0, rfl⟩ := okWide_slice Try.underlying22 (hval 0 22 v0 rfl rfl)
  have k0 := h0
  have lt0 : ∀ x ∈ p0, x.block < W.heap.size := by obtain ⟨m, hm⟩ := k0; exact DataW.trod_lt m _ _ _ hm
  obtain ⟨z0, w0⟩ : ∃ zs, IsRow .u8 W a0 len0 cap0 zs := by
    obtain ⟨fuel, hf⟩ := h0
    rcases open_ints Try.underlying22 Try.underlying5 (by kernel_rfl) hf with ⟨hcs, _⟩ | ⟨x, l, c, zs, hcs, _, hl, hm, hz, _, hcell, hwz⟩
    · simp [Value.cells] at hcs
      obtain ⟨rfl, rfl, rfl⟩ := hcs
      exact ⟨[], .inl ⟨rfl, rfl, rfl, rfl⟩⟩
    · simp [Value.cells] at hcs
      obtain ⟨rfl, rfl, rfl⟩ := hcs
      exact ⟨zs, .inr ⟨_, rfl, hl, hm, by simpa using hz, hcell, hwz⟩⟩
  clear hA0 hval0
  refine (walk _ _ W (RdBytes.of_row w0)).mono fun e W' ⟨he, bel⟩ => ?_
  subst he
  exact ⟨_, rfl, _, _, _, [], _, [], hW', trodAll_mk1 (shut_bool Try.underlying4 _), (trodAll_cons_mk (Below.trod Try.laidOut (by kernel_rfl) (of_decide_eq_true (by kernel_rfl)) k0 bel lt0) trodAll_mk0), rfl, bel.frame _, fun h => by cases h⟩

theorem closed : joinedFacts Try.pinned.checked.prog 5 Try.f5 Rows.fnLinkStorySpec Rows.fnLinkStoryRow = true := by
  unfold joinedFacts
  exact (and_tt (and_tt (and_tt (and_tt (and_tt (and_tt (and_tt (and_tt (and_tt (and_tt (and_tt (and_tt (and_tt (and_tt (and_tt (and_tt (and_tt (and_tt (and_tt (and_tt (and_tt (and_tt (and_tt (and_tt (and_tt (and_tt (and_tt (and_tt (and_tt (and_tt (and_tt (by kernel_rfl) (by kernel_rfl)) (by kernel_rfl)) (by kernel_rfl)) (by kernel_rfl)) (by kernel_rfl)) (by kernel_rfl)) (by kernel_rfl)) (by kernel_rfl)) (by kernel_rfl)) (by kernel_rfl)) (by kernel_rfl)) (by kernel_rfl)) (by kernel_rfl)) (by kernel_rfl)) (by kernel_rfl)) (by kernel_rfl)) (by kernel_rfl)) (by kernel_rfl)) (by kernel_rfl)) (by kernel_rfl)) (by kernel_rfl)) (by kernel_rfl)) (by kernel_rfl)) (by kernel_rfl)) Try.mayEnter0) (lifted_tt Try.lifts0 rfl)) (make_tt Try.make0 rfl)) (by kernel_rfl)) (by kernel_rfl)) (by kernel_rfl)) (by kernel_rfl))
theorem over : Rows.fnLinkStoryRow.holds Try.pinned (OpenSpec.ofChange Rows.fnLinkStorySpec) :=
  OpenClaim.holds_of_wide 5 Try.f5 rfl rfl rfl rfl rfl rfl rfl ⟨rfl, rfl, rfl, rfl, rfl⟩ rfl rfl rfl rfl rfl (by kernel_rfl) Try.func5 closed
    (of_decide_eq_true (by kernel_rfl)) (by unfold Func.isWrapper; first | (rw [if_pos (by decide +kernel)]; kernel_rfl) | (rw [if_neg (by decide +kernel)]; exact ⟨rfl, rfl⟩))
    (fun os started H enc _ => lifted os started H enc)

theorem proved : Rows.FnLinkStorySaid := over
end Go.Proofs.Ythiabicleedleaa.fnLinkStory

