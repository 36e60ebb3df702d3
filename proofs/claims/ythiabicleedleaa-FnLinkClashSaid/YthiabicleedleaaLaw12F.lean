/- A law of stage 12: links that close a round agree, or clash. It answers true, whatever the code. No condition. -/
import Derived.Test.YthiabicleedleaaMerged19
import Derived.Test.YthiabicleedleaaMerged20
import Derived.Test.YthiabicleedleaaClaimI
import Derived.Test.YthiabicleedleaaMerged14
import Derived.Test.YthiabicleedleaaOneI
import Derived.Test.YthiabicleedleaaMerged4
import Derived.Test.YthiabicleedleaaMerged6
import Derived.Test.YthiabicleedleaaMerged18
import Derived.Deep.RegionHeld3
import Derived.Deep.Cut
import Derived.Test.YthiabicleedleaaLinkA
namespace Go.Proofs.Ythiabicleedleaa
open Go.RowKit Go.Joins
theorem lw_yesF {P : Nat} {ls : List Lk} (h : linksOk (P : Int) ls = true) : lwV (P : Int) ls = (satN P ls : Int) := by
  unfold lwV; rw [h, link_heads h, Int.toNat_natCast]; rfl
theorem clash_facts {P : Nat} {ls : List Lk} (h : linksOk (P : Int) ls = true) (h6 : ls.length < 6) : 1 ≤ P ∧ P ≤ 4 ∧ (grpF P ls).length = P ∧ grpL (P : Int) ls = grpF P ls ∧ lwV (P : Int) (ls ++ [(0, (P : Int) - 1, true)]) = (satN P (ls ++ [(0, (P : Int) - 1, true)]) : Int) ∧
    ((grpF P ls).getD 0 0 = (grpF P ls).getD (P - 1) 0 → satN P (ls ++ [(0, (P : Int) - 1, true)]) = satN P ls ∨ satN P (ls ++ [(0, (P : Int) - 1, true)]) = 0) ∧
    ((grpF P ls).getD 0 0 ≠ (grpF P ls).getD (P - 1) 0 → 2 * satN P (ls ++ [(0, (P : Int) - 1, true)]) = satN P ls) ∧ satN P ls ≤ 16 := by
  obtain ⟨hm, h1, h4, _⟩ := linksOk_iff.1 h
  have hin := inL_of h
  rw [Int.toNat_natCast] at hin
  obtain ⟨a, b, _⟩ := grp_inv hin
  have hmore : linksOk (P : Int) (ls ++ [(0, (P : Int) - 1, true)]) = true := linksOk_iff.2 ⟨fun l hl => by
    rcases List.mem_append.1 hl with hl | hl
    · exact hm l hl
    · rw [List.mem_singleton] at hl; subst hl
      exact ⟨by show (0 : Int) ≤ 0; omega, by show (0 : Int) < P; omega, by show (0 : Int) ≤ (P : Int) - 1; omega, by show (P : Int) - 1 < P; omega⟩, h1, h4, by simp; omega⟩
  obtain ⟨k1, k2⟩ := sat_more (P := P) (ls := ls) (by omega) (by omega) hin
  exact ⟨by omega, by omega, a, by unfold grpL; rw [h]; rfl, lw_yesF hmore, k1, k2, by
    have h1 := List.countP_le_length (p := fun W => ls.all fun l => satL l W) (l := List.range (2 ^ P))
    rw [List.length_range] at h1
    have h2 : 2 ^ P ≤ 2 ^ 4 := Nat.pow_le_pow_right (by decide) (by omega)
    exact Nat.le_trans h1 h2⟩
end Go.Proofs.Ythiabicleedleaa
namespace Go.Proofs.Ythiabicleedleaa.fnLinkClash
open Go.ChangeShapes Go.WideShapes Go.ChangeAt Go.RowKit Go.Joins
attribute [local irreducible] holds tabN tabV holdsV sameV followsV alwaysV matterV mirV mirOk mcells tmOf claimOk mayT mayV ctabV ctabN storyV storyOk storyN storyT ctermV ctermL denyV denyOk ccells onlyOk onlyN swl linksOk linkS linkC grpF grpL lwV lcells opt
open Go.ChangeMaps (open_string shut_string)
set_option linter.unusedVariables false
set_option maxRecDepth 100000 in
set_option maxHeartbeats 8000000 in
theorem walk (a0 : Value) (n0 : Nat) (w : World) (w0 : RdBytes w w.heap.size a0 n0) :
    Calls Try.prog 8 #[a0] w fun e w' => e = .returned (.bool true) ∧ Below w.heap.size w w' := by
  have hr := w0
  by_cases hbig : n0 ≤ 1048576
  case neg =>
    obtain ⟨ao, cap, rfl, hl, hm, hc⟩ := w0
    have hbig' := code_big hbig
    unfold maxLen at hm
    clear hc hr hbig
    go_enter Try.func8, Try.ntmps8
    go_wp2
    go_ret
    exact ⟨rfl, Below.refl _ _⟩
  have hbig' : (n0 : Int) ≤ 1048576 := by omega
  clear hbig
  obtain ⟨ao, cap, rfl, hl, hm, hc⟩ := w0
  have Hr := Lib.hid hr
  clear hc hr hl hm
  go_enter Try.func8, Try.ntmps8
  go_wp2_with fail
  refine (drawLinkWorlds _ _ _ Hr.out).mono ?_
  rintro e w1 ⟨p, v, ls, hp0, hp8, rfl, hown, hls, hl8, hB1⟩
  have HL1 := Lib.hid (RdLinks.of_own hown hls.i64)
  obtain ⟨lo, lc, hvf⟩ := own_len hown
  subst hvf
  have hlc : ls.length ≤ lc := by
    obtain ⟨_, _, h, h1, _⟩ := HL1.out
    injection h with _ _ h3
    omega
  clear hown
  have hlw := fun B u W h h2 => implLinkWorlds p ls B u W h h2
  cases hok : linksOk p ls with
  | false =>
    have hv : lwV p ls = -1 := by unfold lwV; rw [hok]; rfl
    rw [hv] at hlw
    have Hlw := Lib.hid hlw
    clear hlw hok hls hv
    go_wp2_with fail
    refine (Hlw.out _ _ _ HL1.out (Nat.le_refl _)).mono ?_
    rintro e w2 ⟨rfl, hb2⟩
    have hB2 : Below w.heap.size w w2 := hB1.trans (hb2.mono hB1.size)
    clear hb2
    go_wp2_with fail
    refine (alive _).mono ?_
    rintro e w' ⟨rfl, rfl⟩
    go_wp2
    go_ret
    exact ⟨rfl, hB2⟩
  | true =>
  obtain ⟨P, rfl⟩ := Int.eq_ofNat_of_zero_le hp0
  have hv := lw_yesF hok
  rw [hv] at hlw
  have hn0 : ¬ (satN P ls : Int) < 0 := by omega
  by_cases h6 : ls.length < 6
  case neg =>
    have h6i : (6 : Int) ≤ (ls.length : Int) := by omega
    have hn1 : (-1 : Int) ≤ (satN P ls : Int) := by omega
    generalize satN P ls = n at *
    generalize ls.length = m at *
    have Hlw := Lib.hid hlw
    clear hlw hok hls hv h6
    go_wp2_with fail
    refine (Hlw.out _ _ _ HL1.out (Nat.le_refl _)).mono ?_
    rintro e w2 ⟨rfl, hb2⟩
    have hB2 : Below w.heap.size w w2 := hB1.trans (hb2.mono hB1.size)
    clear hb2
    go_wp2_with fail
    refine (alive _).mono ?_
    rintro e w' ⟨rfl, rfl⟩
    go_wp2
    go_ret
    exact ⟨rfl, hB2⟩
  have h6i : ¬ (6 : Int) ≤ (ls.length : Int) := by omega
  obtain ⟨hP1, hP4, hlen, hgl, hlm, hsame, hdiff, hn16⟩ := clash_facts hok h6
  have hgr := fun B u W h h2 => implLinkGroups (P : Int) ls B u W h h2
  rw [hgl, hlen] at hgr
  have hlw2 := fun B u W h h2 => implLinkWorlds (P : Int) (ls ++ [(0, (P : Int) - 1, true)]) B u W h h2
  rw [hlm] at hlw2
  have Hat := Lib.hid (fun k hk => vals_at (grpF P ls) k hk)
  rw [hlen] at Hat
  have Hl64 : Hid (L64 (ls ++ [(0, (P : Int) - 1, true)])) := fun l hl => by
    rcases List.mem_append.1 hl with hl | hl
    · exact hls.i64 l hl
    · rw [List.mem_singleton] at hl; subst hl
      exact ⟨I64_small (by omega) (by omega), I64_small (by show (-100 : Int) ≤ (P : Int) - 1; omega) (by show (P : Int) - 1 ≤ 100; omega)⟩
  generalize grpF P ls = r at *
  generalize satN P ls = n at *
  generalize satN P (ls ++ [(0, (P : Int) - 1, true)]) = m at *
  obtain ⟨ii, hi, hz0, hz1, hz2⟩ := info_parts Try.infoL
  have Hi := Lib.hid hi; clear hi
  have Hz0 := Lib.hid hz0; clear hz0
  have Hz1 := Lib.hid hz1; clear hz1
  have Hz2 := Lib.hid hz2; clear hz2
  have Hlw := Lib.hid hlw
  have Hlw2 := Lib.hid hlw2
  have Hgr := Lib.hid hgr
  have Hsame := Lib.hid hsame
  have Hdiff := Lib.hid hdiff
  clear hlw hok hls hv h6 hlw2 hgr hsame hdiff hlm hgl hlen
  go_wp2_with fail
  refine (Hlw.out _ _ _ HL1.out (Nat.le_refl _)).mono ?_
  rintro e w2 ⟨rfl, hb2⟩
  have HL2 := Lib.hid ((HL1.out.below (w' := w2) hb2.block).mono hb2.size)
  have hB2 : Below w.heap.size w w2 := hB1.trans (hb2.mono hB1.size)
  clear hb2
  go_wp2_with fail
  refine (Hgr.out _ _ _ HL2.out (Nat.le_refl _)).mono ?_
  rintro e w3 ⟨u, rfl, hown, hb3⟩
  obtain ⟨gb, gc, hu⟩ := ownsRow_form hown (by omega)
  subst hu
  have HL3 := Lib.hid ((HL2.out.below (w' := w3) hb3.block).mono hb3.size)
  have hB3 : Below w.heap.size w w3 := hB2.trans (hb3.mono hB2.size)
  have hcp := own_cap hown
  unfold maxLen at hcp
  have hgbs := (hown.lt gb rfl).2
  have Hg3 := Lib.hid hown
  have hown0 : (w3.alloc (.cells #[] TL)).ownsRow w3.heap.size TL 3 (.slice (some ⟨w3.heap.size, 0, none⟩) 0 0) 0 [] := World.ownsRow_made _ _ 0 (Nat.le_refl _) (by unfold maxLen; omega) rfl
  have hb0 : Below w3.heap.size w3 (w3.alloc (.cells #[] TL)) := (Below.refl _ _).alloc (Nat.le_refl _) _
  have Hq0 := Lib.hid (HL3.out.below (w' := w3.alloc (.cells #[] TL)) hb0.block)
  have Hown0 := Lib.hid hown0
  have Hb0 := Lib.hid hb0
  have hP1i : IntKind.i64.wrap ((P : Int) - 1) = (P : Int) - 1 := IntWalk.i64_in _ (by omega)
  clear hown0 hb0 hown hb3
  go_wp2_with (first
    | (at_builtin; refine wpList_append_links rfl (.tmp 35) (.tmp 36) rfl Hi.out Hz0.out Hz1.out Hz2.out rfl rfl Hown0.out Hq0.out (by omega) (by simp) ?_
       go_must (intro v7 w7 hown7 hgr7 _
                have hb7 := below_gL Hb0.out hgr7 (by simp) (fun q hq => (Hown0.out.lt q hq).1)
                have hs7 := hb7.size
                rw [Nat.zero_add, List.nil_append] at hown7
                have Hown7 := Lib.hid hown7
                have Hb7 := Lib.hid hb7
                clear hown7 hgr7 hb7))
    | (at_builtin; refine wpList_append_own _ rfl (.tmp 37) (.tmp 41) TLs rfl w3.heap.size TL ii (.agg #[.int .i64 0, .int .i64 0, .bool false]) 3 24 Try.underlying43 Hi.out Hz0.out Hz1.out Hz2.out rfl (by decide) _ _ _ rfl (Hown7.out.alloc _) ⟨w7.heap.size, 0, none⟩ 1 1 (lcells [(0, (P : Int) - 1, true)]) rfl (by rw [lcells_length]; rfl) (newsL _ _ rfl _ _ _) (lcells_one _) (by unfold maxLen; omega) (by omega) (by simp; omega) ?_
       go_must (intro v8 w8 hown8 hgr8 _
                have hb8 := below_gL (Hb7.out.alloc hs7 _) hgr8 (by simp; omega) (fun q hq => (Hown7.out.lt q hq).1)
                rw [← lcells_append] at hown8
                have HM8 := Lib.hid (RdLinks.of_own (sp := ls ++ [(0, (P : Int) - 1, true)]) (by rw [List.length_append]; exact hown8) Hl64.out)
                have Hg8 := Lib.hid (own_below Hg3.out hb8)
                have hs8 := hb8.size
                have hB8 : Below w.heap.size w w8 := hB3.trans (hb8.mono hB3.size)
                clear hown8 hgr8 hb8))
    | fail)
  refine (Hlw2.out _ _ _ HM8.out (Nat.le_refl _)).mono ?_
  rintro e w9 ⟨rfl, hb9⟩
  have hg9 := own_below Hg8.out hb9
  have hc0 := hg9.cellAt 0 (by omega)
  have hc1 := hg9.cellAt (P - 1) (by omega)
  rw [Hat.out 0 (by omega)] at hc0
  rw [Hat.out (P - 1) (by omega)] at hc1
  have hB9 : Below w.heap.size w w9 := hB8.trans (hb9.mono hB8.size)
  have hs1 := Hsame.out
  have hs2 := Hdiff.out
  obtain ⟨Q, hQ⟩ : ∃ Q, P = Q + 1 := ⟨P - 1, by omega⟩
  subst hQ
  simp only [Nat.add_sub_cancel] at hc0 hc1 hs1 hs2
  have hQ1 : (((Q + 1 : Nat) : Int) - 1) = (Q : Int) := by omega
  clear hb9 hg9 Hg3 Hg8 Hlw Hlw2 Hgr HM8 Hown7 Hb7 Hq0 Hown0 Hb0 HL1 HL2 HL3 Hsame Hdiff hB1 hB2 hB3 hB8 Hl64 Hat
  generalize r.getD 0 0 = A at *
  generalize r.getD Q 0 = C at *
  by_cases hAC : A = C
  · subst hAC
    have hmn := hs1 rfl
    clear hs1 hs2
    rcases hmn with rfl | rfl
    · go_wp2_with fail
      first
        | go_region_with (fail)
        | go_quiet (fail)
        | fail
      all_goals go_wp2
      all_goals
        go_ret
        exact ⟨rfl, by first | exact hB9 | exact below_drewN hB9 _⟩
    · by_cases hn0' : n = 0
      · subst hn0'
        go_wp2_with fail
        first
          | go_region_with (fail)
          | go_quiet (fail)
          | fail
        all_goals go_wp2
        all_goals
          go_ret
          exact ⟨rfl, by first | exact hB9 | exact below_drewN hB9 _⟩
      · have hne : ((0 : Int) == (n : Int)) = false := by rw [beq_eq_false_iff_ne]; omega
        go_wp2_with fail
        first
          | go_region_with (fail)
          | go_quiet (fail)
          | fail
        all_goals go_wp2
        all_goals
          go_ret
          exact ⟨rfl, by first | exact hB9 | exact below_drewN hB9 _⟩
  · have hmn := hs2 hAC
    have hne : ((A : Int) == (C : Int)) = false := by rw [beq_eq_false_iff_ne]; omega
    have hm2 : (2 : Int) * (m : Int) = (n : Int) := by omega
    clear hs1 hs2 hAC hmn
    go_wp2_with fail
    first
      | go_region_with (fail)
      | go_quiet (fail)
      | fail
    all_goals go_wp2_with fail
    all_goals
      refine (alive _).mono ?_
      rintro e w' ⟨rfl, rfl⟩
      go_wp2
      go_ret
      exact ⟨ret_bool (by first | rfl | (rw [IntWalk.i64_in _ (by omega)]; simp) | simp), by first | exact hB9 | exact below_drewN hB9 _⟩

set_option maxRecDepth 100000 in
theorem lifted (os : Os) (started : os.Started) (H : Type) (enc : TypeId × Value → H) :
    ReturnsInHanded {} Try.checked os 8 .any (Rows.fnLinkClashSpec.pre6 enc Try.prog Try.f8 Rows.fnLinkClashRow.domain false) (Rows.fnLinkClashSpec.post enc Try.prog Try.f8 false true false false) := by
  refine returnsInHanded_of_change (C := Try.checked) Try.own started (by kernel_rfl) Try.func8
    (ChangeSpec.witness6 (enc := enc) (C := Try.checked) false ⟨#[], #[.slice none 0 0], []⟩ 8 (by kernel_rfl) (by kernel_rfl) (by kernel_rfl) (by kernel_rfl)) ?_
  intro W base args ds gs before hval0 hW hcnd _
  have hval : ∀ (j : Nat) t v, Try.f8.params[j]? = some t → args[j]? = some v → Value.okWide Try.prog W .any base t v := hval0
  have hW' := hW
  obtain ⟨p, q, hA0, hV, rfl, hfz, hnd⟩ := hW
  have hA : DataW.TrodAll enc Try.prog W 0 (fun _ => true) true Try.f8.params.toList args.toList ds p := hA0
  rw [Try.params8] at hA hval
  obtain ⟨v0, vs0, d0, ds0, p0, q0, hargs, rfl, rfl, h0, r0⟩ := trodAll_cons hA
  obtain ⟨rfl, rfl, rfl⟩ := trodAll_nil r0
  obtain rfl : args = #[v0] := by cases args; simp_all
  obtain ⟨rfl, rfl⟩ := trodVars_none hV
  obtain ⟨a0, len0, cap0, rfl⟩ := okWide_slice Try.underlying22 (hval 0 22 v0 rfl rfl)
  have k0 := h0
  have lt0 : ∀ x ∈ p0, x.block < W.heap.size := by obtain ⟨m, hm⟩ := k0; exact DataW.trod_lt m _ _ _ hm
  obtain ⟨z0, w0⟩ : ∃ zs, IsRow .u8 W a0 len0 cap0 zs := by
    obtain ⟨fuel, hf⟩ := h0
    rcases open_ints Try.underlying22 Try.underlying5 (by kernel_rfl) hf with ⟨hcs, _⟩ | ⟨x, l, c, zs, hcs, _, hl, hm, hz, _, hcell, hwz⟩
    · simp [Value.cells] at hcs
      obtain ⟨rfl, rfl, rfl⟩ := hcs
      exact ⟨[], .inl ⟨rfl, rfl, rfl, rfl⟩⟩
    · simp [Value.cells] at hcs
      obtain ⟨rfl, rfl, rfl⟩ := hcs
      exact ⟨zs, .inr ⟨_, rfl, hl, hm, by simpa using hz, hcell, hwz⟩⟩
  clear hA0 hval0
  refine (walk _ _ W (RdBytes.of_row w0)).mono fun e W' ⟨he, bel⟩ => ?_
  subst he
  exact ⟨_, rfl, _, _, _, [], _, [], hW', trodAll_mk1 (shut_bool Try.underlying4 _), (trodAll_cons_mk (Below.trod Try.laidOut (by kernel_rfl) (of_decide_eq_true (by kernel_rfl)) k0 bel lt0) trodAll_mk0), rfl, bel.frame _, fun h => by cases h⟩

theorem closed : joinedFacts Try.pinned.checked.prog 8 Try.f8 Rows.fnLinkClashSpec Rows.fnLinkClashRow = true := by
  unfold joinedFacts
  exact (and_tt (and_tt (and_tt (and_tt (and_tt (and_tt (and_tt (and_tt (and_tt (and_tt (and_tt (and_tt (and_tt (and_tt (and_tt (and_tt (and_tt (and_tt (and_tt (and_tt (and_tt (and_tt (and_tt (and_tt (and_tt (and_tt (and_tt (and_tt (and_tt (and_tt (and_tt (by kernel_rfl) (by kernel_rfl)) (by kernel_rfl)) (by kernel_rfl)) (by kernel_rfl)) (by kernel_rfl)) (by kernel_rfl)) (by kernel_rfl)) (by kernel_rfl)) (by kernel_rfl)) (by kernel_rfl)) (by kernel_rfl)) (by kernel_rfl)) (by kernel_rfl)) (by kernel_rfl)) (by kernel_rfl)) (by kernel_rfl)) (by kernel_rfl)) (by kernel_rfl)) (by kernel_rfl)) (by kernel_rfl)) (by kernel_rfl)) (by kernel_rfl)) (by kernel_rfl)) (by kernel_rfl)) Try.mayEnter0) (lifted_tt Try.lifts0 rfl)) (make_tt Try.make0 rfl)) (by kernel_rfl)) (by kernel_rfl)) (by kernel_rfl)) (by kernel_rfl))
theorem over : Rows.fnLinkClashRow.holds Try.pinned (OpenSpec.ofChange Rows.fnLinkClashSpec) :=
  OpenClaim.holds_of_wide 8 Try.f8 rfl rfl rfl rfl rfl rfl rfl ⟨rfl, rfl, rfl, rfl, rfl⟩ rfl rfl rfl rfl rfl (by kernel_rfl) Try.func8 closed
    (of_decide_eq_true (by kernel_rfl)) (by unfold Func.isWrapper; first | (rw [if_pos (by decide +kernel)]; kernel_rfl) | (rw [if_neg (by decide +kernel)]; exact ⟨rfl, rfl⟩))
    (fun os started H enc _ => lifted os started H enc)

theorem proved : Rows.FnLinkClashSaid := over
end Go.Proofs.Ythiabicleedleaa.fnLinkClash

