/- A law of stage 9: without spies kinds are worlds. It answers true, whatever the code. No condition. -/
import Derived.Test.YtobbbmcppmohoaaDrawKi
import Derived.Test.YtobbbmcppmohoaaSpyI
import Derived.Test.YtobbbmcppmohoaaSpyN
import Derived.Test.YtobbbmcppmohoaaClaimI
import Derived.Test.YtobbbmcppmohoaaLawsA
import Derived.Deep.RegionHeld3
import Derived.Deep.Cut
import Derived.Test.YtobbbmcppmohoaaTables
import Derived.Test.YtobbbmcppmohoaaHelpers
namespace Go.Proofs.Ytobbbmcppmohoaa.fnSpyStory
open Go.ChangeShapes Go.WideShapes Go.ChangeAt Go.RowKit Go.Joins
attribute [local irreducible] holds tabN tabV holdsV sameV followsV alwaysV matterV mirV mirOk mcells tmOf claimOk mayT mayV ctabV ctabN storyV storyOk storyN storyT ctermV ctermL denyV denyOk ccells clashV onlyOk onlyN knownF knownL knownK cntK swl saysT saysV spyT spyV kindsOk kwN kwV tabF kRow spiesN fewF rowsF fewV rowsV needB needF needL leastR leastV woL
open Go.ChangeMaps (open_string shut_string)
set_option linter.unusedVariables false
set_option maxRecDepth 100000 in
set_option maxHeartbeats 8000000 in
theorem walk (a0 : Value) (n0 : Nat) (w : World) (w0 : RdBytes w w.heap.size a0 n0) :
    Calls Try.prog 6 #[a0] w fun e w' => e = .returned (.bool true) ∧ Below w.heap.size w w' := by
  have hr := w0
  by_cases hbig : n0 ≤ 1048576
  case neg =>
    obtain ⟨ao, cap, rfl, hl, hm, hc⟩ := w0
    have hbig' := code_big hbig
    unfold maxLen at hm
    clear hc hr hbig
    go_enter Try.func6, Try.ntmps6
    go_wp2
    go_ret
    exact ⟨rfl, Below.refl _ _⟩
  have hbig' : (n0 : Int) ≤ 1048576 := by omega
  clear hbig
  obtain ⟨ao, cap, rfl, hl, hm, hc⟩ := w0
  have Hr := Lib.hid hr
  clear hc hr hl hm
  go_enter Try.func6, Try.ntmps6
  go_wp2_with fail
  refine (drawSpyStory _ _ _ Hr.out).mono ?_
  rintro e w1 ⟨gz, cz, zs, v, qs, rfl, hownz, hz9, hks, hst, hqs, hq7, hB1⟩
  have HS1 := Lib.hid hst
  obtain ⟨vo, vc, hvf⟩ := own_len hst.1
  subst hvf
  clear hst
  have HQ_1 := HS1
  have HZ1 := Lib.hid hownz
  clear hownz
  have hgl : gz < w1.heap.size := (HZ1.out.lt gz rfl).2
  have Hcell : Hid (∀ k, k < zs.length → w1.cell? ⟨gz, k, none⟩ = some (.int .i64 (zs.getD k 0))) := fun k hk => by
    have h1 := HZ1.out.cellAt k (by simpa using hk)
    simpa [ints, List.getD, hk] using h1
  have hcl1 := own_cap HZ1.out
  unfold maxLen at hcl1
  obtain ⟨i0, hi0, hz0, hz1, hz2⟩ := info_parts Try.info3
  have H0 := Lib.hid hi0; clear hi0
  have Hz0 := Lib.hid hz0; clear hz0
  have Hz1 := Lib.hid hz1; clear hz1
  have Hz2 := Lib.hid hz2; clear hz2
  have him := fun B a u W h h1 h2 => implSpyStory zs qs B a u W h h1 h2
  have hsp := fun B a u W h h1 h2 => specSpyStory zs qs B a u W h h1 h2
  have hko := fun B v W h => specKindsOk zs B v W h
  have hso := fun B u W h h2 => specStoryOk (zs.length : Int) qs B u W h h2
  have Hz1' := Lib.hid (RdInts.of_own HZ1.out)
  cases hk : kindsOk zs with
  | false =>
    rw [spyV_no hk] at him hsp
    rw [hk] at hko
    have Him := Lib.hid him
    have Hsp := Lib.hid hsp
    have Hko := Lib.hid hko
    clear him hsp hko hso hk hgl hcl1
    go_wp2_with fail
    refine (Him.out _ _ _ _ Hz1'.out HQ_1.out.rd (Nat.le_refl _)).mono ?_
    rintro e w2 ⟨rfl, hb2⟩
    have Hz2' := Lib.hid ((Hz1'.out.below hb2.block).mono hb2.size)
    have HQ_2 := Lib.hid (HQ_1.out.below hb2)
    have hs2 := hb2.size
    have hB2 : Below w.heap.size w w2 := hB1.trans (hb2.mono hB1.size)
    clear hb2
    go_wp2_with fail
    refine (Hsp.out _ _ _ _ Hz2'.out HQ_2.out.rd (Nat.le_refl _)).mono ?_
    rintro e w3 ⟨rfl, hb3⟩
    have Hz3' := Lib.hid ((Hz2'.out.below hb3.block).mono hb3.size)
    have hs3 := hb3.size
    have hB3 : Below w.heap.size w w3 := hB2.trans (hb3.mono hB2.size)
    clear hb3
    go_wp2_with fail
    refine (Hko.out _ _ _ Hz3'.out).mono ?_
    rintro e w' ⟨rfl, rfl⟩
    go_wp2_with fail
    refine (alive _).mono ?_
    rintro e w' ⟨rfl, rfl⟩
    go_wp2
    go_ret
    exact ⟨rfl, hB3⟩
  | true =>
  rw [hk] at hko
  have Hko := Lib.hid hko
  cases hs : storyOk (zs.length : Int) (qs.map (·.2)) with
  | false =>
    rw [spyV_no2 hs] at him hsp
    rw [hs] at hso
    have Him := Lib.hid him
    have Hsp := Lib.hid hsp
    have Hso := Lib.hid hso
    clear him hsp hko hso hk hs hgl hcl1
    go_wp2_with fail
    refine (Him.out _ _ _ _ Hz1'.out HQ_1.out.rd (Nat.le_refl _)).mono ?_
    rintro e w2 ⟨rfl, hb2⟩
    have Hz2' := Lib.hid ((Hz1'.out.below hb2.block).mono hb2.size)
    have HQ_2 := Lib.hid (HQ_1.out.below hb2)
    have hs2 := hb2.size
    have hB2 : Below w.heap.size w w2 := hB1.trans (hb2.mono hB1.size)
    clear hb2
    go_wp2_with fail
    refine (Hsp.out _ _ _ _ Hz2'.out HQ_2.out.rd (Nat.le_refl _)).mono ?_
    rintro e w3 ⟨rfl, hb3⟩
    have Hz3' := Lib.hid ((Hz2'.out.below hb3.block).mono hb3.size)
    have HQ_3 := Lib.hid (HQ_2.out.below hb3)
    have hs3 := hb3.size
    have hB3 : Below w.heap.size w w3 := hB2.trans (hb3.mono hB2.size)
    clear hb3
    go_wp2_with fail
    refine (Hko.out _ _ _ Hz3'.out).mono ?_
    rintro e w' ⟨rfl, rfl⟩
    go_wp2_with fail
    refine (Hso.out _ _ _ HQ_3.out.rd (Nat.le_refl _)).mono ?_
    rintro e w4 ⟨rfl, hb4⟩
    have hs4 := hb4.size
    have hB4 : Below w.heap.size w w4 := hB3.trans (hb4.mono hB3.size)
    clear hb4
    go_wp2_with fail
    refine (alive _).mono ?_
    rintro e w' ⟨rfl, rfl⟩
    go_wp2
    go_ret
    exact ⟨rfl, hB4⟩
  | true =>
    obtain ⟨_hall, hl1, hl4⟩ := kindsOk_iff.1 hk
    have hlaw := fun (h : spiesN zs = 0) => spy_law9 hk hs h
    have hful := fun B a u W h h1 h2 => implSpyStory (List.replicate zs.length 2) qs B a u W h h1 h2
    rw [spyV_fullZ hk hs] at hful
    have hwk := fun B v W h => implWorldOfKinds zs B v W h
    rw [kwV_yes hk] at hwk
    have Hst := Lib.hid (fun B u W h h2 => implStoryTable (zs.length : Int) qs B u W h h2)
    have Hwi := Lib.hid (fun w => implWorldsIn (zs.length : Int) (storyV (zs.length : Int) (qs.map (·.2))) w)
    have Hsw := Lib.hid (swl_wlp9 (zs.length : Int) (qs.map (·.2)))
    rw [Hsw.out] at Hwi
    have hsl := swl_len (zs.length : Int) (qs.map (·.2))
    have Hss := Lib.hid (fun k hk => spK_succ (zs := zs) (k := k) hk)
    have Hsle := Lib.hid (fun k => spK_le zs k)
    have Hsa := Lib.hid (spK_all zs)
    rw [hs] at hso
    generalize storyV (zs.length : Int) (qs.map (·.2)) = ST at *
    generalize swl (zs.length : Int) (qs.map (·.2)) = sl at *
    generalize spyV zs (qs.map (·.2)) = T at *
    generalize kwN zs = X at *
    have Him := Lib.hid him
    have Hsp := Lib.hid hsp
    have Hso := Lib.hid hso
    have Hful := Lib.hid hful
    have Hwk := Lib.hid hwk
    have Hlaw := Lib.hid hlaw
    clear him hsp hko hso hful hwk hlaw hk hs _hall Hsw
    generalize hL : zs.length = L at *
    have HL := Lib.hid hL
    clear hL
    go_wp2_with fail
    refine (Him.out _ _ _ _ Hz1'.out HQ_1.out.rd (Nat.le_refl _)).mono ?_
    rintro e w2 ⟨rfl, hb2⟩
    have Hz2' := Lib.hid ((Hz1'.out.below hb2.block).mono hb2.size)
    have Hbk2 := Lib.hid hb2
    have HQ_2 := Lib.hid (HQ_1.out.below hb2)
    have hs2 := hb2.size
    have hB2 : Below w.heap.size w w2 := hB1.trans (hb2.mono hB1.size)
    clear hb2
    go_wp2_with fail
    refine (Hsp.out _ _ _ _ Hz2'.out HQ_2.out.rd (Nat.le_refl _)).mono ?_
    rintro e w3 ⟨rfl, hb3⟩
    have Hz3' := Lib.hid ((Hz2'.out.below hb3.block).mono hb3.size)
    have Hbk3 := Lib.hid (Hbk2.out.trans (hb3.mono Hbk2.out.size))
    have HQ_3 := Lib.hid (HQ_2.out.below hb3)
    have hs3 := hb3.size
    have hB3 : Below w.heap.size w w3 := hB2.trans (hb3.mono hB2.size)
    clear hb3
    go_wp2_with fail
    refine (Hko.out _ _ _ Hz3'.out).mono ?_
    rintro e w' ⟨rfl, rfl⟩
    go_wp2_with fail
    refine (Hso.out _ _ _ HQ_3.out.rd (Nat.le_refl _)).mono ?_
    rintro e w4 ⟨rfl, hb4⟩
    have Hz4' := Lib.hid ((Hz3'.out.below hb4.block).mono hb4.size)
    have Hbk4 := Lib.hid (Hbk3.out.trans (hb4.mono Hbk3.out.size))
    have HQ_4 := Lib.hid (HQ_3.out.below hb4)
    have hs4 := hb4.size
    have hB4 : Below w.heap.size w w4 := hB3.trans (hb4.mono hB3.size)
    clear hb4
    have hgl4 : gz < w4.heap.size := by omega
    have Hcell4 : Hid (∀ k, k < L → w4.cell? ⟨gz, k, none⟩ = some (.int .i64 (zs.getD k 0))) := fun k hk => (Hbk4.out.cell (p := ⟨gz, k, none⟩) hgl).trans (Hcell.out k hk)
    go_wp2
    go_loopw [6, 7, 8] (fun n o i wr => ∃ (k g c : Nat), k ≤ L ∧ i = .int .i64 k ∧ n = .int .i64 (spK zs k) ∧ o = .slice (some ⟨g, 0, none⟩) k c ∧ wr.ownsRow w4.heap.size 3 1 o k (ints (List.replicate k 2)) ∧ Below w4.heap.size w4 wr) (fun _ _ i _ => L - (intOf i).toNat)
    case atStart => exact ⟨0, _, _, Nat.zero_le _, rfl, by unfold spK spiesN; rfl, rfl, World.ownsRow_made _ _ 0 (Nat.le_refl _) (Nat.zero_le _) rfl, (Below.refl _ _).alloc (Nat.le_refl _) _⟩
    case round =>
      obtain ⟨k, g, c, hk, rfl, rfl, rfl, hown, hbr⟩ := hrel
      by_cases hlt : k < L
      · have hc1 := (hbr.cell (p := ⟨gz, k, none⟩) hgl4).trans (Hcell4.out k hlt)
        have hss := Hss.out k hlt
        have hsl9 := Hsle.out k
        have Hs : Hid (ints (List.replicate (k + 1) 2) = ints (List.replicate k 2) ++ [.int .i64 (2 : Int)]) := by unfold Hid; rw [List.replicate_succ']; simp [ints]
        generalize spK zs k = S at *
        by_cases h2 : zs.getD k 0 = 2
        · rw [if_pos h2] at hss
          rw [h2] at hc1
          have Hss1 := Lib.hid hss
          clear hss h2
          go_wp2_with (first
            | (at_builtin; refine wpList_append_own _ rfl _ _ 23 rfl w4.heap.size 3 i0 (.int .i64 0) 1 8 Try.underlying23 H0.out Hz0.out Hz1.out Hz2.out rfl (by decide) _ _ _ rfl (hown.alloc _) ⟨wr.heap.size, 0, none⟩ 1 1 [.int .i64 (2)] rfl rfl (news1 _ _ rfl _ _) (by simp [Value.oneCell']) (by unfold maxLen; omega) (by omega) (by have := hbr.size; simp; omega) ?_
               go_must (intro v6 w6 hown6 hgr6 _
                        obtain ⟨g6, c6, rfl⟩ := ownsRow_form hown6 (by omega)
                        have hgr6q : (wr.alloc (.cells #[.int .i64 2] 3)).grownBy w6 (some g) := hgr6
                        have hgg : w4.heap.size ≤ g := (hown.lt g rfl).1
                        have hc6 := (hgr6q.cell_far ⟨gz, k, none⟩ (by have := hbr.size; simp; omega) (by simp; omega)).trans ((World.cell?_alloc_lt wr _ ⟨gz, k, none⟩ (by have := hbr.size; show gz < _; omega)).trans hc1)
                        have hb6 : Below w4.heap.size w4 w6 := (hbr.alloc hbr.size _).grown hgr6 (by simp; have := hbr.size; omega) (fun k hk => (hown.lt k hk).1)
                        have Hb6 := Lib.hid hb6
                        have Hown6 := Lib.hid hown6
                        clear hb6 hown6 hgr6 hc1))
            | fail)
    
          go_roundw
          case rel => exact ⟨k + 1, g6, c6, by omega, by go_num, by rw [Hss1.out]; go_num, rfl, by rw [Hs.out]; exact Hown6.out, Hb6.out⟩
          case measure => simp [intOf]; omega
        · rw [if_neg h2] at hss
          have h2' : (zs.getD k 0 == 2) = false := by rw [beq_eq_false_iff_ne]; exact h2
          have Hss1 := Lib.hid hss
          generalize zs.getD k 0 = z at *
          clear hss h2
          go_wp2_with (first
            | (at_builtin; refine wpList_append_own _ rfl _ _ 23 rfl w4.heap.size 3 i0 (.int .i64 0) 1 8 Try.underlying23 H0.out Hz0.out Hz1.out Hz2.out rfl (by decide) _ _ _ rfl (hown.alloc _) ⟨wr.heap.size, 0, none⟩ 1 1 [.int .i64 (2)] rfl rfl (news1 _ _ rfl _ _) (by simp [Value.oneCell']) (by unfold maxLen; omega) (by omega) (by have := hbr.size; simp; omega) ?_
               go_must (intro v6 w6 hown6 hgr6 _
                        obtain ⟨g6, c6, rfl⟩ := ownsRow_form hown6 (by omega)
                        have hgr6q : (wr.alloc (.cells #[.int .i64 2] 3)).grownBy w6 (some g) := hgr6
                        have hgg : w4.heap.size ≤ g := (hown.lt g rfl).1
                        have hc6 := (hgr6q.cell_far ⟨gz, k, none⟩ (by have := hbr.size; simp; omega) (by simp; omega)).trans ((World.cell?_alloc_lt wr _ ⟨gz, k, none⟩ (by have := hbr.size; show gz < _; omega)).trans hc1)
                        have hb6 : Below w4.heap.size w4 w6 := (hbr.alloc hbr.size _).grown hgr6 (by simp; have := hbr.size; omega) (fun k hk => (hown.lt k hk).1)
                        have Hb6 := Lib.hid hb6
                        have Hown6 := Lib.hid hown6
                        clear hb6 hown6 hgr6 hc1))
            | fail)
    
          go_roundw
          case rel => exact ⟨k + 1, g6, c6, by omega, by go_num, by rw [Hss1.out], rfl, by rw [Hs.out]; exact Hown6.out, Hb6.out⟩
          case measure => simp [intOf]; omega
      · obtain rfl : k = L := Nat.le_antisymm hk (Nat.le_of_not_lt hlt)
        have Hro := Lib.hid (show RdInts wr wr.heap.size (.slice (some ⟨g, 0, none⟩) k c) (List.replicate k 2) from RdInts.of_own (e := 3) (base := w4.heap.size) (by rw [List.length_replicate]; exact hown))
        have Hzr := Lib.hid ((Hz4'.out.below hbr.block).mono hbr.size)
        have HQ_r := Lib.hid (HQ_4.out.below hbr)
        have hBr : Below w.heap.size w wr := hB4.trans (hbr.mono hB4.size)
        have hS : spK zs k = spiesN zs := Hsa.out
        rw [hS]
        clear hown hbr
        go_wp2_with fail
        refine (Hst.out _ _ _ HQ_r.out.rd (Nat.le_refl _)).mono ?_
        rintro e w6 ⟨rfl, hb6⟩
        have Hro6 := Lib.hid ((Hro.out.below hb6.block).mono hb6.size)
        have Hz6' := Lib.hid ((Hzr.out.below hb6.block).mono hb6.size)
        have HQ_6 := Lib.hid (HQ_r.out.below hb6)
        have hB6 : Below w.heap.size w w6 := hBr.trans (hb6.mono hBr.size)
        clear hb6
        go_wp2_with fail
        refine (Hwi.out _).mono ?_
        rintro e w7 ⟨vw, rfl, how, hb7⟩
        rw [vals_nums, ← nums_length] at how
        have Hrw := Lib.hid (RdInts.of_own how)
        obtain ⟨aw, cw, hvw⟩ := own_len how
        subst hvw
        have Hro7 := Lib.hid ((Hro6.out.below hb7.block).mono hb7.size)
        have Hz7' := Lib.hid ((Hz6'.out.below hb7.block).mono hb7.size)
        have HQ_7 := Lib.hid (HQ_6.out.below hb7)
        have hB7 : Below w.heap.size w w7 := hB6.trans (hb7.mono hB6.size)
        clear hb7 how
        go_wp2_with fail
        refine (Hful.out _ _ _ _ Hro7.out HQ_7.out.rd (Nat.le_refl _)).mono ?_
        rintro e w8 ⟨rfl, hb8⟩
        have Hz8' := Lib.hid ((Hz7'.out.below hb8.block).mono hb8.size)
        have Hrw8 := Lib.hid ((Hrw.out.below hb8.block).mono hb8.size)
        have hB8 : Below w.heap.size w w8 := hB7.trans (hb8.mono hB7.size)
        clear hb8
        have hlw := Hlaw.out
        generalize spiesN zs = S at *
        by_cases hS0 : S = 0
        · have hT := hlw hS0
          subst hS0
          clear hlw hS
          have hhi := fun B a W h => hasInt (nums sl) X B a W h
          rw [← hT] at hhi
          have Hhi := Lib.hid hhi
          clear hhi hT
          go_wp2_with fail
          refine (Hwk.out _ _ _ Hz8'.out).mono ?_
          rintro e w' ⟨rfl, rfl⟩
          go_wp2_with fail
          refine (Hhi.out _ _ _ Hrw8.out).mono ?_
          rintro e w' ⟨rfl, rfl⟩
          cases T
          all_goals
            go_wp2
            go_ret
            exact ⟨rfl, hB8⟩
        · have hSp : (0 : Int) < (S : Int) := by omega
          clear hlw hS
          go_wp2
          go_ret
          exact ⟨rfl, hB8⟩

set_option maxRecDepth 100000 in
theorem lifted (os : Os) (started : os.Started) (H : Type) (enc : TypeId × Value → H) :
    ReturnsInHanded {} Try.checked os 6 .any (Rows.fnSpyStorySpec.pre6 enc Try.prog Try.f6 Rows.fnSpyStoryRow.domain false) (Rows.fnSpyStorySpec.post enc Try.prog Try.f6 false true false false) := by
  refine returnsInHanded_of_change (C := Try.checked) Try.own started (by kernel_rfl) Try.func6
    (ChangeSpec.witness6 (enc := enc) (C := Try.checked) false ⟨#[], #[.slice none 0 0], []⟩ 8 (by kernel_rfl) (by kernel_rfl) (by kernel_rfl) (by kernel_rfl)) ?_
  intro W base args ds gs before hval0 hW hcnd _
  have hval : ∀ (j : Nat) t v, Try.f6.params[j]? = some t → args[j]? = some v → Value.okWide Try.prog W .any base t v := hval0
  have hW' := hW
  obtain ⟨p, q, hA0, hV, rfl, hfz, hnd⟩ := hW
  have hA : DataW.TrodAll enc Try.prog W 0 (fun _ => true) true Try.f6.params.toList args.toList ds p := hA0
  rw [Try.params6] at hA hval
  obtain ⟨v0, vs0, d0, ds0, p0, q0, hargs, rfl, rfl, h0, r0⟩ := trodAll_cons hA
  obtain ⟨rfl, rfl, rfl⟩ := trodAll_nil r0
  obtain rfl : args = #[v0] := by cases args; simp_all
  obtain ⟨rfl, rfl⟩ := trodVars_none hV
  obtain ⟨a0, len0, cap0, rfl⟩ := okWide_slice Try.underlying22 (hval 0 22 v0 rfl rfl)
  have k0 := h0
  have lt0 : ∀ x ∈ p0, x.block < W.heap.size := by obtain ⟨m, hm⟩ := k0; exact DataW.trod_lt m _ _ _ hm
  obtain ⟨z0, w0⟩ : ∃ zs, IsRow .u8 W a0 len0 cap0 zs := by
    obtain ⟨fuel, hf⟩ := h0
    rcases open_ints Try.underlying22 Try.underlying5 (by kernel_rfl) hf with ⟨hcs, _⟩ | ⟨x, l, c, zs, hcs, _, hl, hm, hz, _, hcell, hwz⟩
    · simp [Value.cells] at hcs
      obtain ⟨rfl, rfl, rfl⟩ := hcs
      exact ⟨[], .inl ⟨rfl, rfl, rfl, rfl⟩⟩
    · simp [Value.cells] at hcs
      obtain ⟨rfl, rfl, rfl⟩ := hcs
      exact ⟨zs, .inr ⟨_, rfl, hl, hm, by simpa using hz, hcell, hwz⟩⟩
  clear hA0 hval0
  refine (walk _ _ W (RdBytes.of_row w0)).mono fun e W' ⟨he, bel⟩ => ?_
  subst he
  exact ⟨_, rfl, _, _, _, [], _, [], hW', trodAll_mk1 (shut_bool Try.underlying4 _), (trodAll_cons_mk (Below.trod Try.laidOut (by kernel_rfl) (of_decide_eq_true (by kernel_rfl)) k0 bel lt0) trodAll_mk0), rfl, bel.frame _, fun h => by cases h⟩

theorem closed : joinedFacts Try.pinned.checked.prog 6 Try.f6 Rows.fnSpyStorySpec Rows.fnSpyStoryRow = true := by
  unfold joinedFacts
  exact (and_tt (and_tt (and_tt (and_tt (and_tt (and_tt (and_tt (and_tt (and_tt (and_tt (and_tt (and_tt (and_tt (and_tt (and_tt (and_tt (and_tt (and_tt (and_tt (and_tt (and_tt (and_tt (and_tt (and_tt (and_tt (and_tt (and_tt (and_tt (and_tt (and_tt (and_tt (by kernel_rfl) (by kernel_rfl)) (by kernel_rfl)) (by kernel_rfl)) (by kernel_rfl)) (by kernel_rfl)) (by kernel_rfl)) (by kernel_rfl)) (by kernel_rfl)) (by kernel_rfl)) (by kernel_rfl)) (by kernel_rfl)) (by kernel_rfl)) (by kernel_rfl)) (by kernel_rfl)) (by kernel_rfl)) (by kernel_rfl)) (by kernel_rfl)) (by kernel_rfl)) (by kernel_rfl)) (by kernel_rfl)) (by kernel_rfl)) (by kernel_rfl)) (by kernel_rfl)) (by kernel_rfl)) Try.mayEnter0) (lifted_tt Try.lifts0 rfl)) (make_tt Try.make0 rfl)) (by kernel_rfl)) (by kernel_rfl)) (by kernel_rfl)) (by kernel_rfl))
theorem over : Rows.fnSpyStoryRow.holds Try.pinned (OpenSpec.ofChange Rows.fnSpyStorySpec) :=
  OpenClaim.holds_of_wide 6 Try.f6 rfl rfl rfl rfl rfl rfl rfl ⟨rfl, rfl, rfl, rfl, rfl⟩ rfl rfl rfl rfl rfl (by kernel_rfl) Try.func6 closed
    (of_decide_eq_true (by kernel_rfl)) (by unfold Func.isWrapper; first | (rw [if_pos (by decide +kernel)]; kernel_rfl) | (rw [if_neg (by decide +kernel)]; exact ⟨rfl, rfl⟩))
    (fun os started H enc _ => lifted os started H enc)

theorem proved : Rows.FnSpyStorySaid := over
end Go.Proofs.Ytobbbmcppmohoaa.fnSpyStory

