/- A law of stage 9: spies are no tellers. It answers true, whatever the code. No condition. -/
import Derived.Test.YtobbbmcppmohoaaDrawKi
import Derived.Test.YtobbbmcppmohoaaSpyI
import Derived.Test.YtobbbmcppmohoaaSpyN
import Derived.Test.YtobbbmcppmohoaaClaimI
import Derived.Test.YtobbbmcppmohoaaLawsA
import Derived.Deep.RegionHeld3
import Derived.Deep.Cut
import Derived.Test.YtobbbmcppmohoaaTables
import Derived.Test.YtobbbmcppmohoaaPeople
namespace Go.Proofs.Ytobbbmcppmohoaa.fnWorldOfKinds
open Go.ChangeShapes Go.WideShapes Go.ChangeAt Go.RowKit Go.Joins
attribute [local irreducible] holds tabN tabV holdsV sameV followsV alwaysV matterV mirV mirOk mcells tmOf claimOk mayT mayV ctabV ctabN storyV storyOk storyN storyT ctermV ctermL denyV denyOk ccells clashV onlyOk onlyN knownF knownL knownK cntK swl saysT saysV spyT spyV kindsOk kwN kwV tabF kRow spiesN fewF rowsF fewV rowsV needB needF needL leastR leastV woL
open Go.ChangeMaps (open_string shut_string)
set_option linter.unusedVariables false
set_option maxRecDepth 100000 in
set_option maxHeartbeats 8000000 in
theorem walk (a0 : Value) (n0 : Nat) (w : World) (w0 : RdBytes w w.heap.size a0 n0) :
    Calls Try.prog 4 #[a0] w fun e w' => e = .returned (.bool true) ∧ Below w.heap.size w w' := by
  have hr := w0
  by_cases hbig : n0 ≤ 1048576
  case neg =>
    obtain ⟨ao, cap, rfl, hl, hm, hc⟩ := w0
    have hbig' := code_big hbig
    unfold maxLen at hm
    clear hc hr hbig
    go_enter Try.func4, Try.ntmps4
    go_wp2
    go_ret
    exact ⟨rfl, Below.refl _ _⟩
  have hbig' : (n0 : Int) ≤ 1048576 := by omega
  clear hbig
  obtain ⟨ao, cap, rfl, hl, hm, hc⟩ := w0
  have Hr := Lib.hid hr
  clear hc hr hl hm
  go_enter Try.func4, Try.ntmps4
  go_wp2_with fail
  refine (drawWorldOfKinds _ _ _ Hr.out).mono ?_
  rintro e w1 ⟨gz, cz, zs, rfl, hown, hz9, hks, hB1⟩
  have HZ1 := Lib.hid hown
  clear hown
  have hgl : gz < w1.heap.size := (HZ1.out.lt gz rfl).2
  have Hcell : Hid (∀ k, k < zs.length → w1.cell? ⟨gz, k, none⟩ = some (.int .i64 (zs.getD k 0))) := fun k hk => by
    have h1 := HZ1.out.cellAt k (by simpa using hk)
    simpa [ints, List.getD, hk] using h1
  have hcl1 := own_cap HZ1.out
  unfold maxLen at hcl1
  have him := fun B v W h => implWorldOfKinds zs B v W h
  have hsp := fun B v W h => specWorldOfKinds zs B v W h
  have hko := fun B v W h => implKindsOk zs B v W h
  cases hk : kindsOk zs with
  | false =>
    rw [kwV_no hk] at him hsp
    rw [hk] at hko
    have Him := Lib.hid him
    have Hsp := Lib.hid hsp
    have Hko := Lib.hid hko
    clear him hsp hko hk hgl hcl1
    go_wp2_with fail
    refine (Him.out _ _ _ (RdInts.of_own HZ1.out)).mono ?_
    rintro e w' ⟨rfl, rfl⟩
    go_wp2_with fail
    refine (Hsp.out _ _ _ (RdInts.of_own HZ1.out)).mono ?_
    rintro e w' ⟨rfl, rfl⟩
    go_wp2_with fail
    refine (Hko.out _ _ _ (RdInts.of_own HZ1.out)).mono ?_
    rintro e w' ⟨rfl, rfl⟩
    go_wp2_with fail
    refine (alive _).mono ?_
    rintro e w' ⟨rfl, rfl⟩
    go_wp2
    go_ret
    exact ⟨rfl, hB1⟩
  | true =>
    obtain ⟨i0, hi0, hz0, hz1, hz2⟩ := info_parts Try.info3
    have H0 := Lib.hid hi0; clear hi0
    have Hz0 := Lib.hid hz0; clear hz0
    have Hz1 := Lib.hid hz1; clear hz1
    have Hz2 := Lib.hid hz2; clear hz2
    rw [kwV_yes hk] at him hsp
    have Hth := Lib.hid (tlK_all (zs := zs) (by omega))
    have hwk := kw_wOk hk
    have hot := fun B v W h => implWorldOfKinds (otherL zs) B v W h
    rw [other_kwV hk] at hot
    have Hwo := Lib.hid (fun w => implWorldOk (zs.length : Int) (kwN zs : Int) w)
    rw [hwk] at Hwo
    have Hte := Lib.hid (fun w => implTellersIn_yes (zs.length : Int) (kwN zs : Int) (Lib.hid hwk) w)
    rw [Int.toNat_natCast] at Hte
    have Hol := Lib.hid (otherL_len zs)
    have Htk := Lib.hid (show otherL (zs.take zs.length) = otherL zs by rw [List.take_length])
    have Hos := Lib.hid (fun k hk => otherL_succ (zs := zs) (k := k) hk)
    have Hts := Lib.hid (fun k hk => tlK_succ (zs := zs) (k := k) hk)
    have Htl := Lib.hid (fun k => tlK_le zs k)
    generalize kwN zs = X at *
    generalize hL : zs.length = L at *
    have HL := Lib.hid hL
    have Him := Lib.hid him
    have Hsp := Lib.hid hsp
    have Hot := Lib.hid hot
    have Hrz := Lib.hid (RdInts.of_own (zs := zs) (e := 3) (base := w.heap.size) (v := .slice (some ⟨gz, 0, none⟩) L cz) (by rw [hL]; exact HZ1.out))
    clear him hsp hko hk hwk hot hL
    have hXn : ¬ ((X : Int) < 0) := by omega
    go_wp2_with fail
    refine (Him.out _ _ _ Hrz.out).mono ?_
    rintro e w' ⟨rfl, rfl⟩
    go_wp2_with fail
    refine (Hsp.out _ _ _ Hrz.out).mono ?_
    rintro e w' ⟨rfl, rfl⟩
    go_wp2
    go_loopw [5, 6, 7, 8] (fun o t i _ wr => ∃ (k g c : Nat), k ≤ L ∧ i = .int .i64 k ∧ t = .int .i64 (tlK zs k) ∧ o = .slice (some ⟨g, 0, none⟩) k c ∧ wr.ownsRow w1.heap.size 3 1 o k (ints (otherL (zs.take k))) ∧ Below w1.heap.size w1 wr) (fun _ _ i _ _ => L - (intOf i).toNat)
    case atStart => exact ⟨0, _, _, Nat.zero_le _, rfl, rfl, rfl, World.ownsRow_made _ _ 0 (Nat.le_refl _) (Nat.zero_le _) rfl, (Below.refl _ _).alloc (Nat.le_refl _) _⟩
    case round =>
      obtain ⟨k, g, c, hk, rfl, rfl, rfl, hown, hbr⟩ := hrel
      by_cases hlt : k < L
      · have hc1 := (hbr.cell (p := ⟨gz, k, none⟩) hgl).trans (Hcell.out k hlt)
        have hos := Hos.out k hlt
        have hts := Hts.out k hlt
        have htl := Htl.out k
        generalize tlK zs k = T at *
        by_cases h2 : zs.getD k 0 = 2
        · rw [if_pos h2] at hos
          rw [if_neg (by rw [h2]; decide)] at hts
          rw [h2] at hc1
          have Hs : Hid (ints (otherL (zs.take (k + 1))) = ints (otherL (zs.take k)) ++ [.int .i64 (0 : Int)]) := by unfold Hid; rw [hos]; simp [ints]
          have Hts1 := Lib.hid hts
          clear hos hts h2
          go_wp2_with (first
            | (at_builtin; refine wpList_append_own _ rfl _ _ 23 rfl w1.heap.size 3 i0 (.int .i64 0) 1 8 Try.underlying23 H0.out Hz0.out Hz1.out Hz2.out rfl (by decide) _ _ _ rfl (hown.alloc _) ⟨wr.heap.size, 0, none⟩ 1 1 [.int .i64 (0)] rfl rfl (news1 _ _ rfl _ _) (by simp [Value.oneCell']) (by unfold maxLen; omega) (by omega) (by have := hbr.size; simp; omega) ?_
               go_must (intro v6 w6 hown6 hgr6 _
                        obtain ⟨g6, c6, rfl⟩ := ownsRow_form hown6 (by omega)
                        have hb6 : Below w1.heap.size w1 w6 := (hbr.alloc hbr.size _).grown hgr6 (by simp; have := hbr.size; omega) (fun k hk => (hown.lt k hk).1)
                        have Hb6 := Lib.hid hb6
                        have Hown6 := Lib.hid hown6
                        clear hb6 hown6 hgr6))
            | fail)
    
          go_roundw
          case rel => exact ⟨k + 1, g6, c6, by omega, by go_num, by rw [Hts1.out], rfl, by rw [Hs.out]; exact Hown6.out, Hb6.out⟩
          case measure => simp [intOf]; omega
        · rw [if_neg h2] at hos
          have h2' : (zs.getD k 0 == 2) = false := by rw [beq_eq_false_iff_ne]; exact h2
          by_cases h1 : zs.getD k 0 = 1
          · rw [if_pos h1] at hts
            rw [h1] at hc1 hos
            have Hs : Hid (ints (otherL (zs.take (k + 1))) = ints (otherL (zs.take k)) ++ [.int .i64 (1 : Int)]) := by unfold Hid; rw [hos]; simp [ints]
            have Hts1 := Lib.hid hts
            clear hos hts h2 h1 h2'
            go_wp2_with (first
              | (at_builtin; refine wpList_append_own _ rfl _ _ 23 rfl w1.heap.size 3 i0 (.int .i64 0) 1 8 Try.underlying23 H0.out Hz0.out Hz1.out Hz2.out rfl (by decide) _ _ _ rfl (hown.alloc _) ⟨wr.heap.size, 0, none⟩ 1 1 [.int .i64 (1)] rfl rfl (news1 _ _ rfl _ _) (by simp [Value.oneCell']) (by unfold maxLen; omega) (by omega) (by have := hbr.size; simp; omega) ?_
                 go_must (intro v6 w6 hown6 hgr6 _
                          obtain ⟨g6, c6, rfl⟩ := ownsRow_form hown6 (by omega)
                          have hb6 : Below w1.heap.size w1 w6 := (hbr.alloc hbr.size _).grown hgr6 (by simp; have := hbr.size; omega) (fun k hk => (hown.lt k hk).1)
                          have Hb6 := Lib.hid hb6
                          have Hown6 := Lib.hid hown6
                          clear hb6 hown6 hgr6))
              | fail)
      
            go_roundw
            case rel => exact ⟨k + 1, g6, c6, by omega, by go_num, by rw [Hts1.out]; go_num, rfl, by rw [Hs.out]; exact Hown6.out, Hb6.out⟩
            case measure => simp [intOf]; omega
          · rw [if_neg h1] at hts
            have h1' : (zs.getD k 0 == 1) = false := by rw [beq_eq_false_iff_ne]; exact h1
            have Hts1 := Lib.hid hts
            generalize zs.getD k 0 = z at *
            have Hs : Hid (ints (otherL (zs.take (k + 1))) = ints (otherL (zs.take k)) ++ [.int .i64 z]) := by unfold Hid; rw [hos]; simp [ints]
            clear hos hts h2 h1
            go_wp2_with (first
              | (at_builtin; refine wpList_append_own _ rfl _ _ 23 rfl w1.heap.size 3 i0 (.int .i64 0) 1 8 Try.underlying23 H0.out Hz0.out Hz1.out Hz2.out rfl (by decide) _ _ _ rfl (hown.alloc _) ⟨wr.heap.size, 0, none⟩ 1 1 [.int .i64 (z)] rfl rfl (news1 _ _ rfl _ _) (by simp [Value.oneCell']) (by unfold maxLen; omega) (by omega) (by have := hbr.size; simp; omega) ?_
                 go_must (intro v6 w6 hown6 hgr6 _
                          obtain ⟨g6, c6, rfl⟩ := ownsRow_form hown6 (by omega)
                          have hb6 : Below w1.heap.size w1 w6 := (hbr.alloc hbr.size _).grown hgr6 (by simp; have := hbr.size; omega) (fun k hk => (hown.lt k hk).1)
                          have Hb6 := Lib.hid hb6
                          have Hown6 := Lib.hid hown6
                          clear hb6 hown6 hgr6))
              | fail)
      
            go_roundw
            case rel => exact ⟨k + 1, g6, c6, by omega, by go_num, by rw [Hts1.out], rfl, by rw [Hs.out]; exact Hown6.out, Hb6.out⟩
            case measure => simp [intOf]; omega
      · obtain rfl : k = L := Nat.le_antisymm hk (Nat.le_of_not_lt hlt)
        rw [Htk.out] at hown
        have Hro : Hid (RdInts wr wr.heap.size (.slice (some ⟨g, 0, none⟩) k c) (otherL zs)) := RdInts.of_own (e := 3) (base := w1.heap.size) (by rw [Hol.out]; exact hown)
        have HB := Lib.hid (hB1.trans (hbr.mono hB1.size))
        rw [Hth.out]
        clear hown hbr
        go_wp2_with fail
        refine (Hwo.out _).mono ?_
        rintro e w' ⟨rfl, rfl⟩
        go_wp2_with fail
        refine (Hte.out _).mono ?_
        rintro e w' ⟨rfl, rfl⟩
        go_wp2_with fail
        refine (Hot.out _ _ _ Hro.out).mono ?_
        rintro e w' ⟨rfl, rfl⟩
        go_wp2
        go_ret
        exact ⟨rfl, HB.out⟩

set_option maxRecDepth 100000 in
theorem lifted (os : Os) (started : os.Started) (H : Type) (enc : TypeId × Value → H) :
    ReturnsInHanded {} Try.checked os 4 .any (Rows.fnWorldOfKindsSpec.pre6 enc Try.prog Try.f4 Rows.fnWorldOfKindsRow.domain false) (Rows.fnWorldOfKindsSpec.post enc Try.prog Try.f4 false true false false) := by
  refine returnsInHanded_of_change (C := Try.checked) Try.own started (by kernel_rfl) Try.func4
    (ChangeSpec.witness6 (enc := enc) (C := Try.checked) false ⟨#[], #[.slice none 0 0], []⟩ 8 (by kernel_rfl) (by kernel_rfl) (by kernel_rfl) (by kernel_rfl)) ?_
  intro W base args ds gs before hval0 hW hcnd _
  have hval : ∀ (j : Nat) t v, Try.f4.params[j]? = some t → args[j]? = some v → Value.okWide Try.prog W .any base t v := hval0
  have hW' := hW
  obtain ⟨p, q, hA0, hV, rfl, hfz, hnd⟩ := hW
  have hA : DataW.TrodAll enc Try.prog W 0 (fun _ => true) true Try.f4.params.toList args.toList ds p := hA0
  rw [Try.params4] at hA hval
  obtain ⟨v0, vs0, d0, ds0, p0, q0, hargs, rfl, rfl, h0, r0⟩ := trodAll_cons hA
  obtain ⟨rfl, rfl, rfl⟩ := trodAll_nil r0
  obtain rfl : args = #[v0] := by cases args; simp_all
  obtain ⟨rfl, rfl⟩ := trodVars_none hV
  obtain ⟨a0, len0, cap0, rfl⟩ := okWide_slice Try.underlying22 (hval 0 22 v0 rfl rfl)
  have k0 := h0
  have lt0 : ∀ x ∈ p0, x.block < W.heap.size := by obtain ⟨m, hm⟩ := k0; exact DataW.trod_lt m _ _ _ hm
  obtain ⟨z0, w0⟩ : ∃ zs, IsRow .u8 W a0 len0 cap0 zs := by
    obtain ⟨fuel, hf⟩ := h0
    rcases open_ints Try.underlying22 Try.underlying5 (by kernel_rfl) hf with ⟨hcs, _⟩ | ⟨x, l, c, zs, hcs, _, hl, hm, hz, _, hcell, hwz⟩
    · simp [Value.cells] at hcs
      obtain ⟨rfl, rfl, rfl⟩ := hcs
      exact ⟨[], .inl ⟨rfl, rfl, rfl, rfl⟩⟩
    · simp [Value.cells] at hcs
      obtain ⟨rfl, rfl, rfl⟩ := hcs
      exact ⟨zs, .inr ⟨_, rfl, hl, hm, by simpa using hz, hcell, hwz⟩⟩
  clear hA0 hval0
  refine (walk _ _ W (RdBytes.of_row w0)).mono fun e W' ⟨he, bel⟩ => ?_
  subst he
  exact ⟨_, rfl, _, _, _, [], _, [], hW', trodAll_mk1 (shut_bool Try.underlying4 _), (trodAll_cons_mk (Below.trod Try.laidOut (by kernel_rfl) (of_decide_eq_true (by kernel_rfl)) k0 bel lt0) trodAll_mk0), rfl, bel.frame _, fun h => by cases h⟩

theorem closed : joinedFacts Try.pinned.checked.prog 4 Try.f4 Rows.fnWorldOfKindsSpec Rows.fnWorldOfKindsRow = true := by
  unfold joinedFacts
  exact (and_tt (and_tt (and_tt (and_tt (and_tt (and_tt (and_tt (and_tt (and_tt (and_tt (and_tt (and_tt (and_tt (and_tt (and_tt (and_tt (and_tt (and_tt (and_tt (and_tt (and_tt (and_tt (and_tt (and_tt (and_tt (and_tt (and_tt (and_tt (and_tt (and_tt (and_tt (by kernel_rfl) (by kernel_rfl)) (by kernel_rfl)) (by kernel_rfl)) (by kernel_rfl)) (by kernel_rfl)) (by kernel_rfl)) (by kernel_rfl)) (by kernel_rfl)) (by kernel_rfl)) (by kernel_rfl)) (by kernel_rfl)) (by kernel_rfl)) (by kernel_rfl)) (by kernel_rfl)) (by kernel_rfl)) (by kernel_rfl)) (by kernel_rfl)) (by kernel_rfl)) (by kernel_rfl)) (by kernel_rfl)) (by kernel_rfl)) (by kernel_rfl)) (by kernel_rfl)) (by kernel_rfl)) Try.mayEnter0) (lifted_tt Try.lifts0 rfl)) (make_tt Try.make0 rfl)) (by kernel_rfl)) (by kernel_rfl)) (by kernel_rfl)) (by kernel_rfl))
theorem over : Rows.fnWorldOfKindsRow.holds Try.pinned (OpenSpec.ofChange Rows.fnWorldOfKindsSpec) :=
  OpenClaim.holds_of_wide 4 Try.f4 rfl rfl rfl rfl rfl rfl rfl ⟨rfl, rfl, rfl, rfl, rfl⟩ rfl rfl rfl rfl rfl (by kernel_rfl) Try.func4 closed
    (of_decide_eq_true (by kernel_rfl)) (by unfold Func.isWrapper; first | (rw [if_pos (by decide +kernel)]; kernel_rfl) | (rw [if_neg (by decide +kernel)]; exact ⟨rfl, rfl⟩))
    (fun os started H enc _ => lifted os started H enc)

theorem proved : Rows.FnWorldOfKindsSaid := over
end Go.Proofs.Ytobbbmcppmohoaa.fnWorldOfKinds

