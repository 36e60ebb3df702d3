/- A law of stage 9: with a spy more no story is worse. It answers true, whatever the code. No condition. -/
import Derived.Test.YtobbbmcppmohoaaDrawKi
import Derived.Test.YtobbbmcppmohoaaSpyI
import Derived.Test.YtobbbmcppmohoaaSpyN
import Derived.Test.YtobbbmcppmohoaaClaimI
import Derived.Test.YtobbbmcppmohoaaLawsA
import Derived.Deep.RegionHeld3
import Derived.Deep.Cut
namespace Go.Proofs.Ytobbbmcppmohoaa
open Go.RowKit Go.Joins
theorem ints_one9g (zs : List Int) : ∀ u ∈ ints zs, u.oneCell' = true := by
  intro u hu
  obtain ⟨z, _, rfl⟩ := List.mem_map.1 hu
  rfl
theorem ints_set9 (zs : List Int) (k : Nat) (v : Int) : (ints zs).set k (.int .i64 v) = ints (zs.set k v) := by unfold ints; rw [List.map_set]
end Go.Proofs.Ytobbbmcppmohoaa
namespace Go.Proofs.Ytobbbmcppmohoaa.fnSpyBetter
open Go.ChangeShapes Go.WideShapes Go.ChangeAt Go.RowKit Go.Joins
attribute [local irreducible] holds tabN tabV holdsV sameV followsV alwaysV matterV mirV mirOk mcells tmOf claimOk mayT mayV ctabV ctabN storyV storyOk storyN storyT ctermV ctermL denyV denyOk ccells clashV onlyOk onlyN knownF knownL knownK cntK swl saysT saysV spyT spyV kindsOk kwN kwV tabF kRow spiesN fewF rowsF fewV rowsV needB needF needL leastR leastV woL
open Go.ChangeMaps (open_string shut_string)
set_option linter.unusedVariables false
set_option maxRecDepth 100000 in
set_option maxHeartbeats 8000000 in
theorem walk (a0 : Value) (n0 : Nat) (w : World) (w0 : RdBytes w w.heap.size a0 n0) :
    Calls Try.prog 9 #[a0] w fun e w' => e = .returned (.bool true) ∧ Below w.heap.size w w' := by
  have hr := w0
  by_cases hbig : n0 ≤ 1048576
  case neg =>
    obtain ⟨ao, cap, rfl, hl, hm, hc⟩ := w0
    have hbig' := code_big hbig
    unfold maxLen at hm
    clear hc hr hbig
    go_enter Try.func9, Try.ntmps9
    go_wp2
    go_ret
    exact ⟨rfl, Below.refl _ _⟩
  have hbig' : (n0 : Int) ≤ 1048576 := by omega
  clear hbig
  obtain ⟨ao, cap, rfl, hl, hm, hc⟩ := w0
  have Hr := Lib.hid hr
  clear hc hr hl hm
  go_enter Try.func9, Try.ntmps9
  go_wp2_with fail
  refine (drawSpyStory _ _ _ Hr.out).mono ?_
  rintro e w1 ⟨gz, cz, zs, v, qs, rfl, hownz, hz9, hks, hst, hqs, hq7, hB1⟩
  have HS1 := Lib.hid hst
  obtain ⟨vo, vc, hvf⟩ := own_len hst.1
  subst hvf
  clear hst
  have HQ_1 := HS1
  have HZ1 := Lib.hid hownz
  clear hownz
  have hgl : gz < w1.heap.size := (HZ1.out.lt gz rfl).2
  have Hcell : Hid (∀ k, k < zs.length → w1.cell? ⟨gz, k, none⟩ = some (.int .i64 (zs.getD k 0))) := fun k hk => by
    have h1 := HZ1.out.cellAt k (by simpa using hk)
    simpa [ints, List.getD, hk] using h1
  have hcl1 := own_cap HZ1.out
  unfold maxLen at hcl1
  obtain ⟨i0, hi0, hz0, hz1, hz2⟩ := info_parts Try.info3
  have H0 := Lib.hid hi0; clear hi0
  have Hz0 := Lib.hid hz0; clear hz0
  have Hz1 := Lib.hid hz1; clear hz1
  have Hz2 := Lib.hid hz2; clear hz2
  have him := fun B a u W h h1 h2 => implSpyStory zs qs B a u W h h1 h2
  have hsp := fun B a u W h h1 h2 => specSpyStory zs qs B a u W h h1 h2
  cases hT : spyV zs (qs.map (·.2)) with
  | false =>
    rw [hT] at him hsp
    have Him := Lib.hid him
    have Hsp := Lib.hid hsp
    clear him hsp hT hgl hcl1
    go_wp2_with fail
    refine (Him.out _ _ _ _ (RdInts.of_own HZ1.out) HQ_1.out.rd (Nat.le_refl _)).mono ?_
    rintro e w2 ⟨rfl, hb2⟩
    have HZ2 := Lib.hid (own_below HZ1.out hb2)
    have HQ_2 := Lib.hid (HQ_1.out.below hb2)
    have hs2 := hb2.size
    have hB2 : Below w.heap.size w w2 := hB1.trans (hb2.mono hB1.size)
    clear hb2
    go_wp2_with fail
    refine (Him.out _ _ _ _ (RdInts.of_own HZ2.out) HQ_2.out.rd (Nat.le_refl _)).mono ?_
    rintro e w3 ⟨rfl, hb3⟩
    have HZ3 := Lib.hid (own_below HZ2.out hb3)
    have HQ_3 := Lib.hid (HQ_2.out.below hb3)
    have hs3 := hb3.size
    have hB3 : Below w.heap.size w w3 := hB2.trans (hb3.mono hB2.size)
    clear hb3
    go_wp2_with fail
    refine (Hsp.out _ _ _ _ (RdInts.of_own HZ3.out) HQ_3.out.rd (Nat.le_refl _)).mono ?_
    rintro e w4 ⟨rfl, hb4⟩
    have hs4 := hb4.size
    have hB4 : Below w.heap.size w w4 := hB3.trans (hb4.mono hB3.size)
    clear hb4
    go_wp2_with fail
    refine (alive _).mono ?_
    rintro e w' ⟨rfl, rfl⟩
    go_wp2
    go_ret
    exact ⟨rfl, hB4⟩
  | true =>
    rw [hT] at him hsp
    have Hbt := Lib.hid (fun k hk h0 => spyV_better (zs := zs) (s := qs.map (·.2)) (k := k) hk h0 hT)
    have Him := Lib.hid him
    have Hsp := Lib.hid hsp
    have hil : (ints zs).length = zs.length * 1 := by simp [ints]
    clear him hsp hT
    generalize hL : zs.length = L at *
    have HL := Lib.hid hL
    have Hrz := Lib.hid (fun (W : World) (h : W.ownsRow w.heap.size 3 1 (.slice (some ⟨gz, 0, none⟩) L cz) L (ints zs)) => RdInts.of_own (zs := zs) (e := 3) (base := w.heap.size) (v := .slice (some ⟨gz, 0, none⟩) L cz) (w := W) (by rw [hL]; exact h))
    clear hL
    go_wp2_with fail
    refine (Him.out _ _ _ _ (Hrz.out _ HZ1.out) HQ_1.out.rd (Nat.le_refl _)).mono ?_
    rintro e w2 ⟨rfl, hb2⟩
    have HZ2 := Lib.hid (own_below HZ1.out hb2)
    have hgl2 : gz < w2.heap.size := (HZ2.out.lt gz rfl).2
    have HQ_2 := Lib.hid (HQ_1.out.below hb2)
    have hs2 := hb2.size
    have hB2 : Below w.heap.size w w2 := hB1.trans (hb2.mono hB1.size)
    clear hb2
    go_wp2_with fail
    refine (Hsp.out _ _ _ _ (Hrz.out _ HZ2.out) HQ_2.out.rd (Nat.le_refl _)).mono ?_
    rintro e w3 ⟨rfl, hb3⟩
    have HZ3 := Lib.hid (own_below HZ2.out hb3)
    have hgl3 : gz < w3.heap.size := (HZ3.out.lt gz rfl).2
    have HQ_3 := Lib.hid (HQ_2.out.below hb3)
    have hs3 := hb3.size
    have hB3 : Below w.heap.size w w3 := hB2.trans (hb3.mono hB2.size)
    clear hb3
    have HB3 := Lib.hid hB3
    clear hB1 hB2 hB3 hgl hgl2
    go_wp2
    go_loopw [5, 6] (fun i _ wr => ∃ k : Nat, k ≤ L ∧ i = .int .i64 k ∧ Below w3.heap.size w3 wr) (fun i _ _ => L - (intOf i).toNat)
    case atStart => exact ⟨0, Nat.zero_le _, rfl, Below.refl _ _⟩
    case round =>
      obtain ⟨k, hk, rfl, hbr⟩ := hrel
      have hsr := hbr.size
      have HZr := Lib.hid (own_below HZ3.out hbr)
      have HQ_r := Lib.hid (HQ_3.out.below hbr)
      have Hbr := Lib.hid hbr
      clear hbr
      by_cases hlt : k < L
      · have hkz : k < zs.length := by rw [HL.out]; exact hlt
        have hc1 : wr.cell? ⟨gz, k, none⟩ = some (.int .i64 (zs.getD k 0)) := by
          have h1 := HZr.out.cellAt k (by omega)
          simpa [ints, List.getD, hkz] using h1
        by_cases h0 : zs.getD k 0 = 0
        · have hb := Hbt.out k hlt h0
          have hst := fun B a u W h h1 h2 => implSpyStory (zs.set k 2) qs B a u W h h1 h2
          rw [hb] at hst
          have Hst := Lib.hid hst
          rw [h0] at hc1
          clear hb hst h0 hkz
          go_wp2_with (first
            | (at_builtin
               refine wpList_append_own _ rfl (.tmp 46) (.tmp 47) 23 rfl wr.heap.size 3 i0 (.int .i64 0) 1 8 Try.underlying23 H0.out Hz0.out Hz1.out Hz2.out rfl (by decide) (.slice (some ⟨wr.heap.size, 0, none⟩) 0 0) 0 (ints []) rfl (World.ownsRow_made _ _ 0 (Nat.le_refl _) (Nat.zero_le _) rfl) ⟨gz, 0, none⟩ L cz (ints zs) rfl hil ((HZr.out.alloc _).cells (g := gz) rfl) (ints_one9g _) (by unfold maxLen; omega) (by omega) (by simp) ?_
               go_must (intro v6 w6 hown6 hgr6 _
                        rw [Nat.zero_add] at hown6
                        obtain ⟨g6, c6, rfl⟩ := ownsRow_form hown6 (by omega)
                        have hown6' : w6.ownsRow wr.heap.size 3 1 (.slice (some ⟨g6, 0, none⟩) L c6) L (ints zs) := hown6
                        have hb6 : Below wr.heap.size wr w6 := ((Below.refl _ _).alloc (Nat.le_refl _) _).grown hgr6 (by simp) (fun k hk => by simp [Value.ownBlock] at hk; omega)
                        obtain ⟨hst1, hst2⟩ := hown6'.stored k (.int .i64 2)
                        rw [ints_set9] at hst1
                        have hfz := hown6'.frozenAt k
                        have hg6 := (hown6'.lt g6 rfl).1
                        have hb7 : Below wr.heap.size wr (w6.setCell ⟨g6, k, none⟩ (.int .i64 2)) := hb6.grown hst2 hb6.size (fun q hq => by cases hq; exact hg6)
                        obtain ⟨uc, hcu⟩ : ∃ uc, w6.cell? ⟨g6, k, none⟩ = some uc := ⟨_, by rw [hown6'.cellAt k (by omega)]; exact List.getElem?_eq_getElem (by rw [hil]; omega)⟩
                        have Hst1 := Lib.hid hst1
                        have Hb7 := Lib.hid hb7
                        clear hown6 hown6' hgr6 hb6 hst1 hst2 hb7))
            | fail)
          refine (Hst.out _ _ _ _ (RdInts.of_own (e := 3) (base := wr.heap.size) (by rw [List.length_set, HL.out]; exact Hst1.out)) ((HQ_r.out.below Hb7.out).rd) (Nat.le_refl _)).mono ?_
          rintro e w8 ⟨rfl, hb8⟩
          have Hb8 := Lib.hid (Hbr.out.trans ((Hb7.out.trans (hb8.mono Hb7.out.size)).mono hsr))
          clear hb8
          go_wp2
          go_roundw
          case rel => first | exact ⟨k + 1, by omega, by go_num, Hb8.out⟩ | ((repeat apply Exists.intro); exact ⟨⟨k + 1, by omega, by go_num, Hb8.out⟩, rfl⟩)
          case measure => simp [intOf]; omega
        · have h0' : (zs.getD k 0 != 0) = true := by rw [bne_iff_ne]; exact h0
          clear h0 hkz
          generalize zs.getD k 0 = z at *
          go_wp2
          go_roundw
          case rel => first | exact ⟨k + 1, by omega, by go_num, Hbr.out⟩ | ((repeat apply Exists.intro); exact ⟨⟨k + 1, by omega, by go_num, Hbr.out⟩, rfl⟩)
          case measure => simp [intOf]; omega
      · obtain rfl : k = L := Nat.le_antisymm hk (Nat.le_of_not_lt hlt)
        go_wp2_with fail
        refine (alive _).mono ?_
        rintro e w' ⟨rfl, rfl⟩
        go_wp2
        go_ret
        exact ⟨rfl, HB3.out.trans (Hbr.out.mono HB3.out.size)⟩

set_option maxRecDepth 100000 in
theorem lifted (os : Os) (started : os.Started) (H : Type) (enc : TypeId × Value → H) :
    ReturnsInHanded {} Try.checked os 9 .any (Rows.fnSpyBetterSpec.pre6 enc Try.prog Try.f9 Rows.fnSpyBetterRow.domain false) (Rows.fnSpyBetterSpec.post enc Try.prog Try.f9 false true false false) := by
  refine returnsInHanded_of_change (C := Try.checked) Try.own started (by kernel_rfl) Try.func9
    (ChangeSpec.witness6 (enc := enc) (C := Try.checked) false ⟨#[], #[.slice none 0 0], []⟩ 8 (by kernel_rfl) (by kernel_rfl) (by kernel_rfl) (by kernel_rfl)) ?_
  intro W base args ds gs before hval0 hW hcnd _
  have hval : ∀ (j : Nat) t v, Try.f9.params[j]? = some t → args[j]? = some v → Value.okWide Try.prog W .any base t v := hval0
  have hW' := hW
  obtain ⟨p, q, hA0, hV, rfl, hfz, hnd⟩ := hW
  have hA : DataW.TrodAll enc Try.prog W 0 (fun _ => true) true Try.f9.params.toList args.toList ds p := hA0
  rw [Try.params9] at hA hval
  obtain ⟨v0, vs0, d0, ds0, p0, q0, hargs, rfl, rfl, h0, r0⟩ := trodAll_cons hA
  obtain ⟨rfl, rfl, rfl⟩ := trodAll_nil r0
  obtain rfl : args = #[v0] := by cases args; simp_all
  obtain ⟨rfl, rfl⟩ := trodVars_none hV
  obtain ⟨a0, len0, cap0, rfl⟩ := okWide_slice Try.underlying22 (hval 0 22 v0 rfl rfl)
  have k0 := h0
  have lt0 : ∀ x ∈ p0, x.block < W.heap.size := by obtain ⟨m, hm⟩ := k0; exact DataW.trod_lt m _ _ _ hm
  obtain ⟨z0, w0⟩ : ∃ zs, IsRow .u8 W a0 len0 cap0 zs := by
    obtain ⟨fuel, hf⟩ := h0
    rcases open_ints Try.underlying22 Try.underlying5 (by kernel_rfl) hf with ⟨hcs, _⟩ | ⟨x, l, c, zs, hcs, _, hl, hm, hz, _, hcell, hwz⟩
    · simp [Value.cells] at hcs
      obtain ⟨rfl, rfl, rfl⟩ := hcs
      exact ⟨[], .inl ⟨rfl, rfl, rfl, rfl⟩⟩
    · simp [Value.cells] at hcs
      obtain ⟨rfl, rfl, rfl⟩ := hcs
      exact ⟨zs, .inr ⟨_, rfl, hl, hm, by simpa using hz, hcell, hwz⟩⟩
  clear hA0 hval0
  refine (walk _ _ W (RdBytes.of_row w0)).mono fun e W' ⟨he, bel⟩ => ?_
  subst he
  exact ⟨_, rfl, _, _, _, [], _, [], hW', trodAll_mk1 (shut_bool Try.underlying4 _), (trodAll_cons_mk (Below.trod Try.laidOut (by kernel_rfl) (of_decide_eq_true (by kernel_rfl)) k0 bel lt0) trodAll_mk0), rfl, bel.frame _, fun h => by cases h⟩

theorem closed : joinedFacts Try.pinned.checked.prog 9 Try.f9 Rows.fnSpyBetterSpec Rows.fnSpyBetterRow = true := by
  unfold joinedFacts
  exact (and_tt (and_tt (and_tt (and_tt (and_tt (and_tt (and_tt (and_tt (and_tt (and_tt (and_tt (and_tt (and_tt (and_tt (and_tt (and_tt (and_tt (and_tt (and_tt (and_tt (and_tt (and_tt (and_tt (and_tt (and_tt (and_tt (and_tt (and_tt (and_tt (and_tt (and_tt (by kernel_rfl) (by kernel_rfl)) (by kernel_rfl)) (by kernel_rfl)) (by kernel_rfl)) (by kernel_rfl)) (by kernel_rfl)) (by kernel_rfl)) (by kernel_rfl)) (by kernel_rfl)) (by kernel_rfl)) (by kernel_rfl)) (by kernel_rfl)) (by kernel_rfl)) (by kernel_rfl)) (by kernel_rfl)) (by kernel_rfl)) (by kernel_rfl)) (by kernel_rfl)) (by kernel_rfl)) (by kernel_rfl)) (by kernel_rfl)) (by kernel_rfl)) (by kernel_rfl)) (by kernel_rfl)) Try.mayEnter0) (lifted_tt Try.lifts0 rfl)) (make_tt Try.make0 rfl)) (by kernel_rfl)) (by kernel_rfl)) (by kernel_rfl)) (by kernel_rfl))
theorem over : Rows.fnSpyBetterRow.holds Try.pinned (OpenSpec.ofChange Rows.fnSpyBetterSpec) :=
  OpenClaim.holds_of_wide 9 Try.f9 rfl rfl rfl rfl rfl rfl rfl ⟨rfl, rfl, rfl, rfl, rfl⟩ rfl rfl rfl rfl rfl (by kernel_rfl) Try.func9 closed
    (of_decide_eq_true (by kernel_rfl)) (by unfold Func.isWrapper; first | (rw [if_pos (by decide +kernel)]; kernel_rfl) | (rw [if_neg (by decide +kernel)]; exact ⟨rfl, rfl⟩))
    (fun os started H enc _ => lifted os started H enc)

theorem proved : Rows.FnSpyBetterSaid := over
end Go.Proofs.Ytobbbmcppmohoaa.fnSpyBetter

