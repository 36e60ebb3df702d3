/- A law of stage 9: one liar is a row of kinds. It answers true, whatever the code. No condition. -/
import Derived.Test.YtobbbmcppmohoaaDrawKi
import Derived.Test.YtobbbmcppmohoaaSpyI
import Derived.Test.YtobbbmcppmohoaaSpyN
import Derived.Test.YtobbbmcppmohoaaClaimI
import Derived.Test.YtobbbmcppmohoaaLawsA
import Derived.Deep.RegionHeld3
import Derived.Deep.Cut
import Derived.Test.YtobbbmcppmohoaaClaimD
namespace Go.Proofs.Ytobbbmcppmohoaa
open Go.RowKit Go.Joins
theorem rev_take9 {zs : List Int} {k : Nat} (hk : k < zs.length) : (zs.take (k + 1)).reverse = zs.getD k 0 :: (zs.take k).reverse := by
  have e : zs.getD k 0 = zs[k] := by simp [List.getD, hk]
  rw [List.take_succ_eq_append_getElem hk, e]; simp
theorem own_newI9 (w : World) (z : Int) : (w.alloc (.cells #[.int .i64 z] 3)).ownsRow w.heap.size 3 1 (.slice (some ⟨w.heap.size, 0, none⟩) 1 1) 1 [.int .i64 z] :=
  ⟨rfl, .inr ⟨w.heap.size, 1, _, rfl, Nat.le_refl _, heap_alloc_new w _, Nat.le_refl _, by unfold maxLen; omega, rfl, rfl⟩⟩
theorem ints_one9 (zs : List Int) : ∀ u ∈ ints zs, u.oneCell' = true := by
  intro u hu
  obtain ⟨z, _, rfl⟩ := List.mem_map.1 hu
  rfl
theorem kinds_one9 : kindsOk [0] = true := by decide
theorem kinds_none9 : kindsOk [] = false := by decide
end Go.Proofs.Ytobbbmcppmohoaa
namespace Go.Proofs.Ytobbbmcppmohoaa.fnKindsOk
open Go.ChangeShapes Go.WideShapes Go.ChangeAt Go.RowKit Go.Joins
attribute [local irreducible] holds tabN tabV holdsV sameV followsV alwaysV matterV mirV mirOk mcells tmOf claimOk mayT mayV ctabV ctabN storyV storyOk storyN storyT ctermV ctermL denyV denyOk ccells clashV onlyOk onlyN knownF knownL knownK cntK swl saysT saysV spyT spyV kindsOk kwN kwV tabF kRow spiesN fewF rowsF fewV rowsV needB needF needL leastR leastV woL
open Go.ChangeMaps (open_string shut_string)
set_option linter.unusedVariables false
set_option maxRecDepth 100000 in
set_option maxHeartbeats 8000000 in
theorem walk (a0 : Value) (n0 : Nat) (w : World) (w0 : RdBytes w w.heap.size a0 n0) :
    Calls Try.prog 3 #[a0] w fun e w' => e = .returned (.bool true) ∧ Below w.heap.size w w' := by
  have hr := w0
  by_cases hbig : n0 ≤ 1048576
  case neg =>
    obtain ⟨ao, cap, rfl, hl, hm, hc⟩ := w0
    have hbig' := code_big hbig
    unfold maxLen at hm
    clear hc hr hbig
    go_enter Try.func3, Try.ntmps3
    go_wp2
    go_ret
    exact ⟨rfl, Below.refl _ _⟩
  have hbig' : (n0 : Int) ≤ 1048576 := by omega
  clear hbig
  obtain ⟨ao, cap, rfl, hl, hm, hc⟩ := w0
  have Hr := Lib.hid hr
  clear hc hr hl hm
  go_enter Try.func3, Try.ntmps3
  go_wp2_with fail
  refine (drawKindsOk _ _ _ Hr.out).mono ?_
  rintro e w1 ⟨gz, cz, zs, rfl, hown, hz9, hks, hB1⟩
  have HZ1 := Lib.hid hown
  clear hown
  have hgl : gz < w1.heap.size := (HZ1.out.lt gz rfl).2
  have Hcell : Hid (∀ k, k < zs.length → w1.cell? ⟨gz, k, none⟩ = some (.int .i64 (zs.getD k 0))) := fun k hk => by
    have h1 := HZ1.out.cellAt k (by simpa using hk)
    simpa [ints, List.getD, hk] using h1
  have hcl1 := own_cap HZ1.out
  unfold maxLen at hcl1
  obtain ⟨i0, hi0, hz0, hz1, hz2⟩ := info_parts Try.info3
  have H0 := Lib.hid hi0; clear hi0
  have Hz0 := Lib.hid hz0; clear hz0
  have Hz1 := Lib.hid hz1; clear hz1
  have Hz2 := Lib.hid hz2; clear hz2
  have him := fun B v W h => implKindsOk zs B v W h
  have hsp := fun B v W h => specKindsOk zs B v W h
  have hba := fun B v W h => implKindsOk zs.reverse B v W h
  have hon := fun B v W h => implKindsOk [0] B v W h
  have hem := fun B v W h => implKindsOk [] B v W h
  rw [kinds_rev] at hba
  rw [kinds_one9] at hon
  rw [kinds_none9] at hem
  have Hrt := Lib.hid (fun k hk => rev_take9 (zs := zs) (k := k) hk)
  have Hrl := Lib.hid (show zs.reverse.length = zs.length from List.length_reverse)
  have Hrev := Lib.hid (show zs.take zs.length = zs from List.take_length)
  have Hil : Hid (∀ k, k ≤ zs.length → (ints (zs.take k).reverse).length = k * 1) := fun k hk => by simp [ints, Nat.min_eq_left hk]
  generalize kindsOk zs = o at *
  generalize hL : zs.length = L at *
  have HL := Lib.hid hL
  have Hrz := Lib.hid (RdInts.of_own (zs := zs) (e := 3) (base := w.heap.size) (v := .slice (some ⟨gz, 0, none⟩) L cz) (by rw [hL]; exact HZ1.out))
  have Him := Lib.hid him
  have Hsp := Lib.hid hsp
  have Hba := Lib.hid hba
  have Hon := Lib.hid hon
  have Hem := Lib.hid hem
  clear him hsp hba hon hem hL
  go_wp2_with fail
  refine (Him.out _ _ _ Hrz.out).mono ?_
  rintro e w' ⟨rfl, rfl⟩
  go_wp2_with fail
  refine (Hsp.out _ _ _ Hrz.out).mono ?_
  rintro e w' ⟨rfl, rfl⟩
  go_wp2
  go_loopw [5, 6] (fun v i wr => ∃ (k gb cb : Nat), k ≤ L ∧ i = .int .i64 k ∧ v = .slice (some ⟨gb, 0, none⟩) k cb ∧ wr.ownsRow w1.heap.size 3 1 v k (ints (zs.take k).reverse) ∧ Below w1.heap.size w1 wr) (fun _ i _ => L - (intOf i).toNat)
  case atStart => exact ⟨0, _, _, Nat.zero_le _, rfl, rfl, World.ownsRow_made _ _ 0 (Nat.le_refl _) (Nat.zero_le _) rfl, (Below.refl _ _).alloc (Nat.le_refl _) _⟩
  case round =>
    obtain ⟨k, gb, cb, hk, rfl, rfl, hownb, hbr⟩ := hrel
    have hsr := hbr.size
    by_cases hlt : k < L
    · have hc1 := (hbr.cell (p := ⟨gz, k, none⟩) hgl).trans (Hcell.out k hlt)
      have hrt := Hrt.out k hlt
      have hil := Hil.out k hk
      generalize zs.getD k 0 = z at *
      have Hrt1 := Lib.hid hrt
      have Hbr := Lib.hid hbr
      clear hrt hbr
      go_wp2_with (first
        | (at_builtin
           refine wpList_append_own _ rfl (.tmp 29) (.tmp 30) 23 rfl wr.heap.size 3 i0 (.int .i64 0) 1 8 Try.underlying23 H0.out Hz0.out Hz1.out Hz2.out rfl (by decide) (.slice (some ⟨wr.heap.size, 0, none⟩) 1 1) 1 [.int .i64 z] rfl (own_newI9 wr z) ⟨gb, 0, none⟩ k cb (ints (zs.take k).reverse) rfl hil ((hownb.alloc _).cells (g := gb) rfl) (ints_one9 _) (by unfold maxLen; omega) (by omega) (by simp) ?_
           go_must (intro v6 w6 hown6 hgr6 _
                    obtain ⟨g6, c6, rfl⟩ := ownsRow_form hown6 (by omega)
                    have hg6 : wr.grownBy w6 none := grown_own (only_alloc (World.grownBy.refl _ _) _) hgr6 (fun k hk => by simp [Value.ownBlock] at hk; omega)
                    have Hb6 := Lib.hid (Hbr.out.trans ((below_none hg6).mono hsr))
                    have Hown6 : Hid (w6.ownsRow w1.heap.size 3 1 (.slice (some ⟨g6, 0, none⟩) (k + 1) c6) (k + 1) (ints (zs.take (k + 1)).reverse)) := by
                      unfold Hid
                      rw [Hrt1.out, show ints (z :: (zs.take k).reverse) = .int .i64 z :: ints (zs.take k).reverse from rfl, Nat.add_comm k 1]
                      exact own_mono hown6 (by omega)
                    clear hg6 hgr6 hown6
                    rw [Nat.add_comm 1 k]))
        | fail)
      go_roundw
      case rel => exact ⟨k + 1, g6, c6, by omega, by go_num, rfl, Hown6.out, Hb6.out⟩
      case measure => simp [intOf]; omega
    · obtain rfl : k = L := Nat.le_antisymm hk (Nat.le_of_not_lt hlt)
      rw [Hrev.out] at hownb
      have Hrb : Hid (RdInts wr wr.heap.size (.slice (some ⟨gb, 0, none⟩) k cb) zs.reverse) := RdInts.of_own (e := 3) (base := w1.heap.size) (by rw [Hrl.out]; exact hownb)
      have HB := Lib.hid (hB1.trans (hbr.mono hB1.size))
      have Hne := Lib.hid (RdInts.of_own (own_newI9 wr 0) (zs := [0]))
      clear hownb hbr
      go_wp2_with fail
      refine (Hon.out _ _ _ Hne.out).mono ?_
      rintro e w' ⟨rfl, rfl⟩
      go_wp2_with fail
      refine (Hem.out 0 _ _ ⟨_, _, rfl, Nat.le_refl _, by unfold maxLen; simp, fun j hj => by simp at hj⟩).mono ?_
      rintro e w' ⟨rfl, rfl⟩
      go_wp2_with fail
      refine (Hba.out wr.heap.size _ _ (Hrb.out.below (below_allocs2 wr _ _).block)).mono ?_
      rintro e w' ⟨rfl, rfl⟩
      cases o
      all_goals
        go_wp2
        go_ret
        exact ⟨rfl, HB.out.trans ((below_allocs2 wr _ _).mono HB.out.size)⟩

set_option maxRecDepth 100000 in
theorem lifted (os : Os) (started : os.Started) (H : Type) (enc : TypeId × Value → H) :
    ReturnsInHanded {} Try.checked os 3 .any (Rows.fnKindsOkSpec.pre6 enc Try.prog Try.f3 Rows.fnKindsOkRow.domain false) (Rows.fnKindsOkSpec.post enc Try.prog Try.f3 false true false false) := by
  refine returnsInHanded_of_change (C := Try.checked) Try.own started (by kernel_rfl) Try.func3
    (ChangeSpec.witness6 (enc := enc) (C := Try.checked) false ⟨#[], #[.slice none 0 0], []⟩ 8 (by kernel_rfl) (by kernel_rfl) (by kernel_rfl) (by kernel_rfl)) ?_
  intro W base args ds gs before hval0 hW hcnd _
  have hval : ∀ (j : Nat) t v, Try.f3.params[j]? = some t → args[j]? = some v → Value.okWide Try.prog W .any base t v := hval0
  have hW' := hW
  obtain ⟨p, q, hA0, hV, rfl, hfz, hnd⟩ := hW
  have hA : DataW.TrodAll enc Try.prog W 0 (fun _ => true) true Try.f3.params.toList args.toList ds p := hA0
  rw [Try.params3] at hA hval
  obtain ⟨v0, vs0, d0, ds0, p0, q0, hargs, rfl, rfl, h0, r0⟩ := trodAll_cons hA
  obtain ⟨rfl, rfl, rfl⟩ := trodAll_nil r0
  obtain rfl : args = #[v0] := by cases args; simp_all
  obtain ⟨rfl, rfl⟩ := trodVars_none hV
  obtain ⟨a0, len0, cap0, rfl⟩ := okWide_slice Try.underlying22 (hval 0 22 v0 rfl rfl)
  have k0 := h0
  have lt0 : ∀ x ∈ p0, x.block < W.heap.size := by obtain ⟨m, hm⟩ := k0; exact DataW.trod_lt m _ _ _ hm
  obtain ⟨z0, w0⟩ : ∃ zs, IsRow .u8 W a0 len0 cap0 zs := by
    obtain ⟨fuel, hf⟩ := h0
    rcases open_ints Try.underlying22 Try.underlying5 (by kernel_rfl) hf with ⟨hcs, _⟩ | ⟨x, l, c, zs, hcs, _, hl, hm, hz, _, hcell, hwz⟩
    · simp [Value.cells] at hcs
      obtain ⟨rfl, rfl, rfl⟩ := hcs
      exact ⟨[], .inl ⟨rfl, rfl, rfl, rfl⟩⟩
    · simp [Value.cells] at hcs
      obtain ⟨rfl, rfl, rfl⟩ := hcs
      exact ⟨zs, .inr ⟨_, rfl, hl, hm, by simpa using hz, hcell, hwz⟩⟩
  clear hA0 hval0
  refine (walk _ _ W (RdBytes.of_row w0)).mono fun e W' ⟨he, bel⟩ => ?_
  subst he
  exact ⟨_, rfl, _, _, _, [], _, [], hW', trodAll_mk1 (shut_bool Try.underlying4 _), (trodAll_cons_mk (Below.trod Try.laidOut (by kernel_rfl) (of_decide_eq_true (by kernel_rfl)) k0 bel lt0) trodAll_mk0), rfl, bel.frame _, fun h => by cases h⟩

theorem closed : joinedFacts Try.pinned.checked.prog 3 Try.f3 Rows.fnKindsOkSpec Rows.fnKindsOkRow = true := by
  unfold joinedFacts
  exact (and_tt (and_tt (and_tt (and_tt (and_tt (and_tt (and_tt (and_tt (and_tt (and_tt (and_tt (and_tt (and_tt (and_tt (and_tt (and_tt (and_tt (and_tt (and_tt (and_tt (and_tt (and_tt (and_tt (and_tt (and_tt (and_tt (and_tt (and_tt (and_tt (and_tt (and_tt (by kernel_rfl) (by kernel_rfl)) (by kernel_rfl)) (by kernel_rfl)) (by kernel_rfl)) (by kernel_rfl)) (by kernel_rfl)) (by kernel_rfl)) (by kernel_rfl)) (by kernel_rfl)) (by kernel_rfl)) (by kernel_rfl)) (by kernel_rfl)) (by kernel_rfl)) (by kernel_rfl)) (by kernel_rfl)) (by kernel_rfl)) (by kernel_rfl)) (by kernel_rfl)) (by kernel_rfl)) (by kernel_rfl)) (by kernel_rfl)) (by kernel_rfl)) (by kernel_rfl)) (by kernel_rfl)) Try.mayEnter0) (lifted_tt Try.lifts0 rfl)) (make_tt Try.make0 rfl)) (by kernel_rfl)) (by kernel_rfl)) (by kernel_rfl)) (by kernel_rfl))
theorem over : Rows.fnKindsOkRow.holds Try.pinned (OpenSpec.ofChange Rows.fnKindsOkSpec) :=
  OpenClaim.holds_of_wide 3 Try.f3 rfl rfl rfl rfl rfl rfl rfl ⟨rfl, rfl, rfl, rfl, rfl⟩ rfl rfl rfl rfl rfl (by kernel_rfl) Try.func3 closed
    (of_decide_eq_true (by kernel_rfl)) (by unfold Func.isWrapper; first | (rw [if_pos (by decide +kernel)]; kernel_rfl) | (rw [if_neg (by decide +kernel)]; exact ⟨rfl, rfl⟩))
    (fun os started H enc _ => lifted os started H enc)

theorem proved : Rows.FnKindsOkSaid := over
end Go.Proofs.Ytobbbmcppmohoaa.fnKindsOk

